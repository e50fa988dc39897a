/- Drop of a node. -/
import Derived.Test.YtmogjhljmljpfaaDoorKr9
namespace Go.Proofs.YtmogjhljmljpfaaDoor
set_option maxRecDepth 20000
open Go.RowKit Go.Sort
set_option linter.unusedVariables false
theorem delete_own (w : World) (v : Value) (A B : List Nat) (x : Nat) (h : w.ownsRow 0 31 1 v (A.length + B.length + 1) (u32s (A ++ x :: B))) (hn : A.length + B.length ≤ 1000000) :
    Calls Tryd.prog 29 #[v, .int .i64 (A.length : Nat), .int .i64 ((A.length : Int) + 1)] w fun r w' => ∃ a c, r = .returned (.slice a (A.length + B.length) c) ∧ w'.ownsRow 0 31 1 (.slice a (A.length + B.length) c) (A.length + B.length) (u32s (A ++ B)) ∧ w.grownBy w' v.ownBlock ∧ (Value.slice a (A.length + B.length) c).ownBlock = v.ownBlock := by
  rcases h.2 with ⟨_, h0⟩ | ⟨b, c, cur, rfl, _, hg, h1, h2, h3, h4⟩
  · omega
  · have lab : (u32s (A ++ x :: B)).length = A.length + B.length + 1 := by rw [u32s_length]; simp; omega
    have hb : Blk w b 31 (u32s (A ++ x :: B) ++ cur.toList.drop (A.length + B.length + 1)) := by
      unfold Blk
      have : u32s (A ++ x :: B) = cur.toList.take (A.length + B.length + 1) := by rw [← h4]; simp
      rw [this, List.take_append_drop]; exact hg
    have hr : A.length + B.length + 1 + (cur.toList.drop (A.length + B.length + 1)).length = c := by
      have : cur.toList.length = c := by rw [Array.length_toList, h3]; omega
      simp only [List.length_drop, this]; omega
    refine (delete_any w b c _ A B x hb hr h2 hn).mono ?_
    rintro r w' ⟨rfl, b2, g2⟩
    have lf : (u32s (A ++ B)).length = (A.length + B.length) * 1 := by rw [u32s_length]; simp
    refine ⟨_, _, rfl, ⟨lf, .inr ⟨b, c, _, rfl, by omega, b2, by omega, h2, ?_, ?_⟩⟩, g2, rfl⟩
    · rw [List.size_toArray, List.length_append, lf, List.length_cons, List.length_drop]
      have : cur.toList.length = c := by rw [Array.length_toList, h3]; omega
      omega
    · rw [List.toList_toArray, ← lf]; exact List.take_left
section
variable {g s : Nat} {f : Nat → Nat} {K : Nat → Prop} {w : World}
set_option maxHeartbeats 1000000 in
theorem kdrop_nil (b : Int) : Calls Tryd.prog 12 #[.pointer none, .int .u8 b] w fun r w' => r = .returned (.tuple #[.int .u32 0, .bool false]) ∧ w' = w := by
  go_enter Tryd.func12, Tryd.ntmps12
  go_wp2
  refine bodyPost_ret (results_tmp2 rfl _ _ _) rfl ?_
  exact ⟨rfl, rfl⟩
set_option maxHeartbeats 1000000 in
theorem kdrop_none (h : Kd g s f K w) (b : Nat) (hb : b < 256) (hf : f b = 0) : Calls Tryd.prog 12 #[.pointer (some ⟨g, 0, none⟩), .int .u8 (b : Int)] w fun r w' => r = .returned (.tuple #[.int .u32 0, .bool false]) ∧ Below w.heap.size w w' := by
  obtain ⟨x0, x1, x2, x3, v, h⟩ := h
  obtain ⟨c0, c1, c2, c3, c4, -⟩ := h.cells
  have R := fun w => has4 (m := [x0, x1, x2, x3]) rfl h.ok b hb w
  have hi : isC f b = false := by simp [isC, hf]
  rw [h.tl b hb, hi] at R
  clear h
  go_enter Tryd.func12, Tryd.ntmps12
  go_wp2_with (go_at_call 23; refine (R _).mono ?_; rintro e w5 ⟨rfl, f5⟩; have F5 := hide f5; clear f5)
  refine bodyPost_ret (results_tmp2 rfl _ _ _) rfl ?_
  exact ⟨rfl, F5.out⟩
set_option maxHeartbeats 4000000 in
theorem kdrop_there (h : Kd g s f K w) (T : Tb w) (hK0 : K 0) (hK1 : K 1) (b : Nat) (hb : b < 256) (hf : f b ≠ 0) : Calls Tryd.prog 12 #[.pointer (some ⟨g, 0, none⟩), .int .u8 (b : Int)] w fun r w' => r = .returned (.tuple #[.int .u32 (f b : Int), .bool true]) ∧ Kd g (downK s (cntF (upd f b 0))) (upd f b 0) K w' ∧ Kp K w w' := by
  have H := hide h
  obtain ⟨x0, x1, x2, x3, v, h⟩ := h
  obtain ⟨c0, c1, c2, c3, c4, -⟩ := h.cells
  have R := fun w => has4 (m := [x0, x1, x2, x3]) rfl h.ok b hb w
  have hi : isC f b = true := by simp [isC, hf]
  rw [h.tl b hb, hi] at R
  clear h hi
  go_enter Tryd.func12, Tryd.ntmps12
  go_wp2_with (go_at_call 23; refine (R _).mono ?_; rintro e w5 ⟨rfl, f5⟩; have F5 := hide f5; clear f5; clear c0 c1 c2 c3 c4)
  refine (place_any ((Kd.lies g s f).below H.out F5.out) b hb).mono ?_
  rintro r w6 ⟨rfl, f6⟩
  have F6 := hide f6
  have H6 := (Kd.lies g s f).below ((Kd.lies g s f).below H.out F5.out) f6
  have KK := (Kp.of_below (fstep F5 F6.out).out).mono (fun k hk => (Kd.lies g s f).lt H.out k hk)
  have HKK := hide KK
  obtain ⟨y0, y1, y2, y3, v5, h5⟩ := H6
  obtain ⟨q, c, rfl, hl, hcc, hq, hz⟩ := h5.handle b hb hf
  have h5m := h5.mid
  rw [hs_in f b hb hf, cnt_in f b hb hf] at h5m
  have hnn : (loF f b).length + (hiF f b).length ≤ 1000000 := by have := cntF_le f; have := cnt_in f b hb hf; omega
  have DL := hide (delete_own w6 _ _ _ _ h5m.row hnn)
  have d5 := h5m.hd.cell 5
  have z5 := h5m.hd.frozen 5
  simp only [List.getElem?_cons_zero, List.getElem?_cons_succ] at d5
  rw [cnt_in f b hb hf] at hl hcc
  have HM := hide h5m
  have ew : Hid (IntKind.i64.wrap (((loF f b).length : Int) + 1) = ((loF f b).length : Int) + 1) := by show _ = _; rw [IntKind.wrap_i64]; omega
  have W := fun w => without4 (m := [y0, y1, y2, y3]) rfl h5.ok b hb w
  have hwo := wo_ok _ h5.ok b hb
  have htw := tells_without h5.ok h5.tl b hb
  obtain ⟨z0, z1, z2, z3, ez⟩ := list4 (wo [y0, y1, y2, y3] b) hwo.len
  rw [ez] at W hwo htw
  simp only [mv, u64s, List.map_cons, List.map_nil] at W
  have HWO := hide hwo
  have HTW := hide htw
  clear hwo htw ez
  have fl : Hid (∀ c, upd f b 0 c < 4294967296) := fun c => by
    unfold upd
    split
    · omega
    · exact h5.fl c
  have hs3 := h5.sz
  have HE1 := hide (cnt_drop f b hb)
  have HE2 := hide (hs_drop f b hb)
  clear f6 h5 h5m F5 F6 KK
  have hl' : ((loF f b).length : Int) < (((loF f b).length + (hiF f b).length + 1 : Nat) : Int) := by omega
  generalize loF f b = A at *
  generalize hiF f b = B at *
  obtain ⟨n, hn⟩ : ∃ n, n = A.length + B.length + 1 := ⟨_, rfl⟩
  rw [← hn] at d5 hl hl' hcc DL HM
  have HN := hide hn
  clear hn
  have ew := ew.out
  clear hcc hnn
  go_wp2_with (first
    | (go_at_call 29; refine DL.out.mono ?_; rintro r w8 ⟨a8, c8, rfl, o8, g8, ho8⟩
       have MI := HM.out.rowed (Below.refl _ _) o8 g8 (.inl ho8)
       have m8 := MI.1.cell 5
       have e8 := MI.1.frozen 5
       have c1 := MI.1.cell 1
       have c2 := MI.1.cell 2
       have c3 := MI.1.cell 3
       have c4 := MI.1.cell 4
       simp only [List.getElem?_cons_zero, List.getElem?_cons_succ] at m8 c1 c2 c3 c4
       have M8 := hide MI.2.1
       have K8 := hide MI.2.2
       clear MI o8 g8 ho8 d5 z5 hq hz)
    | (go_at_call 30; refine (W _).mono ?_; rintro e w10 ⟨rfl, f10⟩
       have m10 := M8.out.below f10
       clear c1 c2 c3 c4 m8 e8
       obtain ⟨-, c1, c2, c3, c4, -⟩ := m10.cells
       obtain ⟨q1, q2, q3, q4⟩ := ((⟨m10.hd.frozen 1, m10.hd.frozen 2, m10.hd.frozen 3, m10.hd.frozen 4⟩ : w10.frozen? ⟨g, 1, none⟩ = false ∧ w10.frozen? ⟨g, 2, none⟩ = false ∧ w10.frozen? ⟨g, 3, none⟩ = false ∧ w10.frozen? ⟨g, 4, none⟩ = false))
       have M10 := hide m10
       have F10 := hide f10
       clear m10 f10))
  have MM := M10.out.masked z0 z1 z2 z3
  have k11 := (HKK.out.trans (K8.out.trans ((Kp.of_below F10.out).mono (fun k hk => M8.out.kl k hk)))).trans MM.2
  have K11 := hide k11
  have M11 := hide MM.1
  have T11 := T.kp k11 hK0 hK1
  clear MM k11 c1 c2 c3 c4 q1 q2 q3 q4 M10 F10 K8 M8 HKK W
  generalize ((((w10.setCell ⟨g, 1, none⟩ (.int .u64 (z0 : Int))).setCell ⟨g, 2, none⟩ (.int .u64 (z1 : Int))).setCell ⟨g, 3, none⟩ (.int .u64 (z2 : Int))).setCell ⟨g, 4, none⟩ (.int .u64 (z3 : Int))) = w11 at M11 K11 T11 ⊢
  obtain ⟨c0, -, -, -, -, -⟩ := M11.out.cells
  have r0 := (T11.rm s (by omega)).2
  rw [← HE1.out, ← HE2.out] at M11
  have hs4 : (s : Int) < 4 := by omega
  have z11 := M11.out.hd.frozen 0
  have DP : Hid ((cntF (upd f b 0) : Int) ≤ fewN s → 0 < s) := fun h => down_pos h
  have HDL := hide (downK_le hs3 (cntF (upd f b 0)))
  clear HE1 HE2
  obtain ⟨N, hN⟩ : ∃ N, N = cntF (upd f b 0) := ⟨_, rfl⟩
  have HN := hide hN
  rw [← hN] at M11 DP HDL
  clear hN
  by_cases hle : (N : Int) ≤ fewN s
  · have hp := DP.out hle
    have eu : Hid (downK s N = s - 1) := by show _ = _; unfold downK; rw [if_pos hle]
    have ew : IntKind.i64.wrap ((s : Int) - 1) = ((s - 1 : Nat) : Int) := by rw [IntKind.wrap_i64]; omega
    generalize fewN s = fe at *
    go_quiet (first | (go_at_call 17; refine Calls.quiet_of_same (KdM.mlen (KdM.drewN M11.out _))))
    go_wp2
    refine bodyPost_ret (results_tmp2 rfl _ _ _) rfl ?_
    have SS := M11.out.sized (s - 1)
    rw [← HN.out, eu.out]
    exact ⟨rfl, ((Kd.lies _ _ _).still (SS.1.kd HWO.out HTW.out HN.out rfl (by rw [← eu.out]; exact HDL.out) fl.out) ⟨_, rfl⟩), (K11.out.trans SS.2).drewN _⟩
  · have eu : Hid (downK s N = s) := by show _ = _; unfold downK; rw [if_neg hle]
    generalize fewN s = fe at *
    go_quiet (first | (go_at_call 17; refine Calls.quiet_of_same (KdM.mlen (KdM.drewN M11.out _))))
    go_wp2
    refine bodyPost_ret (results_tmp2 rfl _ _ _) rfl ?_
    rw [← HN.out, eu.out]
    exact ⟨rfl, ((Kd.lies _ _ _).still (M11.out.kd HWO.out HTW.out HN.out rfl hs3 fl.out) ⟨_, rfl⟩), K11.out.drewN _⟩
end
end Go.Proofs.YtmogjhljmljpfaaDoor
