/- Put of a child that is new. -/
import Derived.Test.YtmogjhljmljpfaaDoorKq9
namespace Go.Proofs.YtmogjhljmljpfaaDoor
set_option maxRecDepth 20000
open Go.RowKit Go.Sort
set_option linter.unusedVariables false
section
variable {g s : Nat} {f : Nat → Nat} {K : Nat → Prop} {w : World}
theorem KdM.drewN {x0 x1 x2 x3 : Nat} {v : Value} {n : Nat} {xs : List Nat} (h : KdM g s K w x0 x1 x2 x3 v n xs) (d : Nat) : KdM g s K (w.drewN d) x0 x1 x2 x3 v n xs := ⟨h.kl, h.gk, h.vk, h.hd, owns_same h.row (fun _ _ => rfl)⟩
theorem Tb.drewN (h : Tb w) (d : Nat) : Tb (w.drewN d) := ⟨h.tab, h.rm, h.two⟩
set_option maxHeartbeats 4000000 in
theorem kput_new (h : Kd g s f K w) (T : Tb w) (hK0 : K 0) (hK1 : K 1) (b : Nat) (hb : b < 256) (hf : f b = 0) (x : Nat) (hx : x ≠ 0) (hx2 : x < 4294967296) : Calls Tryd.prog 10 #[.pointer (some ⟨g, 0, none⟩), .int .u8 (b : Int), .int .u32 (x : Int)] w fun r w' => r = .returned (.int .i64 0) ∧ Kd g (upK s (cntF (upd f b x))) (upd f b x) K w' ∧ Kp K w w' := by
  have H := hide h
  obtain ⟨x0, x1, x2, x3, v, h⟩ := h
  obtain ⟨c0, c1, c2, c3, c4, -⟩ := h.cells
  have R := fun w => has4 (m := [x0, x1, x2, x3]) rfl h.ok b hb w
  have ht := h.tl b hb
  have hi : isC f b = false := by simp [isC, hf]
  rw [ht, hi] at R
  have hz : ((x : Int) == 0) = false := by simp; omega
  clear h ht hi
  go_enter Tryd.func10, Tryd.ntmps10
  go_wp2_with (go_at_call 23; refine (R _).mono ?_; rintro e w5 ⟨rfl, f5⟩; have F5 := hide f5; clear f5; clear c0 c1 c2 c3 c4)
  have H5 := (Kd.lies g s f).below H.out F5.out
  have H5' : Kd g s f K w5.drew := (Kd.lies g s f).still H5 ⟨1, rfl⟩
  have hsz5 : w5.drew.heap.size = w5.heap.size := rfl
  have AL : Below w5.drew.heap.size w5.drew (w5.drew.alloc (.cells #[.int .u32 (x : Int)] 31)) := (Below.refl _ _).alloc (Nat.le_refl _) _
  have PA := hide (place_any H5' b hb)
  have PB := hide (place_any ((Kd.lies g s f).below H5' AL) b hb)
  have BL := hide (Blk.new w5.drew 31 [.int .u32 (x : Int)] _ rfl)
  obtain ⟨y0, y1, y2, y3, v5, h5⟩ := H5'
  have h5m := h5.mid
  rw [cnt_out f b hb hf, hs_out f b hb hf] at h5m
  have hnn : (loF f b).length + (hiF f b).length < 1000000 := by have := cntF_le f; have := cnt_out f b hb hf; omega
  have W := fun w => with4 (m := [y0, y1, y2, y3]) rfl h5.ok b hb w
  have hwo := wth_ok _ h5.ok b hb
  have htw := tells_with h5.ok h5.tl b x hb hx
  obtain ⟨z0, z1, z2, z3, ez⟩ := list4 (wth [y0, y1, y2, y3] b) hwo.len
  rw [ez] at W hwo htw
  simp only [mv, u64s, List.map_cons, List.map_nil] at W
  have fl : Hid (∀ c, upd f b x c < 4294967296) := fun c => by
    unfold upd
    split
    · exact hx2
    · exact h5.fl c
  have hs3 := h5.sz
  have HE1 := hide (cnt_put f b x hb hx)
  have HE2 := hide (hs_put f b x hb hx)
  have HUP := hide (upK_le hs3 (upd f b x))
  have HWO := hide hwo
  have HTW := hide htw
  have HM5 := hide h5m
  obtain ⟨av, cv, rfl⟩ := owns_slice' h5m.row
  have d5 : w5.drew.cell? ⟨g, 5, none⟩ = some (.slice av ((loF f b).length + (hiF f b).length) cv) := h5m.hd.cell 5
  have d5' : (w5.alloc (.cells #[.int .u32 (x : Int)] 31)).cell? ⟨g, 5, none⟩ = some (.slice av ((loF f b).length + (hiF f b).length) cv) := (h5m.hd.alloc _).cell 5
  clear h5 h5m H5 hwo htw ez AL hsz5
  obtain ⟨N, hN⟩ : ∃ N, N = cntF (upd f b x) := ⟨_, rfl⟩
  obtain ⟨X, hX⟩ : ∃ X, X = hsOf (upd f b x) := ⟨_, rfl⟩
  have HN := hide hN
  have HX := hide hX
  rw [← hN] at HE1 HUP
  rw [← hX] at HE2
  clear hN hX
  generalize loF f b = A at *
  generalize hiF f b = B at *
  go_region_law (first
      | (go_simp; go_at_call 25; refine HI.out.mono ?_; rintro r w8 ⟨a8, c8, rfl, o8, g8, ho8⟩
         have MI := HM5.out.rowed F6.out o8 g8 ho8
         have m8 := MI.1.cell 5
         have e8 := MI.1.frozen 5
         simp only [List.getElem?_cons_zero, List.getElem?_cons_succ] at m8
         have M8 := hide MI.2.1
         have K8 := hide MI.2.2
         clear MI o8 g8 ho8)
      | (go_simp; go_at_call 24; refine PB.out.mono ?_; rintro r w6 ⟨rfl, f6⟩
         have f6' : Below w5.drew.heap.size w5.drew w6 := ((Below.refl _ _).alloc (Nat.le_refl _) _).trans (f6.mono (by simp))
         have h6 := HM5.out.below f6'
         have d6 := h6.hd.cell 5
         simp only [List.getElem?_cons_zero, List.getElem?_cons_succ] at d6
         have hne7 : (Value.slice av (A.length + B.length) cv).ownBlock ≠ some w5.drew.heap.size := fun e => by have := (HM5.out.row.lt _ e).2; omega
         have HI := hide (insert_any w6 (.slice av (A.length + B.length) cv) A B x w5.drew.heap.size h6.row (BL.out.below f6 BL.out.lt) hne7 hnn)
         have F6 := hide f6'
         clear f6 f6' h6 hne7)
      | (go_simp; go_at_call 24; refine PA.out.mono ?_; rintro r w6 ⟨rfl, f6⟩
         have h6 := HM5.out.below f6
         have d6 := h6.hd.cell 5
         have d7 := (h6.hd.alloc (.cells #[.int .u32 (x : Int)] 31)).cell 5
         simp only [List.getElem?_cons_zero, List.getElem?_cons_succ] at d6 d7
         have hne7 : (Value.slice av (A.length + B.length) cv).ownBlock ≠ some w6.heap.size := fun e => by have := (h6.row.lt _ e).2; omega
         have HI := hide (insert_any (w6.alloc (.cells #[.int .u32 (x : Int)] 31)) (.slice av (A.length + B.length) cv) A B x w6.heap.size (h6.row.alloc _) (Blk.new w6 _ _ _ rfl) hne7 hnn)
         have F6 := hide (f6.alloc (show w5.drew.heap.size ≤ w6.heap.size from f6.size) (.cells #[.int .u32 (x : Int)] 31))
         clear f6 h6 hne7))
  all_goals
    have k9 := (((Kp.of_below F5.out).mono (fun k hk => (Kd.lies g s f).lt H.out k hk)).drew).trans K8.out
    have K9 := hide k9
    have T9 := T.kp k9 hK0 hK1
    have TT := hide T9
    clear m8 e8 d5 d5' d6 K8 HM5 HI F6 PA PB BL k9 R T9
    try clear d7
    generalize (w8.setCell ⟨g, 5, none⟩ (.slice a8 (A.length + B.length + 1) c8)) = w9 at M8 K9 TT ⊢
    obtain ⟨-, c1, c2, c3, c4, -⟩ := M8.out.cells
    go_wp2_with (go_at_call 26; refine (W _).mono ?_; rintro e w10 ⟨rfl, f10⟩; have m10 := M8.out.below f10; clear c1 c2 c3 c4; obtain ⟨-, c1, c2, c3, c4, -⟩ := m10.cells; obtain ⟨q1, q2, q3, q4⟩ := ((⟨m10.hd.frozen 1, m10.hd.frozen 2, m10.hd.frozen 3, m10.hd.frozen 4⟩ : w10.frozen? ⟨g, 1, none⟩ = false ∧ w10.frozen? ⟨g, 2, none⟩ = false ∧ w10.frozen? ⟨g, 3, none⟩ = false ∧ w10.frozen? ⟨g, 4, none⟩ = false)); have M10 := hide m10; have F10 := hide f10; clear m10 f10)
    have MM := M10.out.masked z0 z1 z2 z3
    have k11 := (K9.out.trans ((Kp.of_below F10.out).mono (fun k hk => M8.out.kl k hk))).trans MM.2
    have K11 := hide k11
    have M11 := hide MM.1
    have T11 := T.kp k11 hK0 hK1
    clear MM k11 c1 c2 c3 c4 q1 q2 q3 q4 M10 F10 K9 M8 TT W
    generalize ((((w10.setCell ⟨g, 1, none⟩ (.int .u64 (z0 : Int))).setCell ⟨g, 2, none⟩ (.int .u64 (z1 : Int))).setCell ⟨g, 3, none⟩ (.int .u64 (z2 : Int))).setCell ⟨g, 4, none⟩ (.int .u64 (z3 : Int))) = w11 at M11 K11 T11 ⊢
    obtain ⟨c0, -, -, -, -, -⟩ := M11.out.cells
    have r0 := (T11.rm s (by omega)).1
    have hmo := mostN_le s
    rw [← HE1.out] at M11 ⊢
    rw [← HE2.out] at M11
    have hs4 : (s : Int) < 4 := by omega
    have z11 := M11.out.hd.frozen 0
    by_cases hgt : mostN s < N
    · have hgt' : (mostN s : Int) < (N : Int) := by omega
      have eu : Hid (upK s N = s + 1) := by show _ = _; unfold upK; rw [if_pos hgt]
      have ew : IntKind.i64.wrap ((s : Int) + 1) = (s : Int) + 1 := by rw [IntKind.wrap_i64]; omega
      generalize mostN s = mo at *
      go_quiet (first | (go_at_call 17; refine Calls.quiet_of_same (KdM.mlen (KdM.drewN M11.out _))))
      go_wp2
      go_ret
      have SS := M11.out.sized (s + 1)
      rw [← HN.out, eu.out]
      exact ⟨rfl, ((Kd.lies _ _ _).still (SS.1.kd HWO.out HTW.out HN.out HX.out (by rw [← eu.out]; exact HUP.out) fl.out) ⟨_, rfl⟩), (K11.out.trans SS.2).drewN _⟩
    · have hgt' : ¬ ((mostN s : Int) < (N : Int)) := by omega
      have eu : Hid (upK s N = s) := by show _ = _; unfold upK; rw [if_neg hgt]
      generalize mostN s = mo at *
      go_quiet (first | (go_at_call 17; refine Calls.quiet_of_same (KdM.mlen (KdM.drewN M11.out _))))
      go_wp2
      go_ret
      rw [← HN.out, eu.out]
      exact ⟨rfl, ((Kd.lies _ _ _).still (M11.out.kd HWO.out HTW.out HN.out HX.out hs3 fl.out) ⟨_, rfl⟩), K11.out.drewN _⟩
end
end Go.Proofs.YtmogjhljmljpfaaDoor
