/- The document's node: New, Put, Drop. -/
import Derived.Test.YtmogjhljmljpfaaDoorRn9
namespace Go.Proofs.YtmogjhljmljpfaaDoor
open Go.RowKit Go.Sort
set_option linter.unusedVariables false
set_option linter.unusedSimpArgs false
set_option maxRecDepth 100000

def Fit (s : Nat) (f : Nat → Nat) : Prop := cntF f ≤ mostN s
theorem RsF.drewN {g s : Nat} {f : Nat → Nat} {K : Nat → Prop} {w : World} (h : RsF g s f K w) (d : Nat) : Rs g s f K (w.drewN d) := ⟨h.kl, h.gk, h.hd, h.sz, h.fl⟩
set_option maxRecDepth 100000 in
theorem zero_node : (∀ w, (zeroValue 53).run Tryd.prog w = .ok (.agg (u32s (arrF f0) ++ [Value.int .i64 0]).toArray) w) ∧ (Tryd.prog.info? 53).map (·.size) = some 257 := zero_of_info (by kernel_rfl)
set_option maxHeartbeats 1000000 in
theorem rnew_any (w : World) : Calls Tryd.prog 9 #[] w fun r w' => ∃ g, r = .returned (.pointer (some ⟨g, 0, none⟩)) ∧ Rs g 0 f0 (fun k => k < w.heap.size) w' ∧ Below w.heap.size w w' := by
  obtain ⟨zv, zs⟩ := zero_node
  obtain ⟨Z, hZ⟩ : ∃ Z, Z = (u32s (arrF f0) ++ [Value.int .i64 0]).toArray := ⟨_, rfl⟩
  rw [← hZ] at zv
  have hsz : ¬ (Z.size < 257) := by rw [hZ]; simp [arr_len]
  have e : Z.setIfInBounds 256 (.int .i64 6) = (refC 0 f0).toArray := by
    rw [hZ]
    apply Array.ext'
    rw [Array.toList_setIfInBounds, List.toList_toArray, List.set_append_right _ _ (by rw [arr_len]; omega), arr_len]
    rfl
  have HE := hide e
  clear hZ e
  go_enter Tryd.func9, Tryd.ntmps9
  go_wp2
  go_ret
  refine ⟨_, rfl, ⟨fun k hk => by simp; omega, by simp, Blk.new w _ _ _ HE.out, by omega, fun _ => by simp [f0]⟩, (Below.refl _ _).alloc (Nat.le_refl _) _⟩
section
variable {g s : Nat} {f : Nat → Nat} {K : Nat → Prop} {w : World}
set_option maxHeartbeats 1000000 in
theorem rput_zero (b : Int) : Calls Tryd.prog 11 #[.pointer (some ⟨g, 0, none⟩), .int .u8 b, .int .u32 0] w fun r w' => r = .returned (.int .i64 2) ∧ w' = w := by
  go_enter Tryd.func11, Tryd.ntmps11
  go_wp2
  go_ret
  exact ⟨rfl, rfl⟩
set_option maxHeartbeats 2000000 in
theorem rput_any (h : Rs g s f K w) (b : Nat) (hb : b < 256) (x : Nat) (hx : x ≠ 0) (hx2 : x < 4294967296) : Calls Tryd.prog 11 #[.pointer (some ⟨g, 0, none⟩), .int .u8 (b : Int), .int .u32 (x : Int)] w fun r w' => r = .returned (.int .i64 0) ∧ Rs g (upK s (cntF (upd f b x))) (upd f b x) K w' ∧ Kp K w w' := by
  have hz : ((x : Int) == 0) = false := by simp; omega
  have cb := h.cell b hb
  have zb := h.hd.frozen b
  have ST := hide (h.store b x hb hx2)
  have hs3 := h.sz
  have HU := hide (upK_le hs3 (upd f b x))
  clear h
  go_enter Tryd.func11, Tryd.ntmps11
  have ck := ST.out.1.kind
  have zk := ST.out.1.hd.frozen 256
  generalize hN : cntF (upd f b x) = N at HU ⊢
  have P : Hid (∀ d, Calls Tryd.prog 27 #[.pointer (some ⟨g, 0, none⟩)] ((w.setCell ⟨g, b, none⟩ (.int .u32 (x : Int))).drewN d) fun r w' => r = .returned (.int .i64 (N : Int)) ∧ w' = (w.setCell ⟨g, b, none⟩ (.int .u32 (x : Int))).drewN d) := fun d => by
    have := rlen_any (RsF.drewN ST.out.1 d)
    rw [hN] at this
    exact this
  have MO := hide (fun w => rmost_any hs3 w)
  clear hN
  go_wp2_with fail
  clear cb zb
  generalize w.setCell ⟨g, b, none⟩ (.int .u32 (x : Int)) = w2 at *
  have hmo := mostN_le s
  by_cases hgt : mostN s < N
  · have hgt' : (mostN s : Int) < (N : Int) := by omega
    have eu : Hid (upK s N = s + 1) := by show _ = _; unfold upK; rw [if_pos hgt]
    have ew : IntKind.i64.wrap (6 + (s : Int) + 1) = 6 + ((s + 1 : Nat) : Int) := by rw [IntKind.wrap_i64]; omega
    generalize mostN s = mo at *
    go_quiet (first
      | (go_at_call 27; refine Calls.quiet_of_same (P.out _))
      | (go_at_call 28; refine Calls.quiet_of_same (MO.out _)))
    go_wp2
    go_ret
    have SS := ST.out.1.turn (s + 1) (by rw [← eu.out]; exact HU.out)
    rw [eu.out]
    exact ⟨rfl, (Rs.lies _ _ _).still SS.1 ⟨_, rfl⟩, (ST.out.2.trans SS.2).drewN _⟩
  · have hgt' : ¬ ((mostN s : Int) < (N : Int)) := by omega
    have eu : Hid (upK s N = s) := by show _ = _; unfold upK; rw [if_neg hgt]
    generalize mostN s = mo at *
    go_quiet (first
      | (go_at_call 27; refine Calls.quiet_of_same (P.out _))
      | (go_at_call 28; refine Calls.quiet_of_same (MO.out _)))
    go_wp2
    go_ret
    rw [eu.out]
    exact ⟨rfl, (Rs.lies _ _ _).still ST.out.1 ⟨_, rfl⟩, ST.out.2.drewN _⟩
set_option maxHeartbeats 2000000 in
theorem rdrop_any (h : Rs g s f K w) (b : Nat) (hb : b < 256) : Calls Tryd.prog 13 #[.pointer (some ⟨g, 0, none⟩), .int .u8 (b : Int)] w fun r w' => r = .returned (.tuple #[.int .u32 (f b : Int), .bool (decide (f b ≠ 0))]) ∧ Rs g (if f b = 0 then s else downK s (cntF (upd f b 0))) (upd f b 0) K w' ∧ Kp K w w' := by
  have cb := h.cell b hb
  have zb := h.hd.frozen b
  have ST : Hid (Rs g s (upd f b 0) K (w.setCell ⟨g, b, none⟩ (.int .u32 0)) ∧ Kp K w (w.setCell ⟨g, b, none⟩ (.int .u32 0))) := h.store b 0 hb (by omega)
  have hs3 := h.sz
  have HU := hide (downK_le hs3 (cntF (upd f b 0)))
  clear h
  have ck := ST.out.1.kind
  have zk := ST.out.1.hd.frozen 256
  generalize hN : cntF (upd f b 0) = N at HU ⊢
  have P : Hid (∀ d, Calls Tryd.prog 27 #[.pointer (some ⟨g, 0, none⟩)] ((w.setCell ⟨g, b, none⟩ (.int .u32 0)).drewN d) fun r w' => r = .returned (.int .i64 (N : Int)) ∧ w' = (w.setCell ⟨g, b, none⟩ (.int .u32 0)).drewN d) := fun d => by
    have := rlen_any (RsF.drewN ST.out.1 d)
    rw [hN] at this
    exact this
  have MO := hide (fun w => rleast_any hs3 w)
  clear hN
  generalize f b = y at *
  by_cases hy : y = 0
  · rw [if_pos hy]
    have hy0 : ((y : Int) != 0) = false := by simp; omega
    have hyd : decide (y ≠ 0) = false := by simp [hy]
    rw [hyd]
    clear hyd
    go_enter Tryd.func13, Tryd.ntmps13
    go_wp2_with fail
    clear cb zb
    generalize w.setCell ⟨g, b, none⟩ (.int .u32 0) = w2 at *
    go_quiet (fail)
    go_wp2
    refine bodyPost_ret (results_tmp2 rfl _ _ _) rfl ?_
    exact ⟨by rw [hy]; rfl, (Rs.lies _ _ _).still ST.out.1 ⟨_, rfl⟩, ST.out.2.drewN _⟩
  · rw [if_neg hy]
    have hy0 : ((y : Int) != 0) = true := by simp; omega
    have hyd : decide (y ≠ 0) = true := by simp [hy]
    rw [hyd]
    clear hyd
    go_enter Tryd.func13, Tryd.ntmps13
    go_wp2_with fail
    clear cb zb
    generalize w.setCell ⟨g, b, none⟩ (.int .u32 0) = w2 at *
    by_cases hle : (N : Int) ≤ fewN s
    · have hp := down_pos hle
      have eu : Hid (downK s N = s - 1) := by show _ = _; unfold downK; rw [if_pos hle]
      have ew : IntKind.i64.wrap (6 + (s : Int) - 1) = 6 + ((s - 1 : Nat) : Int) := by rw [IntKind.wrap_i64]; omega
      generalize fewN s = fe at *
      go_quiet (first
        | (go_at_call 27; refine Calls.quiet_of_same (P.out _))
        | (go_at_call 31; refine Calls.quiet_of_same (MO.out _)))
      go_wp2
      refine bodyPost_ret (results_tmp2 rfl _ _ _) rfl ?_
      have SS := ST.out.1.turn (s - 1) (by rw [← eu.out]; exact HU.out)
      rw [eu.out]
      exact ⟨rfl, (Rs.lies _ _ _).still SS.1 ⟨_, rfl⟩, (ST.out.2.trans SS.2).drewN _⟩
    · have eu : Hid (downK s N = s) := by show _ = _; unfold downK; rw [if_neg hle]
      generalize fewN s = fe at *
      go_quiet (first
        | (go_at_call 27; refine Calls.quiet_of_same (P.out _))
        | (go_at_call 31; refine Calls.quiet_of_same (MO.out _)))
      go_wp2
      refine bodyPost_ret (results_tmp2 rfl _ _ _) rfl ?_
      rw [eu.out]
      exact ⟨rfl, (Rs.lies _ _ _).still ST.out.1 ⟨_, rfl⟩, ST.out.2.drewN _⟩
end
end Go.Proofs.YtmogjhljmljpfaaDoor
