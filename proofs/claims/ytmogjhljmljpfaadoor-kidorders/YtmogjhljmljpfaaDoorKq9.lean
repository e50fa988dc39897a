/- Put of a node. -/
import Derived.Test.YtmogjhljmljpfaaDoorKp9
namespace Go.Proofs.YtmogjhljmljpfaaDoor
set_option maxRecDepth 20000
open Go.RowKit Go.Sort
set_option linter.unusedVariables false
section
variable {g s : Nat} {f : Nat → Nat} {K : Nat → Prop} {w : World}
set_option maxHeartbeats 1000000 in
theorem kput_nil (b h : Int) : Calls Tryd.prog 10 #[.pointer none, .int .u8 b, .int .u32 h] w fun r w' => r = .returned (.int .i64 1) ∧ w' = w := by
  go_enter Tryd.func10, Tryd.ntmps10
  go_wp2
  go_ret
  exact ⟨rfl, rfl⟩
set_option maxHeartbeats 1000000 in
theorem kput_zero (b : Int) : Calls Tryd.prog 10 #[.pointer (some ⟨g, 0, none⟩), .int .u8 b, .int .u32 0] w fun r w' => r = .returned (.int .i64 2) ∧ w' = w := by
  go_enter Tryd.func10, Tryd.ntmps10
  go_wp2
  go_ret
  exact ⟨rfl, rfl⟩
set_option maxHeartbeats 2000000 in
theorem kput_there (h : Kd g s f K w) (b : Nat) (hb : b < 256) (hf : f b ≠ 0) (x : Nat) (hx : x ≠ 0) (hx2 : x < 4294967296) : Calls Tryd.prog 10 #[.pointer (some ⟨g, 0, none⟩), .int .u8 (b : Int), .int .u32 (x : Int)] w fun r w' => r = .returned (.int .i64 0) ∧ Kd g s (upd f b x) K w' ∧ Kp K w w' := by
  have H := hide h
  obtain ⟨x0, x1, x2, x3, v, h⟩ := h
  obtain ⟨c0, c1, c2, c3, c4, -⟩ := h.cells
  have R := fun w => has4 (m := [x0, x1, x2, x3]) rfl h.ok b hb w
  have ht := h.tl b hb
  have hi : isC f b = true := by simp [isC, hf]
  rw [ht, hi] at R
  have hz : ((x : Int) == 0) = false := by simp; omega
  clear h ht hi
  go_enter Tryd.func10, Tryd.ntmps10
  go_wp2_with (go_at_call 23; refine (R _).mono ?_; rintro e w5 ⟨rfl, f5⟩; have F5 := hide f5; clear f5; clear c0 c1 c2 c3 c4)
  have H5 := (Kd.lies g s f).below H.out F5.out
  have H5' : Kd g s f K w5.drew := (Kd.lies g s f).still H5 ⟨1, rfl⟩
  have P := hide (place_any H5' b hb)
  obtain ⟨y0, y1, y2, y3, v5, h5⟩ := H5'
  obtain ⟨q, c, rfl, hl, hcc, hq, -⟩ := h5.handle b hb hf
  have d5 : w5.drew.cell? ⟨g, 5, none⟩ = some (.slice (some ⟨q, 0, none⟩) (cntF f) c) := h5.hd.cell 5
  have H6 := hide h5
  have hl' : ((loF f b).length : Int) < (cntF f : Int) := by omega
  clear h5 hq H5
  go_region_law (first
      | (go_simp; go_at_call 24; refine P.out.mono ?_; rintro r w6 ⟨rfl, f6⟩
         have h6 := H6.out.mid.below f6
         have d6 := h6.hd.cell 5
         simp only [List.getElem?_cons_zero, List.getElem?_cons_succ] at d6
         have q6 := h6.row.cellAt (loF f b).length (by omega)
         have z6 := h6.row.frozenAt (loF f b).length
         rw [hs_in f b hb hf, u32s_append, List.getElem?_append_right (by rw [u32s_length]; omega), u32s_length, Nat.sub_self, u32s_cons, List.getElem?_cons_zero] at q6
         have M6 := hide h6
         have F6 := hide f6
         clear h6 f6))
  all_goals
    clear d5 d6 q6 z6
    go_wp2
    go_ret
    have st := M6.out.row.stored (loF f b).length (.int .u32 (x : Int))
    have hqg : q ≠ g := fun e => owns_apart M6.out.row M6.out.hd (by decide) (by rw [e]; rfl)
    have hsz : (w6.setCell ⟨q, (loF f b).length, none⟩ (.int .u32 (x : Int))).heap.size = w6.heap.size := by simp [World.setCell]
    have e1 : (u32s (hsOf f)).set (loF f b).length (.int .u32 (x : Int)) = u32s (hsOf (upd f b x)) := by
      rw [hs_put f b x hb hx, hs_in f b hb hf, u32s_append, u32s_append, List.set_append_right _ _ (by rw [u32s_length]; omega), u32s_length, Nat.sub_self]
      rfl
    rw [e1] at st
    have e2 : cntF f = cntF (upd f b x) := by rw [cnt_in f b hb hf, cnt_put f b x hb hx]
    have M7 : KdM g s K (w6.setCell ⟨q, (loF f b).length, none⟩ (.int .u32 (x : Int))) y0 y1 y2 y3 (.slice (some ⟨q, 0, none⟩) (cntF f) c) (cntF f) (hsOf (upd f b x)) :=
      ⟨fun k hk => by rw [hsz]; exact M6.out.kl k hk, M6.out.gk, M6.out.vk, (Below.heap_setCell _ ⟨q, _, none⟩ _ _ (fun e => hqg (show q = g from e.symm))).trans M6.out.hd, st.1⟩
    have fl : ∀ c, upd f b x c < 4294967296 := fun c => by
      unfold upd
      split
      · exact hx2
      · exact H6.out.fl c
    have F7 : Below w.heap.size w w6 := (fstep F5 (⟨F6.out.os, F6.out.tape, F6.out.output, F6.out.size, F6.out.block⟩ : Below w5.heap.size w5 w6)).out
    exact ⟨rfl, M7.kd H6.out.ok (tells_same H6.out.tl b x hf hx) e2 rfl H6.out.sz fl, ((Kp.of_below F7).mono (fun k hk => (Kd.lies g s f).lt H.out k hk)).setCell q _ _ (M6.out.vk q rfl)⟩
end
end Go.Proofs.YtmogjhljmljpfaaDoor
