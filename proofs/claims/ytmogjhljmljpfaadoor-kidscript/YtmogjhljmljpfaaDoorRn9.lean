/- The document's node: New, Len, Most, Least, Put, Drop. -/
import Derived.Test.YtmogjhljmljpfaaDoorKSu9
import Derived.Test.YtmogjhljmljpfaaDoorKSc9
namespace Go.Proofs.YtmogjhljmljpfaaDoor
open Go.RowKit Go.Sort
set_option linter.unusedVariables false
set_option linter.unusedSimpArgs false
set_option maxRecDepth 100000

def refC (s : Nat) (f : Nat → Nat) : List Value := u32s (arrF f) ++ [.int .i64 (6 + (s : Int))]
theorem refC_len (s : Nat) (f : Nat → Nat) : (refC s f).length = 257 := by unfold refC; rw [List.length_append, arr_len]; rfl
theorem refC_get (s : Nat) (f : Nat → Nat) (b : Nat) (hb : b < 256) : (refC s f)[b]? = some (.int .u32 (f b : Int)) := by
  unfold refC; rw [List.getElem?_append_left (by rw [arr_len]; exact hb), arr_get f b hb]
theorem refC_kind (s : Nat) (f : Nat → Nat) : (refC s f)[256]? = some (.int .i64 (6 + (s : Int))) := by
  unfold refC; rw [List.getElem?_append_right (by rw [arr_len]; omega), arr_len]; rfl
theorem refC_set (s : Nat) (f : Nat → Nat) (b x : Nat) (hb : b < 256) : (refC s f).set b (.int .u32 (x : Int)) = refC s (upd f b x) := by
  unfold refC; rw [List.set_append_left _ _ (by rw [arr_len]; exact hb), arr_set f b x hb]
theorem refC_up (s s' : Nat) (f : Nat → Nat) : (refC s f).set 256 (.int .i64 (6 + (s' : Int))) = refC s' f := by
  unfold refC; rw [List.set_append_right _ _ (by rw [arr_len]; omega), arr_len]; rfl
structure RsF (g s : Nat) (f : Nat → Nat) (K : Nat → Prop) (w : World) : Prop where
  kl : ∀ k, K k → k < w.heap.size
  gk : ¬ K g
  hd : Blk w g 53 (refC s f)
  sz : s ≤ 3
  fl : ∀ b, f b < 4294967296
def Rs (g s : Nat) (f : Nat → Nat) : Shape := fun K w => RsF g s f K w
theorem Rs.lies (g s : Nat) (f : Nat → Nat) : Lies (Rs g s f) := by
  intro K w h
  exact ⟨h.kl, fun k => k = g, fun k hk => by subst hk; exact ⟨h.gk, h.hd.lt⟩, fun w' K' hs hk => ⟨fun k hK => (hk k hK).2, fun hK => (hk g hK).1 rfl, (hs g rfl).trans h.hd, h.sz, h.fl⟩⟩
section
variable {g s : Nat} {f : Nat → Nat} {K : Nat → Prop} {w : World}
theorem RsF.cell (h : RsF g s f K w) (b : Nat) (hb : b < 256) : w.cell? ⟨g, b, none⟩ = some (.int .u32 (f b : Int)) := (h.hd.cell b).trans (refC_get s f b hb)
theorem RsF.kind (h : RsF g s f K w) : w.cell? ⟨g, 256, none⟩ = some (.int .i64 (6 + (s : Int))) := (h.hd.cell 256).trans (refC_kind s f)
theorem RsF.store (h : RsF g s f K w) (b x : Nat) (hb : b < 256) (hx : x < 4294967296) : Rs g s (upd f b x) K (w.setCell ⟨g, b, none⟩ (.int .u32 (x : Int))) ∧ Kp K w (w.setCell ⟨g, b, none⟩ (.int .u32 (x : Int))) :=
  ⟨⟨fun k hk => by have := h.kl k hk; simpa [World.setCell] using this, h.gk, by rw [← refC_set s f b x hb]; exact h.hd.set b _, h.sz, fun c => by
    unfold upd
    split
    · exact hx
    · exact h.fl c⟩, (Kp.refl K w).setCell g b _ h.gk⟩
theorem RsF.turn (h : RsF g s f K w) (s' : Nat) (hs : s' ≤ 3) : Rs g s' f K (w.setCell ⟨g, 256, none⟩ (.int .i64 (6 + (s' : Int)))) ∧ Kp K w (w.setCell ⟨g, 256, none⟩ (.int .i64 (6 + (s' : Int)))) :=
  ⟨⟨fun k hk => by have := h.kl k hk; simpa [World.setCell] using this, h.gk, by rw [← refC_up s s' f]; exact h.hd.set 256 _, hs, h.fl⟩, (Kp.refl K w).setCell g 256 _ h.gk⟩

set_option maxHeartbeats 1000000 in
theorem rlen_any (h : Rs g s f K w) : Calls Tryd.prog 27 #[.pointer (some ⟨g, 0, none⟩)] w fun r w' => r = .returned (.int .i64 (cntF f : Int)) ∧ w' = w := by
  have H := hide h
  clear h
  go_enter Tryd.func27, Tryd.ntmps27
  go_wp2_with fail
  go_loopw [3, 4] (fun m v wr => ∃ j : Nat, v = .int .i64 j ∧ m = .int .i64 (cntTo f j : Nat) ∧ j ≤ 256 ∧ wr = w) (fun _ v _ => (256 - intOf v).toNat)
  case atStart => exact ⟨0, rfl, rfl, by omega, rfl⟩
  case round =>
    obtain ⟨j, rfl, rfl, hj, rfl⟩ := hrel
    have hjc := cntTo_le f j
    by_cases hjl : j < 256
    · have cy := H.out.cell j hjl
      by_cases hf : f j = 0
      · have hf0 : ((f j : Int) != 0) = false := by simp; omega
        have h2 := cntTo_no f j hf
        go_wp2_with fail
        go_roundw
        case rel => exact ⟨j + 1, by go_num, by rw [h2], by omega, trivial⟩
        case measure => simp [intOf]; omega
      · have hf0 : ((f j : Int) != 0) = true := by simp; omega
        have h1 := cntTo_yes f j hf
        go_wp2_with fail
        go_roundw
        case rel => exact ⟨j + 1, by go_num, by rw [h1]; go_num, by omega, trivial⟩
        case measure => simp [intOf]; omega
    · obtain rfl : j = 256 := by omega
      have ec : cntTo f 256 = cntF f := bs_len f
      rw [ec]
      clear ec hjc
      go_wp2
      go_ret
      exact ⟨rfl, rfl⟩
theorem rmost_any (hs : s ≤ 3) (w : World) : Calls Tryd.prog 28 #[.int .i64 (6 + (s : Int))] w fun r w' => r = .returned (.int .i64 (mostN s : Int)) ∧ w' = w := by
  have : s = 0 ∨ s = 1 ∨ s = 2 ∨ s = 3 := by omega
  rcases this with rfl | rfl | rfl | rfl
  all_goals (
    go_enter Tryd.func28, Tryd.ntmps28
    go_wp2
    go_ret
    exact ⟨rfl, rfl⟩)
theorem rleast_any (hs : s ≤ 3) (w : World) : Calls Tryd.prog 31 #[.int .i64 (6 + (s : Int))] w fun r w' => r = .returned (.int .i64 (fewN s)) ∧ w' = w := by
  have : s = 0 ∨ s = 1 ∨ s = 2 ∨ s = 3 := by omega
  rcases this with rfl | rfl | rfl | rfl
  all_goals (
    go_enter Tryd.func31, Tryd.ntmps31
    go_wp2
    go_ret
    exact ⟨rfl, rfl⟩)
end
end Go.Proofs.YtmogjhljmljpfaaDoor
