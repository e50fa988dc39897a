/- New, of whatever list. -/
import Derived.Test.YtahlbebkcoofkaaNw8
namespace Go.Proofs.Ytahlbebkcoofkaa
set_option maxRecDepth 20000
open Go.RowKit Go.Sort
set_option linter.unusedVariables false

set_option maxHeartbeats 4000000 in
set_option maxRecDepth 20000 in
theorem new_nil (w : World) : Calls Try.prog 10 #[.slice none 0 0] w fun r w' => ∃ g, r = .returned (.pointer (some ⟨g, 0, none⟩)) ∧ Md g [] (fun k => k < w.heap.size) w' ∧ Below w.heap.size w w' := by
  have C := hide (clone_nil w)
  have D := hide (deleteFunc_none [] none 0 w (Rp.nil w none) (by simp))
  go_enter Try.func10, Try.ntmps10
  go_wp2_with fail
  refine C.out.mono ?_
  rintro r w1 ⟨rfl, hw⟩
  subst hw
  go_wp2_with fail
  refine D.out.mono ?_
  rintro r w2 ⟨rfl, f2⟩
  have F2 := hide f2
  have S := hide (sortStable_nil w2)
  clear f2 C D
  go_wp2_with fail
  refine S.out.mono ?_
  rintro r w3 ⟨rfl, hw⟩
  subst hw
  go_wp2_with fail
  refine wp_loop_rounds 1 ?_
  rw [rounds_succ]
  go_wp2
  go_ret
  refine ⟨_, rfl, ?_, F2.out.alloc F2.out.size _⟩
  refine lst_map (B := w1.heap.size) (v := .slice none 0 0) (fs := []) (w := w3) ⟨World.ownsRow_nil _ _ _ _, ⟨by simp, List.Pairwise.nil⟩, by simp⟩ (Blk.new w3 _ _ _ rfl) F2.out.size ((Below.refl _ _).alloc (Nat.le_refl _) _) rfl List.Pairwise.nil (by simp) F2.out.size
/-- New. -/
theorem new_any (es : List Ent) (a : Option Addr) (c : Nat) (w : World) (h : Rp w a es) (hk : ∀ e ∈ es, e.k.length ≤ 65535) (hnil : a = none → es = [] ∧ c = 0) :
    Calls Try.prog 10 #[.slice a es.length c] w fun r w' => ∃ g, r = .returned (.pointer (some ⟨g, 0, none⟩)) ∧ Md g (ofM (es.map Ent.kv)) (fun k => k < w.heap.size) w' ∧ Below w.heap.size w w' := by
  cases a with
  | none =>
    obtain ⟨rfl, rfl⟩ := hnil rfl
    exact new_nil w
  | some a => exact new_some es a c w h hk
end Go.Proofs.Ytahlbebkcoofkaa
