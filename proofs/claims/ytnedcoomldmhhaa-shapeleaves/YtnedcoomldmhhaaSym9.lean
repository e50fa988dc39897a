/- slices.symMergeCmpFunc over pairs. -/
import Derived.Deep.DeepCutAuto
import Derived.Deep.CutBlock
import Derived.Deep.LoopGhost
import Derived.Test.YtnedcoomldmhhaaSym7
namespace Go.Proofs.Ytnedcoomldmhhaa
set_option maxRecDepth 20000
open Go.RowKit Go.Sort
set_option linter.unusedVariables false

/-- Where two sorted lists are cut so that what stands ahead of the cuts is less than what stands behind them. -/
theorem sym_cut {L R : List Tg} (hL : L.Pairwise lt7) (hR : R.Pairwise lt7) {i j : Nat} (h1 : i = 0 ∨ j = R.length ∨ ∃ x y, L[i - 1]? = some x ∧ 0 < i ∧ R[j]? = some y ∧ lt7 x y)
    (h2 : j = 0 ∨ i = L.length ∨ ∃ x y, L[i]? = some x ∧ R[j - 1]? = some y ∧ 0 < j ∧ lt7 y x) : ∀ u ∈ L.take i ++ R.take j, ∀ v ∈ L.drop i ++ R.drop j, lt7 u v := by
  intro u hu v hv
  have tk : ∀ {S : List Tg} {n : Nat} {z : Tg}, z ∈ S.take n → ∃ q, q < n ∧ S[q]? = some z := by
    intro S n z hz
    obtain ⟨q, hq, e⟩ := List.mem_take_iff_getElem.1 hz
    exact ⟨q, by omega, by rw [List.getElem?_eq_getElem (by omega), e]⟩
  have dr : ∀ {S : List Tg} {n : Nat} {z : Tg}, z ∈ S.drop n → ∃ q, n ≤ q ∧ S[q]? = some z := by
    intro S n z hz
    obtain ⟨q, e⟩ := List.mem_iff_getElem?.1 hz
    rw [List.getElem?_drop] at e
    exact ⟨n + q, by omega, e⟩
  have le : ∀ {S : List Tg} (hS : S.Pairwise lt7) {p q : Nat} {y z t : Tg}, S[p]? = some y → S[q]? = some z → p ≤ q → (lt7 z t → lt7 y t) ∧ (lt7 t y → lt7 t z) := by
    intro S hS p q y z t hp hq hpq
    by_cases e : p = q
    · subst e; rw [hp] at hq; cases hq; exact ⟨id, id⟩
    · have := sorted_at hS hp hq (by omega)
      exact ⟨fun h => lt7_trans this h, fun h => lt7_trans h this⟩
  rcases List.mem_append.1 hu with hu | hu
  · obtain ⟨p, hp, ep⟩ := tk hu
    rcases List.mem_append.1 hv with hv | hv
    · obtain ⟨q, hq, eq⟩ := dr hv
      exact sorted_at hL ep eq (by omega)
    · obtain ⟨q, hq, eq⟩ := dr hv
      rcases h1 with h1 | h1 | ⟨x, y, hx, h0, hy, hl⟩
      · omega
      · have := (List.getElem?_eq_some_iff.1 eq).1; omega
      · exact ((le hL ep hx (by omega)).1 ((le hR hy eq hq).2 hl))
  · obtain ⟨p, hp, ep⟩ := tk hu
    rcases List.mem_append.1 hv with hv | hv
    · obtain ⟨q, hq, eq⟩ := dr hv
      rcases h2 with h2 | h2 | ⟨x, y, hx, hy, h0, hl⟩
      · omega
      · have := (List.getElem?_eq_some_iff.1 eq).1; omega
      · exact ((le hR ep hy (by omega)).1 ((le hL hx eq hq).2 hl))
    · obtain ⟨q, hq, eq⟩ := dr hv
      exact sorted_at hR ep eq (by omega)

end Go.Proofs.Ytnedcoomldmhhaa
