/- Numbers that came in. -/
import Derived.Test.YtfeijlbljcbboaaNp10
namespace Go.Proofs.Ytfeijlbljcbboaa
set_option maxRecDepth 20000
open Go.RowKit
set_option linter.unusedVariables false

theorem rn_of {w : World} : ∀ (a : Option Addr) (len cap : Nat) (zs : List Int), ((a = none ∧ len = 0 ∧ cap = 0 ∧ zs = []) ∨ ∃ x, a = some x ∧ len ≤ cap ∧ cap ≤ maxLen ∧ zs.length = cap ∧ (∀ i, i < zs.length → w.cell? (x.add i) = some (.int .i64 (zs.getD i 0))) ∧ ∀ n ∈ zs, (Lit.int .i64 n).wf = true) → ∃ xs : List Int, xs.length = len ∧ Rn w a xs ∧ Sl a xs.length cap := by
  rintro a len cap zs (⟨rfl, rfl, rfl, rfl⟩ | ⟨x, rfl, hl, hm, hz, hc, hw⟩)
  · exact ⟨[], rfl, ⟨by simp, .inl rfl⟩, .inl ⟨rfl, rfl⟩⟩
  · have hlen : (zs.take len).length = len := by simp; omega
    by_cases hc0 : cap = 0
    · have h0 : len = 0 := by omega
      refine ⟨[], by simp [h0], ⟨by simp, .inl rfl⟩, .inl ⟨by simp, hc0⟩⟩
    obtain ⟨b, off, sp⟩ := x
    have h1 := hc 0 (by omega)
    have hs : sp = none := by simpa [Addr.add] using World.cell?_spot h1
    subst hs
    refine ⟨zs.take len, hlen, ⟨?_, .inr ⟨b, off, rfl, fun i hi => ?_⟩⟩, .inr ⟨b, off, rfl, by omega⟩⟩
    · intro n hn
      exact wf_i64 (hw n (List.mem_of_mem_take hn))
    · have hi' : i < len ∧ i < zs.length := by simp at hi; omega
      have h2 := hc i hi'.2
      rw [add_plain'] at h2
      rw [h2]
      simp [List.getD, hi'.1]
end Go.Proofs.Ytfeijlbljcbboaa
