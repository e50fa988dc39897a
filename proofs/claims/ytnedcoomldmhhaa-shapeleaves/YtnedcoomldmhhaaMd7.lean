/- The map of package model: how it stands in memory; what is read of it. -/
import Derived.Test.YtnedcoomldmhhaaRow7
import Derived.Test.YtnedcoomldmhhaaMp7
namespace Go.Proofs.Ytnedcoomldmhhaa
set_option maxRecDepth 20000
open Go.RowKit Go.Sort
set_option linter.unusedVariables false

/-- Bytes in blocks of P, where these stand, and are of Q. -/
theorem Bd.move {P Q : Nat → Prop} {w w' : World} {a : Option Addr} {xs : List Int} (h : Bd P w a xs) (hb : ∀ b, P b → b < w.heap.size → w'.heap[b]? = w.heap[b]? ∧ Q b) : Bd Q w' a xs := by
  obtain ⟨⟨b1, b2, b3⟩, b4⟩ := h
  by_cases h0 : xs = []
  · exact ⟨⟨b1, b2, .inl h0⟩, .inl h0⟩
  · rcases b3 with b3 | ⟨b, off, ea, hc⟩
    · exact absurd b3 h0
    · rcases b4 with b4 | ⟨b', off', e', hK⟩
      · exact absurd b4 h0
      · rw [ea] at e'
        simp only [Option.some.injEq, Addr.mk.injEq] at e'
        obtain ⟨rfl, rfl, -⟩ := e'
        have hlt : b < w.heap.size := World.block_lt_of_cell? w _ (hc 0 (List.length_pos_iff.2 h0))
        have hbb := hb b hK hlt
        refine ⟨⟨b1, b2, .inr ⟨b, off, ea, fun i hi => ?_⟩⟩, .inr ⟨b, off, ea, hbb.2⟩⟩
        rw [World.cell?_of_block (w := w) (w' := w') (a := ⟨b, off + i, none⟩) hbb.1]
        exact hc i hi
/-- The row of pairs, read. -/
theorem owns_rp {w : World} {base : Nat} {v : Value} {es : List Ent} (h : w.ownsRow base 47 2 v es.length (flat Ent.cells es)) (hk : ∀ e ∈ es, Ok w e) (hl : es.length ≤ 1000000) : ∃ a c, v = .slice a es.length c ∧ Rp w a es := by
  obtain ⟨a, c, e⟩ := owns_slice' h
  refine ⟨a, c, e, hl, hk, ?_⟩
  by_cases h0 : es.length = 0
  · exact .inl (List.eq_nil_of_length_eq_zero h0)
  · obtain ⟨g, cap, e2⟩ := owns_slice h (by omega)
    rw [e] at e2
    simp only [Value.slice.injEq] at e2
    obtain ⟨rfl, -, rfl⟩ := e2
    refine .inr ⟨g, 0, rfl, fun i x hx => ?_⟩
    have hi : i < es.length := (List.getElem?_eq_some_iff.1 hx).1
    subst e
    have h1 := h.cellAt (i * 2) (by omega)
    have h2 := h.cellAt (i * 2 + 1) (by omega)
    rw [flat_get Ent.cells_length es i x 1 hx (by omega)] at h2
    have h3 := flat_get Ent.cells_length es i x 0 hx (by omega)
    rw [Nat.add_zero] at h3
    rw [h3] at h1
    rw [Nat.zero_add]
    exact ⟨h1, h2⟩
end Go.Proofs.Ytnedcoomldmhhaa
