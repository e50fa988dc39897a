/- The document's arena: Live, There, Word, Give, New. -/
import Derived.Test.YtjbpffeembepcaaRf5
namespace Go.Proofs.Ytjbpffeembepcaa
open Go.RowKit
set_option linter.unusedVariables false
set_option linter.unusedSimpArgs false

def hasR (rs : List RowR) (h : Nat) : Bool := (rs[h]?.join).isSome
section
variable {w : World} {g : Nat} {most : Int} {rs : List RowR} {back : List Nat} {vc vb : Value}
theorem rlive (h : RfC w g most rs back vc vb) (hl : rs.length ≤ 1048577) (h1 : 1 ≤ rs.length) (hb : back.length ≤ rs.length - 1) :
    Calls Try.prog 22 #[.pointer (some ⟨g, 0, none⟩)] w fun e w' => e = .returned (.int .i64 ((rs.length - 1 - back.length : Nat) : Int)) ∧ Still w w' := by
  obtain ⟨ac, cap, rfl⟩ := owns_slice' h.rows
  obtain ⟨ab, cab, rfl⟩ := owns_slice' h.backs
  have c0 : w.cell? ⟨g, 0, none⟩ = some (.slice ac rs.length cap) := h.blk.cell 0
  have c1 : w.cell? ⟨g, 1, none⟩ = some (.slice ab back.length cab) := h.blk.cell 1
  clear h
  go_enter Try.func22, Try.ntmps22
  go_wp2
  go_quiet (fail)
  go_wp2
  go_ret
  exact ⟨ret_int (by first | omega | (rw [IntKind.wrap_i64]; omega) | (simp only [IntKind.wrap_i64]; omega)), _, rfl⟩
theorem rthere (h : RfC w g most rs back vc vb) (hl : rs.length ≤ 1048577) (x : Nat) (hx : x < 4294967296) :
    Calls Try.prog 19 #[.pointer (some ⟨g, 0, none⟩), .int .u32 (x : Int)] w fun e w' => e = .returned (.bool (hasR rs x)) ∧ w' = w := by
  obtain ⟨ac, cap, rfl⟩ := owns_slice' h.rows
  have c0 : w.cell? ⟨g, 0, none⟩ = some (.slice ac rs.length cap) := h.blk.cell 0
  have e1 : IntKind.i64.wrap (x : Int) = (x : Int) := by rw [IntKind.wrap_i64]; omega
  by_cases hlt : x < rs.length
  · obtain ⟨r, hr⟩ : ∃ r, rs[x]? = some r := ⟨_, List.getElem?_eq_getElem hlt⟩
    obtain ⟨gc, cap', e⟩ := owns_slice h.rows (by omega)
    simp only [Value.slice.injEq] at e
    obtain ⟨rfl, -, rfl⟩ := e
    have z1 := (h.rows.cellAt (x * 2 + 1) (by omega)).trans (flatR_get rs x r 1 hr (by omega))
    have z1' : w.cell? ⟨gc, x * 2 + 1, none⟩ = some (.bool (hasR rs x)) := by
      rw [z1]
      unfold hasR
      rw [hr]
      rcases r with _ | ⟨v, ws⟩ <;> rfl
    clear h hr z1 hl
    generalize hasR rs x = bb at *
    go_enter Try.func19, Try.ntmps19
    go_wp2
    go_ret
    exact ⟨rfl, rfl⟩
  · have hb : hasR rs x = false := by
      unfold hasR
      rw [List.getElem?_eq_none (by omega)]
      rfl
    rw [hb]
    clear h hl
    go_enter Try.func19, Try.ntmps19
    go_wp2
    go_ret
    exact ⟨rfl, rfl⟩
end
end Go.Proofs.Ytjbpffeembepcaa
