/- An array of four numbers that came in by value: opened, and shut again. -/
import Derived.Test.YtklakdhghmhapaaDoorDoor4
namespace Go.Proofs.YtklakdhghmhapaaDoor
open Go.ChangeShapes Go.WideShapes Go.ChangeAt Go.RowKit

theorem cells_u64 : Tryd.prog.cellsOf 22 = 1 := by kernel_rfl
theorem cells_arr : Tryd.prog.cellsOf 23 = 4 := by kernel_rfl
theorem arr4 {α : Type} (l : List α) (h : (⟨l⟩ : Array α).size = 4) : ∃ a b c d, l = [a, b, c, d] := by
  match l, h with
  | [a, b, c, d], _ => exact ⟨a, b, c, d, rfl⟩
abbrev dat4 {H : Type} (y0 y1 y2 y3 : Nat) : DataW H := DataW.agg [.lit (.int .u64 (y0 : Int)), .lit (.int .u64 (y1 : Int)), .lit (.int .u64 (y2 : Int)), .lit (.int .u64 (y3 : Int))]

theorem nat_of_u64 {x : Int} (h : (Lit.int .u64 x).wf = true) : ∃ y : Nat, x = (y : Int) ∧ y < 18446744073709551616 := by
  have : 0 ≤ x ∧ x ≤ 18446744073709551615 := by simpa [Lit.wf, IntKind.min, IntKind.max, IntKind.signed, IntKind.bits] using h
  exact ⟨x.toNat, by omega, by omega⟩
theorem nat_of_u8 {x : Int} (h : (Lit.int .u8 x).wf = true) : ∃ y : Nat, x = (y : Int) ∧ y < 256 := by
  have : 0 ≤ x ∧ x ≤ 255 := by simpa [Lit.wf, IntKind.min, IntKind.max, IntKind.signed, IntKind.bits] using h
  exact ⟨x.toNat, by omega, by omega⟩
theorem int_of_i64 {x : Int} (h : (Lit.int .i64 x).wf = true) : -9223372036854775808 ≤ x ∧ x ≤ 9223372036854775807 := by
  simpa [Lit.wf, IntKind.min, IntKind.max, IntKind.signed, IntKind.bits] using h
theorem wf_u64 {y : Nat} (h : y < 18446744073709551616) : (Lit.int .u64 (y : Int)).wf = true := by
  simp [Lit.wf, IntKind.min, IntKind.max, IntKind.signed, IntKind.bits]
  omega

theorem open_arr {H : Type} {enc : TypeId × Value → H} {W : World} {base : Nat} {v : Value} {d : DataW H} {p : List MemPlace} (hv : Value.okWide Tryd.prog W .any base 23 v) (h : DataW.Trod enc Tryd.prog W 0 (fun _ => true) true 23 v d p) :
    ∃ y0 y1 y2 y3 : Nat, v = ag y0 y1 y2 y3 ∧ d = dat4 y0 y1 y2 y3 ∧ p = [] ∧ y0 < 18446744073709551616 ∧ y1 < 18446744073709551616 ∧ y2 < 18446744073709551616 ∧ y3 < 18446744073709551616 := by
  obtain ⟨cs, rfl, hsz, _⟩ : ∃ cs, v = .agg cs ∧ cs.size = Tryd.prog.cellsOf 23 ∧ Row.okWide Tryd.prog W .any base 23 cs := by
    simpa [Value.okWide, Tryd.underlying23] using hv
  rw [cells_arr] at hsz
  obtain ⟨l⟩ := cs
  obtain ⟨c0, c1, c2, c3, rfl⟩ := arr4 l hsz
  obtain ⟨fuel, hf⟩ := h
  obtain ⟨z0, z1, z2, z3, m, hx, hy0, hy1, hy2, hy3⟩ := trod_array4 Tryd.underlying23 cells_u64 hf
  obtain ⟨x0, e0, rfl, w0⟩ := DataW.trod_int Tryd.underlying22 hy0
  obtain ⟨x1, e1, rfl, w1⟩ := DataW.trod_int Tryd.underlying22 hy1
  obtain ⟨x2, e2, rfl, w2⟩ := DataW.trod_int Tryd.underlying22 hy2
  obtain ⟨x3, e3, rfl, w3⟩ := DataW.trod_int Tryd.underlying22 hy3
  simp at e0 e1 e2 e3
  subst e0 e1 e2 e3
  simp only [Prod.mk.injEq] at hx
  obtain ⟨rfl, rfl⟩ := hx
  obtain ⟨y0, rfl, h0⟩ := nat_of_u64 w0
  obtain ⟨y1, rfl, h1⟩ := nat_of_u64 w1
  obtain ⟨y2, rfl, h2⟩ := nat_of_u64 w2
  obtain ⟨y3, rfl, h3⟩ := nat_of_u64 w3
  exact ⟨y0, y1, y2, y3, rfl, rfl, rfl, h0, h1, h2, h3⟩

theorem shut_arr {H : Type} {enc : TypeId × Value → H} {W : World} {sp : Nat → Bool} {y0 y1 y2 y3 : Nat} (h0 : y0 < 18446744073709551616) (h1 : y1 < 18446744073709551616) (h2 : y2 < 18446744073709551616) (h3 : y3 < 18446744073709551616) :
    DataW.Trod enc Tryd.prog W 0 sp true 23 (ag y0 y1 y2 y3) (dat4 y0 y1 y2 y3) [] := by
  have w0 := wf_u64 h0
  have w1 := wf_u64 h1
  have w2 := wf_u64 h2
  have w3 := wf_u64 h3
  exact ⟨2, by simp [DataW.trod, Value.cells, Tryd.underlying23, Tryd.underlying22, cells_arr, cells_u64, w0, w1, w2, w3, show List.range 4 = [0, 1, 2, 3] from rfl]⟩

theorem ok_four {y0 y1 y2 y3 : Nat} (h0 : y0 < 18446744073709551616) (h1 : y1 < 18446744073709551616) (h2 : y2 < 18446744073709551616) (h3 : y3 < 18446744073709551616) : Ok [y0, y1, y2, y3] := ⟨rfl, fun i => by
  match i with
  | 0 => exact h0
  | 1 => exact h1
  | 2 => exact h2
  | 3 => exact h3
  | n + 4 => simp⟩

end Go.Proofs.YtklakdhghmhapaaDoor
