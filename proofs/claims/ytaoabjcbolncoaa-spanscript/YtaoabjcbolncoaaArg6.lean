/- What came in, opened: a list of acts, a list of strings, a list of numbers. -/
import Derived.Test.YtaoabjcbolncoaaLow6
import Derived.Deep.Slices
import Derived.OpenShut
import Derived.ProofKit
namespace Go.Proofs.Ytaoabjcbolncoaa
open Go.RowKit Go.ChangeShapes Go.WideShapes
set_option linter.unusedVariables false

/-- How a slice lies: without room, or at a plain place. -/
def Sl (a : Option Addr) (len cap : Nat) : Prop := (len = 0 ∧ cap = 0) ∨ ∃ b off, a = some ⟨b, off, none⟩ ∧ len ≤ cap
theorem cells_u8 : Try.prog.cellsOf 5 = 1 := by kernel_rfl
theorem cells_bs : Try.prog.cellsOf 29 = 1 := by kernel_rfl
theorem cells_i : Try.prog.cellsOf 3 = 1 := by kernel_rfl
theorem cells_u : Try.prog.cellsOf 28 = 1 := by kernel_rfl
theorem wf_u8 {a : Int} (h : (Lit.int .u8 a).wf = true) : 0 ≤ a ∧ a ≤ 255 := by
  have e1 : IntKind.u8.min = 0 := by decide
  have e2 : IntKind.u8.max = 255 := by decide
  simp [Lit.wf, e1, e2] at h
  omega
theorem add_plain' (b off i : Nat) : (⟨b, off, none⟩ : Addr).add i = ⟨b, off + i, none⟩ := by
  by_cases h : i = 0
  · subst h; rfl
  · simp [Addr.add, h]
theorem bytes_open {H : Type} {enc : TypeId × Value → H} {w : World} {base : Nat} {held : Bool} {v : Value} {fuel : Nat} {x : DataW H × List MemPlace}
    (h : DataW.trod enc Try.prog w base (fun _ => true) held fuel 29 [v] = some x) : ∃ (a : Option Addr) (xs : List Int) (cap : Nat), v = .slice a xs.length cap ∧ Bd (fun k => k < w.heap.size) w a xs ∧ Sl a xs.length cap := by
  rcases open_ints Try.underlying29 Try.underlying5 cells_u8 h with ⟨hcs, _⟩ | ⟨x, l, c, zs, hcs, _, hl, hm, hz, _, hcell, hwz⟩
  · simp at hcs
    subst hcs
    exact ⟨none, [], 0, rfl, ⟨Rd.nil _ _, .inl rfl⟩, .inl ⟨rfl, rfl⟩⟩
  · simp at hcs
    subst hcs
    simp only [if_true] at hz
    have hlz : (zs.take l).length = l := by simp; omega
    have hby : IsBytes (zs.take l) := fun y hy => wf_u8 (hwz y (List.mem_of_mem_take hy))
    by_cases hc0 : c = 0
    · have hl0 : l = 0 := by omega
      subst hl0
      refine ⟨some x, [], c, by simp, ⟨Rd.nil _ _, .inl rfl⟩, .inl ⟨rfl, hc0⟩⟩
    · obtain ⟨b, off, sp⟩ := x
      have h1 := hcell 0 (by omega)
      have hs : sp = none := by simpa [Addr.add] using World.cell?_spot h1
      subst hs
      have hb : b < w.heap.size := World.block_lt_of_cell? w _ h1
      refine ⟨some ⟨b, off, none⟩, zs.take l, c, by rw [hlz], ⟨⟨hby, by omega, .inr ⟨b, off, rfl, fun i hi => ?_⟩⟩, .inr ⟨b, off, rfl, hb⟩⟩, .inr ⟨b, off, rfl, by omega⟩⟩
      have hi' : i < l := by omega
      have h2 := hcell i (by omega)
      rw [add_plain'] at h2
      rw [h2]
      simp [List.getD, hi']
/-- A list of strings that came in. -/
structure Str6 where
  a : Option Addr
  cap : Nat
  xs : List Int
def Str6.val (x : Str6) : Value := .slice x.a x.xs.length x.cap
def Bss (w : World) (a : Option Addr) (xs : List Str6) : Prop :=
  (∀ x ∈ xs, Bd (fun k => k < w.heap.size) w x.a x.xs ∧ Sl x.a x.xs.length x.cap) ∧
  (xs = [] ∨ ∃ b off, a = some ⟨b, off, none⟩ ∧ b < w.heap.size ∧ ∀ (j : Nat) (x : Str6), xs[j]? = some x → w.cell? ⟨b, off + j, none⟩ = some x.val)
theorem bss_open {H : Type} {enc : TypeId × Value → H} {w : World} {base : Nat} {held : Bool} {a : Option Addr} {len cap fuel : Nat} {x : DataW H × List MemPlace}
    (h : DataW.trod enc Try.prog w base (fun _ => true) held fuel 43 [.slice a len cap] = some x) : ∃ xs : List Str6, xs.length = len ∧ Bss w a xs := by
  rcases Deep.open_slice Try.underlying43 h with ⟨hcs, _⟩ | ⟨ad, l, c, m, n, D, Pl, hcs, hb, hl, hm, hmm, _, hel⟩
  · simp at hcs
    obtain ⟨rfl, rfl, rfl⟩ := hcs
    exact ⟨[], rfl, by simp [Bss]⟩
  · simp at hcs
    obtain ⟨rfl, rfl, rfl⟩ := hcs
    simp only [if_true] at hmm
    have el : ∀ i, i < len → ∃ y : Str6, (Bd (fun k => k < w.heap.size) w y.a y.xs ∧ Sl y.a y.xs.length y.cap) ∧ w.cell? (ad.add i) = some y.val := by
      intro i hi
      obtain ⟨cs', h1, h2⟩ := hel i (by omega)
      rw [cells_bs] at h1
      obtain ⟨_, hlen, hcell⟩ := World.cells?_some h1
      match cs', hlen with
      | [v0], _ =>
        obtain ⟨a3, ws, cap3, q3, hw, hs⟩ := bytes_open h2
        subst q3
        refine ⟨⟨a3, cap3, ws⟩, ⟨hw, hs⟩, ?_⟩
        have e := hcell 0 (by simp)
        simpa [Str6.val, Addr.add] using e
    haveI : Inhabited Str6 := ⟨⟨none, 0, []⟩⟩
    obtain ⟨f, hfx⟩ := Deep.choose_lt el
    refine ⟨(List.range len).map f, by simp, ?_, ?_⟩
    · intro y hy
      obtain ⟨i, hi, rfl⟩ := List.mem_map.1 hy
      exact (hfx i (List.mem_range.1 hi)).1
    · by_cases h0 : len = 0
      · left; simp [h0]
      · right
        obtain ⟨b, off, sp⟩ := ad
        have h1 := (hfx 0 (by omega)).2
        have hs : sp = none := by simpa [Addr.add] using World.cell?_spot h1
        subst hs
        refine ⟨b, off, rfl, World.block_lt_of_cell? w _ h1, fun j y hy => ?_⟩
        have hj : j < len := by
          have := (List.getElem?_eq_some_iff.1 hy).1
          simpa using this
        have hyj : f j = y := by simpa [hj] using hy
        have h2 := (hfx j hj).2
        rw [add_plain', hyj] at h2
        exact h2
/-- A list of numbers that came in. -/
def Ints (w : World) (a : Option Addr) (zs : List Int) : Prop :=
  (∀ z ∈ zs, -9223372036854775808 ≤ z ∧ z ≤ 9223372036854775807) ∧ (zs = [] ∨ ∃ b off, a = some ⟨b, off, none⟩ ∧ b < w.heap.size ∧ ∀ i, i < zs.length → w.cell? ⟨b, off + i, none⟩ = some (.int .i64 (zs.getD i 0)))
theorem ints_open {H : Type} {enc : TypeId × Value → H} {w : World} {base : Nat} {held : Bool} {v : Value} {fuel : Nat} {x : DataW H × List MemPlace}
    (h : DataW.trod enc Try.prog w base (fun _ => true) held fuel 50 [v] = some x) : ∃ (a : Option Addr) (zs : List Int) (cap : Nat), v = .slice a zs.length cap ∧ Ints w a zs := by
  rcases open_ints Try.underlying50 Try.underlying3 cells_i h with ⟨hcs, _⟩ | ⟨x, l, c, zs, hcs, _, hl, hm, hz, _, hcell, hwz⟩
  · simp at hcs
    subst hcs
    exact ⟨none, [], 0, rfl, by simp [Ints]⟩
  · simp at hcs
    subst hcs
    simp only [if_true] at hz
    have hlz : (zs.take l).length = l := by simp; omega
    refine ⟨some x, zs.take l, c, by rw [hlz], fun y hy => wf_i64 (hwz y (List.mem_of_mem_take hy)), ?_⟩
    by_cases h0 : l = 0
    · left; simp [h0]
    · right
      obtain ⟨b, off, sp⟩ := x
      have h1 := hcell 0 (by omega)
      have hs : sp = none := by simpa [Addr.add] using World.cell?_spot h1
      subst hs
      refine ⟨b, off, rfl, World.block_lt_of_cell? w _ h1, fun i hi => ?_⟩
      have hi' : i < l := by omega
      have h2 := hcell i (by omega)
      rw [add_plain'] at h2
      rw [h2]
      simp [List.getD, hi']
end Go.Proofs.Ytaoabjcbolncoaa
