/- A slice of acts that came in, opened: what the walk of MeterScript is told of it. -/
import Derived.Test.YtkofnjpjfnedpaaScript0
import Derived.Deep.Slices
import Derived.OpenShut
import Derived.ProofKit
namespace Go.Proofs.Ytkofnjpjfnedpaa
open Go.RowKit Go.ChangeShapes Go.WideShapes

theorem cells_act : Try.prog.cellsOf 31 = 5 := by kernel_rfl
theorem cells_i : Try.prog.cellsOf 3 = 1 := by kernel_rfl
theorem cells_l : Try.prog.cellsOf 2 = 1 := by kernel_rfl
theorem cells_b : Try.prog.cellsOf 4 = 1 := by kernel_rfl

theorem i64_wf {n : Int} (h : (Lit.int .i64 n).wf = true) : -9223372036854775808 ≤ n ∧ n ≤ 9223372036854775807 := by
  have e1 : IntKind.i64.min = -9223372036854775808 := by decide
  have e2 : IntKind.i64.max = 9223372036854775807 := by decide
  simp [Lit.wf, e1, e2] at h
  omega

theorem acts_open {H : Type} {enc : TypeId × Value → H} {w : World} {base : Nat} {spare : Nat → Bool} {held : Bool} {a : Option Addr} {len cap fuel : Nat} {x : DataW H × List MemPlace}
    (h : DataW.trod enc Try.prog w base spare held fuel 22 [.slice a len cap] = some x) : ∃ xs : List Do, xs.length = len ∧ Acts w a xs := by
  rcases Deep.open_slice Try.underlying22 h with ⟨hcs, _⟩ | ⟨ad, l, c, m, n, D, Pl, hcs, hb, hl, hm, hmm, _, hel⟩
  · simp at hcs
    obtain ⟨rfl, rfl, rfl⟩ := hcs
    exact ⟨[], rfl, by simp [Acts]⟩
  · simp at hcs
    obtain ⟨rfl, rfl, rfl⟩ := hcs
    have hlm : len ≤ m := by rw [hmm]; split <;> omega
    have el : ∀ i, i < len → ∃ y : Do, (-9223372036854775808 ≤ y.n ∧ y.n ≤ 9223372036854775807) ∧ ∀ (k : Nat) (v : Value), y.cells[k]? = some v → w.cell? (ad.add (i * 5 + k)) = some v := by
      intro i hi
      obtain ⟨cs', h1, h2⟩ := hel i (by omega)
      rw [cells_act] at h1
      obtain ⟨_, hlen, hcell⟩ := World.cells?_some h1
      obtain ⟨ys, k, _, _, _, hys, hf⟩ := DataW.trod_struct Try.underlying31 h2
      match ys, hys, cs', hlen with
      | [y0, y1, y2, y3, y4], _, [v0, v1, v2, v3, v4], _ =>
        have g0 := hf 0 _ rfl
        have g1 := hf 1 _ rfl
        have g2 := hf 2 _ rfl
        have g3 := hf 3 _ rfl
        have g4 := hf 4 _ rfl
        simp [cells_i, cells_l, cells_b] at g0 g1 g2 g3 g4
        obtain ⟨z0, q0, _⟩ := DataW.trod_int Try.underlying3 g0
        obtain ⟨z1, q1, _⟩ := DataW.trod_int Try.underlying3 g1
        obtain ⟨z2, q2, _⟩ := DataW.trod_int Try.underlying2 g2
        obtain ⟨z3, q3, _, r3⟩ := DataW.trod_int Try.underlying2 g3
        obtain ⟨z4, q4, _⟩ := DataW.trod_bool Try.underlying4 g4
        simp at q0 q1 q2 q3 q4
        subst q0 q1 q2 q3 q4
        refine ⟨⟨z0, z1, z2, z3, z4⟩, i64_wf r3, fun k v hv => ?_⟩
        have hk : k < 5 := by
          have := (List.getElem?_eq_some_iff.1 hv).1
          simpa [Do.cells] using this
        have e := hcell k (by simpa using hk)
        rw [Deep.add_add] at e
        rw [e]
        exact hv
    haveI : Inhabited Do := ⟨⟨0, 0, 0, 0, false⟩⟩
    obtain ⟨f, hfx⟩ := Deep.choose_lt el
    refine ⟨(List.range len).map f, by simp, ?_, ?_⟩
    · intro y hy
      obtain ⟨i, hi, rfl⟩ := List.mem_map.1 hy
      exact (hfx i (List.mem_range.1 hi)).1
    · by_cases h0 : len = 0
      · left; simp [h0]
      · right
        obtain ⟨b, off, sp⟩ := ad
        have h1 := (hfx 0 (by omega)).2 0 _ rfl
        cases sp with
        | some q =>
          simp only [World.cell?, Addr.add] at h1
          split at h1 <;> simp at h1
        | none =>
          refine ⟨b, off, rfl, fun j y hy k v hv => ?_⟩
          have hj : j < len := by
            have := (List.getElem?_eq_some_iff.1 hy).1
            simpa using this
          have hyj : f j = y := by simpa [hj] using hy
          have h2 := (hfx j hj).2 k v (by rw [hyj]; exact hv)
          rw [WideShapes.add_plain, ← Nat.add_assoc] at h2
          exact h2
end Go.Proofs.Ytkofnjpjfnedpaa
