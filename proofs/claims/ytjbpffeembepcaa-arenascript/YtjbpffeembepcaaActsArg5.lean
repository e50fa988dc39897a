/- A slice of acts that came in, each with a list of words, opened: what the walk of ArenaScript is told of it. -/
import Derived.Test.YtjbpffeembepcaaActs5
import Derived.Deep.Slices
import Derived.OpenShut
import Derived.ProofKit
namespace Go.Proofs.Ytjbpffeembepcaa
open Go.RowKit Go.ChangeShapes Go.WideShapes

theorem cells_act : Try.prog.cellsOf 31 = 4 := by kernel_rfl
theorem cells_i : Try.prog.cellsOf 3 = 1 := by kernel_rfl
theorem cells_u : Try.prog.cellsOf 28 = 1 := by kernel_rfl
theorem cells_w : Try.prog.cellsOf 29 = 1 := by kernel_rfl
theorem cells_1 : Try.prog.cellsOf 32 = 1 := by kernel_rfl

theorem words_open {H : Type} {enc : TypeId × Value → H} {w : World} {base : Nat} {spare : Nat → Bool} {held : Bool} {v : Value} {fuel : Nat} {x : DataW H × List MemPlace}
    (h : DataW.trod enc Try.prog w base spare held fuel 29 [v] = some x) : ∃ (a : Option Addr) (ws : List Int) (cap : Nat), v = .slice a ws.length cap ∧ Wd (fun k => k < w.heap.size) w a ws := by
  rcases open_ints Try.underlying29 Try.underlying32 cells_1 h with ⟨hcs, _⟩ | ⟨x, l, c, zs, hcs, _, hl, hm, hz, _, hcell, hwz⟩
  · simp at hcs
    subst hcs
    exact ⟨none, [], 0, rfl, .inl rfl⟩
  · simp at hcs
    subst hcs
    have hlz : l ≤ zs.length := by rw [hz]; split <;> omega
    refine ⟨some x, zs.take l, c, by rw [List.length_take, Nat.min_eq_left hlz], ?_⟩
    by_cases h0 : l = 0
    · left; simp [h0]
    · right
      obtain ⟨b, off, sp⟩ := x
      have h1 := hcell 0 (by omega)
      cases sp with
      | some q =>
        simp only [World.cell?, Addr.add] at h1
        split at h1 <;> simp at h1
      | none =>
        refine ⟨b, off, rfl, World.block_lt_of_cell? w _ h1, fun i hi => ?_⟩
        have hi' : i < l ∧ i < zs.length := by simp at hi; omega
        have h2 := hcell i hi'.2
        rw [show wAt (zs.take l) i = zs.getD i 0 from by simp [wAt, List.getD, hi'.1]]
        have ea : (⟨b, off, none⟩ : Addr).add i = ⟨b, off + i, none⟩ := by
          by_cases h : i = 0
          · subst h; rfl
          · simp [Addr.add, h]
        rw [← ea]
        exact h2

theorem acts_open {H : Type} {enc : TypeId × Value → H} {w : World} {base : Nat} {spare : Nat → Bool} {held : Bool} {a : Option Addr} {len cap fuel : Nat} {x : DataW H × List MemPlace}
    (h : DataW.trod enc Try.prog w base spare held fuel 22 [.slice a len cap] = some x) : ∃ xs : List Do5, xs.length = len ∧ Acts5 w a xs := by
  rcases Deep.open_slice Try.underlying22 h with ⟨hcs, _⟩ | ⟨ad, l, c, m, n, D, Pl, hcs, hb, hl, hm, hmm, _, hel⟩
  · simp at hcs
    obtain ⟨rfl, rfl, rfl⟩ := hcs
    exact ⟨[], rfl, by simp [Acts5]⟩
  · simp at hcs
    obtain ⟨rfl, rfl, rfl⟩ := hcs
    have hlm : len ≤ m := by rw [hmm]; split <;> omega
    have el : ∀ i, i < len → ∃ y : Do5, (y.h < 4294967296 ∧ Wd (fun k => k < w.heap.size) w y.a y.ws) ∧ ∀ (k : Nat) (v : Value), y.cells[k]? = some v → w.cell? (ad.add (i * 4 + k)) = some v := by
      intro i hi
      obtain ⟨cs', h1, h2⟩ := hel i (by omega)
      rw [cells_act] at h1
      obtain ⟨_, hlen, hcell⟩ := World.cells?_some h1
      obtain ⟨ys, k, _, _, _, hys, hf⟩ := DataW.trod_struct Try.underlying31 h2
      match ys, hys, cs', hlen with
      | [y0, y1, y2, y3], _, [v0, v1, v2, v3], _ =>
        have g0 := hf 0 _ rfl
        have g1 := hf 1 _ rfl
        have g2 := hf 2 _ rfl
        have g3 := hf 3 _ rfl
        simp [cells_i, cells_u, cells_w] at g0 g1 g2 g3
        obtain ⟨z0, q0, _⟩ := DataW.trod_int Try.underlying3 g0
        obtain ⟨z1, q1, _⟩ := DataW.trod_int Try.underlying3 g1
        obtain ⟨z2, q2, _, r2⟩ := DataW.trod_int Try.underlying28 g2
        obtain ⟨a3, ws, cap3, q3, hw⟩ := words_open g3
        have hz2 := wf_u32 r2
        obtain ⟨hh, rfl⟩ : ∃ hh : Nat, z2 = (hh : Int) := ⟨z2.toNat, by omega⟩
        simp at q0 q1 q2
        subst q0 q1 q2 q3
        refine ⟨⟨z0, z1, hh, a3, cap3, ws⟩, ⟨by dsimp only; omega, hw⟩, fun k v hv => ?_⟩
        have hk : k < 4 := by
          have := (List.getElem?_eq_some_iff.1 hv).1
          simpa [Do5.cells] using this
        have e := hcell k (by simpa using hk)
        rw [Deep.add_add] at e
        rw [e]
        exact hv
    haveI : Inhabited Do5 := ⟨⟨0, 0, 0, none, 0, []⟩⟩
    obtain ⟨f, hfx⟩ := Deep.choose_lt el
    refine ⟨(List.range len).map f, by simp, ?_, ?_⟩
    · intro y hy
      obtain ⟨i, hi, rfl⟩ := List.mem_map.1 hy
      exact (hfx i (List.mem_range.1 hi)).1
    · by_cases h0 : len = 0
      · left; simp [h0]
      · right
        obtain ⟨b, off, sp⟩ := ad
        have h1 := (hfx 0 (by omega)).2 0 _ rfl
        cases sp with
        | some q =>
          simp only [World.cell?, Addr.add] at h1
          split at h1 <;> simp at h1
        | none =>
          refine ⟨b, off, rfl, fun j y hy k v hv => ?_⟩
          have hj : j < len := by
            have := (List.getElem?_eq_some_iff.1 hy).1
            simpa using this
          have hyj : f j = y := by simpa [hj] using hy
          have h2 := (hfx j hj).2 k v (by rw [hyj]; exact hv)
          rw [WideShapes.add_plain, ← Nat.add_assoc] at h2
          exact h2
end Go.Proofs.Ytjbpffeembepcaa
