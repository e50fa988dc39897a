/- What the library's stable sort leans on: rows of pairs with marks (their first places), their order, an exchange of two. -/
import Derived.Test.YtnedcoomldmhhaaRow7
namespace Go.Proofs.Ytnedcoomldmhhaa
set_option maxRecDepth 20000
open Go.RowKit Go.Sort
set_option linter.unusedVariables false

/-- A pair and its mark. -/
abbrev Tg := Ent × Nat
def tc (t : Tg) : List Value := t.1.cells
theorem tc_length (t : Tg) : (tc t).length = 2 := rfl
/-- By keys; of one key, by marks. -/
def lt7 (x y : Tg) : Prop := cmpK x.1.k y.1.k < 0 ∨ (x.1.k = y.1.k ∧ x.2 < y.2)
theorem cmpK_lt_trans {a b c : List Int} (h1 : cmpK a b < 0) (h2 : cmpK b c < 0) : cmpK a c < 0 := by
  have h3 := cmpK_trans a b c (by omega) (by omega)
  rcases cmpK_range a c with h | h | h
  · omega
  · have e := (cmpK_zero a c).1 h
    subst e
    have := cmpK_swap a b
    omega
  · omega
theorem lt7_trans {x y z : Tg} (h1 : lt7 x y) (h2 : lt7 y z) : lt7 x z := by
  rcases h1 with h1 | ⟨e1, m1⟩
  · rcases h2 with h2 | ⟨e2, m2⟩
    · exact .inl (cmpK_lt_trans h1 h2)
    · exact .inl (by rw [← e2]; exact h1)
  · rcases h2 with h2 | ⟨e2, m2⟩
    · exact .inl (by rw [e1]; exact h2)
    · exact .inr ⟨e1.trans e2, by omega⟩
/-- One that stands behind, by its mark, is less only by its key. -/
theorem lt7_of_cmp {x y : Tg} (h : cmpK x.1.k y.1.k < 0) : lt7 x y := .inl h
theorem lt7_of_not {x y : Tg} (hm : y.2 < x.2) (h : ¬ cmpK x.1.k y.1.k < 0) : lt7 y x := by
  rcases cmpK_range x.1.k y.1.k with h1 | h1 | h1
  · omega
  · exact .inr ⟨((cmpK_zero _ _).1 h1).symm, hm⟩
  · exact .inl (by rw [cmpK_swap]; omega)

/-- A row of pairs in a block of its own, in the midst of a sort. -/
structure SW (K : Nat → Prop) (b : Nat) (rest : List Value) (W w : World) (ts : List Tg) : Prop where
  blk : Blk w b 47 (flat tc ts ++ rest)
  kp : Kp K W w
  nb : ¬ K b
  lt : ∀ k, K k → k < W.heap.size
  ok : ∀ t ∈ ts, Bd K W t.1.a t.1.k
section
variable {K : Nat → Prop} {b : Nat} {rest : List Value} {W w w' : World} {ts : List Tg}
theorem SW.below (h : SW K b rest W w ts) (f : Below w.heap.size w w') : SW K b rest W w' ts :=
  ⟨h.blk.below f h.blk.lt, h.kp.trans ((Kp.of_below f).mono (fun k hk => Nat.lt_of_lt_of_le (h.lt k hk) h.kp.size)), h.nb, h.lt, h.ok⟩
theorem SW.drew (h : SW K b rest W w ts) : SW K b rest W w.drew ts := ⟨h.blk.drew, h.kp.drew, h.nb, h.lt, h.ok⟩
theorem SW.rd (h : SW K b rest W w ts) {t : Tg} (ht : t ∈ ts) : Rd w t.1.a t.1.k := ((h.ok t ht).kp h.kp).1
theorem SW.cell0 (h : SW K b rest W w ts) {i : Nat} {t : Tg} (ht : ts[i]? = some t) : w.cell? ⟨b, i * 2, none⟩ = some (.slice t.1.a t.1.k.length t.1.c) := by
  have hi : i < ts.length := (List.getElem?_eq_some_iff.1 ht).1
  rw [h.blk.cell, List.getElem?_append_left (by rw [flat_length tc_length]; omega)]
  exact flat_get tc_length ts i t 0 ht (by omega)
theorem SW.cell1 (h : SW K b rest W w ts) {i : Nat} {t : Tg} (ht : ts[i]? = some t) : w.cell? ⟨b, i * 2 + 1, none⟩ = some (.int .u64 t.1.v) := by
  have hi : i < ts.length := (List.getElem?_eq_some_iff.1 ht).1
  rw [h.blk.cell, List.getElem?_append_left (by rw [flat_length tc_length]; omega)]
  exact flat_get tc_length ts i t 1 ht (by omega)
theorem SW.frozen (h : SW K b rest W w ts) (j : Nat) : w.frozen? ⟨b, j, none⟩ = false := h.blk.frozen j
theorem flat_put2 (ts : List Tg) (i : Nat) (t : Tg) (hi : i < ts.length) : ((flat tc ts).set (i * 2) (.slice t.1.a t.1.k.length t.1.c)).set (i * 2 + 1) (.int .u64 t.1.v) = flat tc (ts.set i t) := by
  obtain ⟨r, hr⟩ : ∃ r, ts[i]? = some r := ⟨ts[i], List.getElem?_eq_getElem hi⟩
  have e1 := flat_set tc_length ts i r (⟨t.1.a, t.1.c, t.1.k, r.1.v⟩, t.2) 0 (.slice t.1.a t.1.k.length t.1.c) hr (by omega) rfl
  simp only [Nat.add_zero] at e1
  rw [e1, flat_set tc_length (ts.set i (⟨t.1.a, t.1.c, t.1.k, r.1.v⟩, t.2)) i _ t 1 (.int .u64 t.1.v) (List.getElem?_set_self hi) (by omega) rfl, List.set_set]
/-- A pair is laid at a place. -/
theorem SW.put (h : SW K b rest W w ts) (i : Nat) (t : Tg) (hi : i < ts.length) (hk : Bd K W t.1.a t.1.k) :
    SW K b rest W ((w.setCell ⟨b, i * 2, none⟩ (.slice t.1.a t.1.k.length t.1.c)).setCell ⟨b, i * 2 + 1, none⟩ (.int .u64 t.1.v)) (ts.set i t) := by
  refine ⟨?_, (h.kp.setCell b _ _ h.nb).setCell b _ _ h.nb, h.nb, h.lt, fun u hu => ?_⟩
  · have := (h.blk.set (i * 2) (.slice t.1.a t.1.k.length t.1.c)).set (i * 2 + 1) (.int .u64 t.1.v)
    rwa [List.set_append_left _ _ (by rw [flat_length tc_length]; omega), List.set_append_left _ _ (by rw [List.length_set, flat_length tc_length]; omega), flat_put2 ts i t hi] at this
  · rcases List.mem_or_eq_of_mem_set hu with h1 | h1
    · exact h.ok u h1
    · rw [h1]; exact hk
/-- Two change places. -/
theorem SW.swap (h : SW K b rest W w ts) (i j : Nat) (x y : Tg) (hi : ts[i]? = some x) (hj : ts[j]? = some y) :
    SW K b rest W ((((w.setCell ⟨b, i * 2, none⟩ (.slice y.1.a y.1.k.length y.1.c)).setCell ⟨b, i * 2 + 1, none⟩ (.int .u64 y.1.v)).setCell ⟨b, j * 2, none⟩ (.slice x.1.a x.1.k.length x.1.c)).setCell ⟨b, j * 2 + 1, none⟩ (.int .u64 x.1.v)) ((ts.set i y).set j x) :=
  (h.put i y (List.getElem?_eq_some_iff.1 hi).1 (h.ok y (List.mem_of_getElem? hj))).put j x (by rw [List.length_set]; exact (List.getElem?_eq_some_iff.1 hj).1) (h.ok x (List.mem_of_getElem? hi))
end

theorem get_mid {α : Type} (A : List α) (x : α) (B : List α) (i : Nat) (h : i = A.length) : (A ++ x :: B)[i]? = some x := by subst h; simp
/-- Neighbours change places. -/
theorem swap_near {α : Type} (A : List α) (y x : α) (B : List α) (j : Nat) (h : j = A.length) : ((A ++ y :: x :: B).set (j + 1) y).set j x = A ++ x :: y :: B := by
  subst h
  simp [List.set_append_right]
theorem ins_sorted {S1 S2 : List Tg} {x : Tg} (h : (S1 ++ S2).Pairwise lt7) (h1 : ∀ s ∈ S1, lt7 s x) (h2 : ∀ s ∈ S2, lt7 x s) : (S1 ++ x :: S2).Pairwise lt7 := by
  rw [List.pairwise_append] at h ⊢
  refine ⟨h.1, List.pairwise_cons.2 ⟨h2, h.2.1⟩, fun a ha c hc => ?_⟩
  rcases List.mem_cons.1 hc with rfl | hc
  · exact h1 a ha
  · exact h.2.2 a ha c hc
end Go.Proofs.Ytnedcoomldmhhaa
