/- slices.insertionSortCmpFunc over pairs by keys. -/
import Derived.Test.YtnedcoomldmhhaaSrt7
namespace Go.Proofs.Ytnedcoomldmhhaa
set_option maxRecDepth 20000
open Go.RowKit Go.Sort
set_option linter.unusedVariables false

/-- Where the inner loop stands: x goes down among what is sorted. -/
structure InL (A X B ts : List Tg) (x : Tg) (i j : Nat) : Prop where
  ex : ∃ S1 S2 : List Tg, ts = A ++ (S1 ++ x :: (S2 ++ (X.drop (i + 1 - A.length) ++ B))) ∧ j = A.length + S1.length ∧ (S1 ++ S2).Perm (X.take (i - A.length)) ∧ (S1 ++ S2).Pairwise lt7 ∧ ∀ s ∈ S2, lt7 x s
/-- Where the outer loop stands. -/
structure OuL (A X B ts : List Tg) (i : Nat) : Prop where
  ex : ∃ S : List Tg, ts = A ++ (S ++ (X.drop (i - A.length) ++ B)) ∧ S.Perm (X.take (i - A.length)) ∧ S.Pairwise lt7
theorem OuL.start (A X B : List Tg) : OuL A X B (A ++ (X ++ B)) (A.length + 1) := by
  refine ⟨X.take 1, ?_, by simp, ?_⟩
  · rw [show A.length + 1 - A.length = 1 by omega, ← List.append_assoc (X.take 1), List.take_append_drop]
  · cases X with
    | nil => simp
    | cons x X => simp
theorem OuL.inner {A X B ts : List Tg} {i : Nat} (h : OuL A X B ts i) (ha : A.length < i) (hi : i < A.length + X.length) : ∃ x, ts[i]? = some x ∧ X[i - A.length]? = some x ∧ InL A X B ts x i i := by
  obtain ⟨S, e, p, s⟩ := h.ex
  have hx : i - A.length < X.length := by omega
  refine ⟨X[i - A.length], ?_, List.getElem?_eq_getElem hx, S, [], ?_, ?_, by simpa using p, by simpa using s, by simp⟩
  · have hl : S.length = i - A.length := by rw [p.length_eq]; simp; omega
    rw [e, List.drop_eq_getElem_cons hx, ← List.append_assoc, List.cons_append]
    exact get_mid _ _ _ _ (by simp; omega)
  · rw [e, List.drop_eq_getElem_cons hx, show i - A.length + 1 = i + 1 - A.length by omega]
    simp
  · have hl : S.length = i - A.length := by rw [p.length_eq]; simp; omega
    omega
theorem InL.at {A X B ts : List Tg} {x : Tg} {i j : Nat} (h : InL A X B ts x i j) : ts[j]? = some x := by
  obtain ⟨S1, S2, e, hj, _⟩ := h.ex
  rw [e, ← List.append_assoc]
  exact get_mid _ _ _ _ (by simp; omega)
theorem InL.prev {A X B ts : List Tg} {x : Tg} {i j : Nat} (h : InL A X B ts x i (j + 1)) (ha : A.length < j + 1) : ∃ y, ts[j]? = some y ∧ y ∈ X.take (i - A.length) ∧ (lt7 x y → InL A X B ((ts.set (j + 1) y).set j x) x i j) ∧ (lt7 y x → ∀ s, s = y → InL A X B ts x i (j + 1)) := by
  obtain ⟨S1, S2, e, hj, p, s, q⟩ := h.ex
  rcases List.eq_nil_or_concat S1 with rfl | ⟨S, y, rfl⟩
  · simp at hj; omega
  · simp only [List.concat_eq_append, List.append_assoc, List.singleton_append] at e p s
    refine ⟨y, ?_, p.subset (by simp), fun hl => ⟨S, y :: S2, ?_, ?_, by simpa using p, by simpa using s, ?_⟩, fun _ _ _ => h⟩
    · rw [e, ← List.append_assoc]
      exact get_mid _ _ _ _ (by simp at hj ⊢; omega)
    · rw [e, ← List.append_assoc, List.cons_append]
      rw [swap_near (A ++ S) y x _ j (by simp at hj ⊢; omega)]
      simp
    · simp at hj ⊢; omega
    · intro z hz
      rcases List.mem_cons.1 hz with rfl | hz
      · exact hl
      · exact q z hz
/-- The inner loop ends. -/
theorem InL.done {A X B ts : List Tg} {x : Tg} {i j : Nat} (h : InL A X B ts x i j) (ha : A.length < i) (hx : X[i - A.length]? = some x) (hs : j = A.length ∨ ∃ y, ts[j - 1]? = some y ∧ 0 < j ∧ lt7 y x) : OuL A X B ts (i + 1) := by
  obtain ⟨S1, S2, e, hj, p, s, q⟩ := h.ex
  have hi : i - A.length < X.length := (List.getElem?_eq_some_iff.1 hx).1
  have hxe : X[i - A.length] = x := (List.getElem?_eq_some_iff.1 hx).2
  refine ⟨S1 ++ x :: S2, ?_, ?_, ins_sorted s ?_ q⟩
  · rw [e]; simp
  · rw [show i + 1 - A.length = i - A.length + 1 by omega, List.take_succ_eq_append_getElem hi, hxe]
    exact (List.perm_middle.trans (List.Perm.cons x p)).trans (List.perm_append_comm (l₁ := [x]))
  · rcases hs with hs | ⟨y, hy, h0, hl⟩
    · have : S1 = [] := List.eq_nil_of_length_eq_zero (by omega)
      subst this; simp
    · rcases List.eq_nil_or_concat S1 with rfl | ⟨S, z, rfl⟩
      · simp
      · simp only [List.concat_eq_append, List.append_assoc, List.singleton_append] at e s hj ⊢
        have hz : ts[j - 1]? = some z := by
          rw [e, ← List.append_assoc]
          exact get_mid _ _ _ _ (by simp at hj ⊢; omega)
        rw [hz] at hy
        cases hy
        intro u hu
        rcases List.mem_append.1 hu with hu | hu
        · have := (List.pairwise_append.1 s).2.2 u hu y (by simp)
          exact lt7_trans this hl
        · simp at hu; subst hu; exact hl

end Go.Proofs.Ytnedcoomldmhhaa
