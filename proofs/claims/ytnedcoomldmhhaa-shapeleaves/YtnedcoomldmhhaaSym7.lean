/- slices.symMergeCmpFunc over pairs, where one side is one pair. -/
import Derived.Test.YtnedcoomldmhhaaRot7
namespace Go.Proofs.Ytnedcoomldmhhaa
set_option maxRecDepth 20000
open Go.RowKit Go.Sort
set_option linter.unusedVariables false

/-- Where the search for the place of x stands. -/
structure Se (R : List Tg) (x : Tg) (i j : Nat) : Prop where
  lo : ∀ t r, R[t]? = some r → t < i → lt7 r x
  hi : ∀ t r, R[t]? = some r → j ≤ t → lt7 x r
theorem Se.start (R : List Tg) (x : Tg) : Se R x 0 R.length := ⟨fun _ _ _ h => by omega, fun t r h h1 => by have := (List.getElem?_eq_some_iff.1 h).1; omega⟩
theorem sorted_at {R : List Tg} (h : R.Pairwise lt7) {s t : Nat} {x y : Tg} (hs : R[s]? = some x) (ht : R[t]? = some y) (hst : s < t) : lt7 x y := by
  have h1 := List.getElem?_eq_some_iff.1 hs
  have h2 := List.getElem?_eq_some_iff.1 ht
  have := List.pairwise_iff_getElem.1 h s t h1.1 h2.1 hst
  rwa [h1.2, h2.2] at this
theorem Se.up {R : List Tg} {x : Tg} {i j h : Nat} {r : Tg} (s : Se R x i j) (p : R.Pairwise lt7) (hr : R[h]? = some r) (hl : lt7 r x) : Se R x (h + 1) j := by
  refine ⟨fun t u hu ht => ?_, s.hi⟩
  by_cases e : t = h
  · subst e; rw [hr] at hu; cases hu; exact hl
  · exact lt7_trans (sorted_at p hu hr (by omega)) hl
theorem Se.down {R : List Tg} {x : Tg} {i j h : Nat} {r : Tg} (s : Se R x i j) (p : R.Pairwise lt7) (hr : R[h]? = some r) (hl : lt7 x r) : Se R x i h := by
  refine ⟨s.lo, fun t u hu ht => ?_⟩
  by_cases e : t = h
  · subst e; rw [hr] at hu; cases hu; exact hl
  · exact lt7_trans hl (sorted_at p hr hu (by omega))
theorem Se.split {R : List Tg} {x : Tg} {i : Nat} (s : Se R x i i) (p : R.Pairwise lt7) : (R.take i ++ x :: R.drop i).Pairwise lt7 := by
  refine ins_sorted (by rw [List.take_append_drop]; exact p) (fun u hu => ?_) (fun u hu => ?_)
  · obtain ⟨q, hq, hqe⟩ := List.mem_take_iff_getElem.1 hu
    exact s.lo q u (by rw [List.getElem?_eq_getElem (by omega), hqe]) (by omega)
  · obtain ⟨q, hq⟩ := List.mem_iff_getElem?.1 hu
    rw [List.getElem?_drop] at hq
    exact s.hi (i + q) u hq (by omega)
/-- Where the moving of x stands. -/
structure Mv (A R1 C ts : List Tg) (x : Tg) (t : Nat) : Prop where
  ex : ∃ S1 S2 : List Tg, R1 = S1 ++ S2 ∧ S1.length = t ∧ ts = A ++ (S1 ++ x :: (S2 ++ C))
theorem Mv.at {A R1 C ts : List Tg} {x : Tg} {t : Nat} (h : Mv A R1 C ts x t) (j : Nat) (hj : j = A.length + t) : ts[j]? = some x := by
  obtain ⟨S1, S2, e1, l, e⟩ := h.ex
  rw [e, ← List.append_assoc]
  exact get_mid _ _ _ _ (by simp; omega)
theorem Mv.right {A R1 C ts : List Tg} {x : Tg} {t : Nat} (h : Mv A R1 C ts x t) (ht : t < R1.length) (j : Nat) (hj : j = A.length + t) : ∃ y, y ∈ R1 ∧ ts[j + 1]? = some y ∧ Mv A R1 C ((ts.set j y).set (j + 1) x) x (t + 1) := by
  obtain ⟨S1, S2, e1, l, e⟩ := h.ex
  cases S2 with
  | nil => simp at e1; subst e1; omega
  | cons y S2 =>
    refine ⟨y, by rw [e1]; simp, ?_, S1 ++ [y], S2, by simp [e1], by simp [l], ?_⟩
    · have e2 : ts = (A ++ (S1 ++ [x])) ++ y :: (S2 ++ C) := by rw [e]; simp
      rw [e2]; exact get_mid _ _ _ _ (by simp; omega)
    · have e2 : ts = (A ++ S1) ++ x :: ([] ++ y :: (S2 ++ C)) := by rw [e]; simp
      rw [e2, swap_far (A ++ S1) x [] y (S2 ++ C) _ _ (by simp; omega) (by simp; omega)]
      simp
theorem Mv.left {A R1 C ts : List Tg} {x : Tg} {t : Nat} (h : Mv A R1 C ts x (t + 1)) (j : Nat) (hj : j = A.length + t) : ∃ y, y ∈ R1 ∧ ts[j]? = some y ∧ Mv A R1 C ((ts.set (j + 1) y).set j x) x t := by
  obtain ⟨S1, S2, e1, l, e⟩ := h.ex
  rcases List.eq_nil_or_concat S1 with rfl | ⟨S, y, rfl⟩
  · simp at l
  · simp only [List.concat_eq_append, List.append_assoc, List.singleton_append] at e e1 l
    simp at l
    refine ⟨y, by rw [e1]; simp, ?_, S, y :: S2, by simp [e1], by omega, ?_⟩
    · have e2 : ts = (A ++ S) ++ y :: (x :: (S2 ++ C)) := by rw [e]; simp
      rw [e2]; exact get_mid _ _ _ _ (by simp; omega)
    · have e2 : ts = (A ++ S) ++ y :: x :: (S2 ++ C) := by rw [e]; simp
      rw [e2, swap_near (A ++ S) y x _ j (by simp; omega)]
      simp

end Go.Proofs.Ytnedcoomldmhhaa
