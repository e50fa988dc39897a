/- slices.swapRangeCmpFunc and rotateCmpFunc over pairs. -/
import Derived.Test.YtnedcoomldmhhaaIns7
namespace Go.Proofs.Ytnedcoomldmhhaa
set_option maxRecDepth 20000
open Go.RowKit Go.Sort
set_option linter.unusedVariables false

theorem swap_far {α : Type} (P : List α) (x : α) (Q : List α) (y : α) (R : List α) (i j : Nat) (hi : i = P.length) (hj : j = P.length + (1 + Q.length)) : ((P ++ x :: (Q ++ y :: R)).set i y).set j x = P ++ y :: (Q ++ x :: R) := by
  subst hi
  have e1 : (P ++ x :: (Q ++ y :: R)).set P.length y = P ++ y :: (Q ++ y :: R) := by simp [List.set_append_right]
  rw [e1, List.set_append_right _ _ (by omega), show j - P.length = Q.length + 1 by omega, List.set_cons_succ, List.set_append_right _ _ (by omega)]
  simp
/-- Where the exchange of two stretches stands. -/
structure Xc (A X C Y B ts : List Tg) (i : Nat) : Prop where
  ex : ∃ X1 X2 Y1 Y2 : List Tg, X = X1 ++ X2 ∧ Y = Y1 ++ Y2 ∧ X1.length = i ∧ Y1.length = i ∧ ts = A ++ (Y1 ++ (X2 ++ (C ++ (X1 ++ (Y2 ++ B)))))
theorem Xc.step {A X C Y B ts : List Tg} {i : Nat} (h : Xc A X C Y B ts i) (hl : X.length = Y.length) (hi : i < X.length) (M E : Nat) (hM : M = A.length) (hE : E = A.length + X.length + C.length) : ∃ x y, ts[M + i]? = some x ∧ ts[E + i]? = some y ∧ Xc A X C Y B ((ts.set (M + i) y).set (E + i) x) (i + 1) := by
  obtain ⟨X1, X2, Y1, Y2, e1, e2, l1, l2, e⟩ := h.ex
  cases X2 with
  | nil => simp at e1; subst e1; omega
  | cons x X2 =>
    cases Y2 with
    | nil => simp at e2; subst e2; omega
    | cons y Y2 =>
      have hX : X.length = i + (X2.length + 1) := by rw [e1]; simp; omega
      have e3 : ts = (A ++ Y1) ++ x :: ((X2 ++ (C ++ X1)) ++ y :: (Y2 ++ B)) := by rw [e]; simp
      refine ⟨x, y, ?_, ?_, X1 ++ [x], X2, Y1 ++ [y], Y2, by simp [e1], by simp [e2], by simp [l1], by simp [l2], ?_⟩
      · rw [e3]; exact get_mid _ _ _ _ (by simp; omega)
      · have e4 : ts = (A ++ (Y1 ++ x :: (X2 ++ (C ++ X1)))) ++ y :: (Y2 ++ B) := by rw [e]; simp
        rw [e4]; exact get_mid _ _ _ _ (by simp; omega)
      · rw [e3, swap_far (A ++ Y1) x (X2 ++ (C ++ X1)) y (Y2 ++ B) _ _ (by simp; omega) (by simp; omega)]
        simp

/-- Where the turning about of two stretches stands. -/
structure Ro (A X Y B ts : List Tg) (m i j : Nat) : Prop where
  ex : ∃ P X' Y' Q : List Tg, ts = A ++ (P ++ (X' ++ (Y' ++ (Q ++ B)))) ∧ X'.length = i ∧ Y'.length = j ∧ A.length + P.length + i = m ∧ P ++ (Y' ++ (X' ++ Q)) = Y ++ X

end Go.Proofs.Ytnedcoomldmhhaa
