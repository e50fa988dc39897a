/- Plain theory for MaskBack: a mask made of bytes holds just them. No walk here. -/
import Derived.Test.YtklakdhghmhapaaDoorLawSteps
namespace Go.Proofs.YtklakdhghmhapaaDoor
open Go.RowKit

theorem inM_z0 (c : Nat) (hc : c < 256) : inM z0 c = false := by
  have h : c / 64 = 0 ∨ c / 64 = 1 ∨ c / 64 = 2 ∨ c / 64 = 3 := by omega
  unfold inM
  rcases h with h | h | h | h <;> rw [h] <;> simp [z0]
theorem inM_fold (xs : List Nat) (hx : ∀ x ∈ xs, x < 256) : ∀ m, Ok m → ∀ c, inM (xs.foldl wth m) c = (decide (c ∈ xs) || inM m c) := by
  induction xs with
  | nil => intro m _ c; simp
  | cons x xs ih =>
    intro m hm c
    rw [List.foldl_cons, ih (fun y hy => hx y (by simp [hy])) _ (wth_ok m hm x (hx x (by simp))), inM_wth m hm x c (hx x (by simp))]
    by_cases h1 : c = x <;> by_cases h2 : c ∈ xs <;> simp [h1, h2]
theorem inM_of (xs : List Nat) (hx : ∀ x ∈ xs, x < 256) (c : Nat) (hc : c < 256) : inM (ofK xs) c = decide (c ∈ xs) := by
  unfold ofK
  rw [inM_fold xs hx z0 z0_ok c, inM_z0 c hc, Bool.or_false]
theorem ofK_ok (xs : List Nat) (hx : ∀ x ∈ xs, x < 256) : Ok (ofK xs) := fold_ok xs hx z0 z0_ok
/-- In whatever order. -/
theorem of_rev (xs : List Nat) (hx : ∀ x ∈ xs, x < 256) : ofK xs.reverse = ofK xs :=
  mask_ext _ _ (ofK_ok _ (fun x h => hx x (by simpa using h))) (ofK_ok xs hx) fun c hc => by
    rw [inM_of _ (fun x h => hx x (by simpa using h)) c hc, inM_of xs hx c hc]
    simp
theorem of_elems (m : List Nat) (hm : Ok m) : ofK (elems m) = m :=
  mask_ext _ _ (ofK_ok _ (elems_bytes m)) hm fun c hc => by
    rw [inM_of _ (elems_bytes m) c hc]
    cases h : inM m c with
    | false => simp [elems_mem, h]
    | true => simp [elems_mem, h, hc]
/-- Step by step from the end. -/
def fromEnd (xs : List Nat) (k : Nat) : List Nat := ofK (xs.drop k).reverse
theorem fromEnd_step (xs : List Nat) (k : Nat) (h : k < xs.length) : fromEnd xs k = wth (fromEnd xs (k + 1)) (xs.getD k 0) := by
  unfold fromEnd ofK
  rw [drop_getD xs k h, List.reverse_cons, List.foldl_append]
  rfl
theorem fromEnd_ok (xs : List Nat) (hx : ∀ x ∈ xs, x < 256) (k : Nat) : Ok (fromEnd xs k) := ofK_ok _ (fun x h => hx x (List.mem_of_mem_drop (by simpa using h)))
theorem fromEnd_all (xs : List Nat) (hx : ∀ x ∈ xs, x < 256) : fromEnd xs 0 = ofK xs := by unfold fromEnd; rw [List.drop_zero]; exact of_rev xs hx
theorem fromEnd_none (xs : List Nat) : fromEnd xs xs.length = z0 := by unfold fromEnd; rw [List.drop_length]; rfl

theorem filter_or_len (p q : Nat → Bool) (l : List Nat) : (l.filter fun b => p b || q b).length ≤ (l.filter p).length + (l.filter q).length := by
  induction l with
  | nil => simp
  | cons a l ih =>
    simp only [List.filter_cons]
    cases p a <;> cases q a <;> simp <;> omega
theorem filter_one (x : Nat) : ∀ n, ((List.range n).filter fun b => decide (b = x)).length ≤ 1
  | 0 => by simp
  | n + 1 => by
    rw [List.range_succ, List.filter_append, List.length_append]
    by_cases h : n = x
    · have : (List.range n).filter (fun b => decide (b = x)) = [] := by
        rw [List.filter_eq_nil_iff]; intro b hb; simp at hb ⊢; omega
      rw [this]; simp [h]
    · have := filter_one x n
      simp [h]
      simpa using this
theorem elems_wth (m : List Nat) (hm : Ok m) (b : Nat) (hb : b < 256) : (elems (wth m b)).length ≤ (elems m).length + 1 := by
  have e : elems (wth m b) = (List.range 256).filter fun c => decide (c = b) || inM m c := by
    apply List.filter_congr
    intro c _
    exact inM_wth m hm b c hb
  rw [e]
  have h1 := filter_or_len (fun c => decide (c = b)) (inM m) (List.range 256)
  have h2 := filter_one b 256
  unfold elems
  omega
theorem elems_fold (xs : List Nat) (hx : ∀ x ∈ xs, x < 256) : ∀ m, Ok m → (elems (xs.foldl wth m)).length ≤ (elems m).length + xs.length := by
  induction xs with
  | nil => intro m _; simp
  | cons x xs ih =>
    intro m hm
    have h1 := ih (fun y hy => hx y (by simp [hy])) _ (wth_ok m hm x (hx x (by simp)))
    have h2 := elems_wth m hm x (hx x (by simp))
    simp only [List.foldl_cons, List.length_cons]
    omega
theorem elems_z0 : elems z0 = [] := by decide +kernel
theorem elems_of (xs : List Nat) (hx : ∀ x ∈ xs, x < 256) : (elems (ofK xs)).length ≤ xs.length := by
  have := elems_fold xs hx z0 z0_ok
  rw [elems_z0] at this
  simpa [ofK] using this

theorem nxt_self (m : List Nat) (j : Nat) (hj : j < (elems m).length) : nxt m ((elems m).getD j 0 : Int) = ((elems m).getD j 0 : Int) := by
  rw [nxt_from m _ j (by omega) (fun i hi => by have := elems_lt m i j hi hj; omega) (fun _ => by omega)]
  unfold stepUp
  rw [if_pos hj]
theorem prv_self (m : List Nat) (j : Nat) (hj : j < (elems m).length) : prv m ((elems m).getD j 0 : Int) = ((elems m).getD j 0 : Int) := by
  rw [prv_from m _ (j + 1) (by omega) (fun _ => by simp) (fun i h1 h2 => by have := elems_lt m j i (by omega) h2; omega)]
  unfold stepDown
  rw [if_pos (by omega)]
  rfl

end Go.Proofs.YtklakdhghmhapaaDoor
