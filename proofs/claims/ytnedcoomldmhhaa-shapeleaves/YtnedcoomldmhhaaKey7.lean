/- Plain theory of keys of bytes: what two begin with, order (as numbers and as strings). No program here. -/
import Derived.Test.YtnedcoomldmhhaaBy
namespace Go.Proofs.Ytnedcoomldmhhaa
set_option maxRecDepth 20000
open Go.RowKit

/-- How many bytes two keys begin with. -/
def common : List Int → List Int → Nat
  | x :: xs, y :: ys => if x = y then common xs ys + 1 else 0
  | _, _ => 0

theorem common_le (xs ys : List Int) : common xs ys ≤ xs.length ∧ common xs ys ≤ ys.length := by
  induction xs generalizing ys with
  | nil => simp [common]
  | cons x xs ih =>
    cases ys with
    | nil => simp [common]
    | cons y ys =>
      simp only [common]
      split
      · have := ih ys; simp; omega
      · simp

theorem common_eq (xs ys : List Int) (i : Nat) (h : i < common xs ys) : xs.getD i 0 = ys.getD i 0 := by
  induction xs generalizing ys i with
  | nil => simp [common] at h
  | cons x xs ih =>
    cases ys with
    | nil => simp [common] at h
    | cons y ys =>
      simp only [common] at h
      split at h
      · rename_i hxy
        cases i with
        | zero => simpa using hxy
        | succ i => simpa using ih ys i (by omega)
      · omega

theorem common_ne (xs ys : List Int) (hx : common xs ys < xs.length) (hy : common xs ys < ys.length) : xs.getD (common xs ys) 0 ≠ ys.getD (common xs ys) 0 := by
  induction xs generalizing ys with
  | nil => simp at hx
  | cons x xs ih =>
    cases ys with
    | nil => simp at hy
    | cons y ys =>
      simp only [common] at *
      split at hx
      · rename_i hxy
        rw [if_pos hxy] at hy ⊢
        simpa using ih ys (by simpa using hx) (by simpa using hy)
      · rename_i hxy
        rw [if_neg hxy]
        simpa using hxy

/-- What is met at the first place that differs is 'common'. -/
theorem common_of (xs ys : List Int) (n : Nat) (hx : n ≤ xs.length) (hy : n ≤ ys.length) (h : ∀ i, i < n → xs.getD i 0 = ys.getD i 0)
    (hn : n = xs.length ∨ n = ys.length ∨ xs.getD n 0 ≠ ys.getD n 0) : common xs ys = n := by
  have h1 := common_le xs ys
  rcases Nat.lt_trichotomy (common xs ys) n with h2 | h2 | h2
  · exact absurd (h _ h2) (common_ne xs ys (by omega) (by omega))
  · exact h2
  · rcases hn with h3 | h3 | h3
    · omega
    · omega
    · exact absurd (common_eq xs ys n h2) h3

theorem common_comm (xs ys : List Int) : common xs ys = common ys xs := by
  induction xs generalizing ys with
  | nil => cases ys <;> rfl
  | cons x xs ih =>
    cases ys with
    | nil => rfl
    | cons y ys =>
      simp only [common]
      by_cases h : x = y
      · rw [if_pos h, if_pos h.symm, ih]
      · rw [if_neg h, if_neg (fun e => h e.symm)]

theorem common_self (xs : List Int) : common xs xs = xs.length := by
  induction xs with
  | nil => rfl
  | cons x xs ih => simp [common, ih]

theorem common_append (ws xs ys : List Int) : common (ws ++ xs) (ws ++ ys) = ws.length + common xs ys := by
  induction ws with
  | nil => simp
  | cons w ws ih => simp [common, ih]; omega


theorem eq_of_common (xs ys : List Int) (hx : common xs ys = xs.length) (hy : common xs ys = ys.length) : xs = ys :=
  getD_eq_of xs ys (by omega) (fun i hi => common_eq xs ys i (by omega))

/-- The order. -/
def cmpK (xs ys : List Int) : Int :=
  if common xs ys = xs.length then (if common xs ys = ys.length then 0 else -1)
  else if common xs ys = ys.length then 1
  else if xs.getD (common xs ys) 0 < ys.getD (common xs ys) 0 then -1 else 1

theorem cmpK_range (xs ys : List Int) : cmpK xs ys = -1 ∨ cmpK xs ys = 0 ∨ cmpK xs ys = 1 := by
  unfold cmpK; repeat' split
  all_goals simp

theorem cmpK_zero (xs ys : List Int) : cmpK xs ys = 0 ↔ xs = ys := by
  constructor
  · intro h
    unfold cmpK at h
    split at h
    · split at h
      · exact eq_of_common xs ys (by omega) (by omega)
      · simp at h
    · split at h
      · simp at h
      · split at h <;> simp at h
  · rintro rfl
    simp [cmpK, common_self]

theorem cmpK_swap (xs ys : List Int) : cmpK ys xs = - cmpK xs ys := by
  have h := common_le xs ys
  unfold cmpK
  rw [common_comm ys xs]
  by_cases h1 : common xs ys = xs.length
  · by_cases h2 : common xs ys = ys.length
    · rw [if_pos h2, if_pos h1, if_pos h1, if_pos h2]; rfl
    · rw [if_neg h2, if_pos h1, if_pos h1, if_neg h2]; rfl
  · by_cases h2 : common xs ys = ys.length
    · rw [if_pos h2, if_neg h1, if_neg h1, if_pos h2]
    · rw [if_neg h2, if_neg h1, if_neg h1, if_neg h2]
      have h3 := common_ne xs ys (by omega) (by omega)
      split <;> split <;> omega

/-- A key's bits: of each byte 9: a 1 and its eight bits. -/
theorem cmpK_cons (x y : Int) (xs ys : List Int) : cmpK (x :: xs) (y :: ys) = if x = y then cmpK xs ys else if x < y then -1 else 1 := by
  by_cases h : x = y
  · subst h
    have hl := common_le xs ys
    simp [cmpK, common]
  · have hc : common (x :: xs) (y :: ys) = 0 := by simp [common, h]
    unfold cmpK
    rw [hc]
    simp [h]

theorem ofNat_lt (x y : Int) (hx : 0 ≤ x ∧ x ≤ 255) (hy : 0 ≤ y ∧ y ≤ 255) : UInt8.ofNat x.toNat < UInt8.ofNat y.toNat ↔ x < y := by
  rw [UInt8.lt_iff_toNat_lt]
  simp
  omega

theorem less_cmp (xs ys : List Int) (hx : IsBytes xs) (hy : IsBytes ys) :
    Op.bytesLess (xs.map fun n => UInt8.ofNat n.toNat) (ys.map fun n => UInt8.ofNat n.toNat) = decide (cmpK xs ys = -1) := by
  induction xs generalizing ys with
  | nil =>
    cases ys with
    | nil => simp [Op.bytesLess, cmpK, common]
    | cons y ys => simp [Op.bytesLess, cmpK, common]
  | cons x xs ih =>
    cases ys with
    | nil => simp [Op.bytesLess, cmpK, common]
    | cons y ys =>
      have bx := hx x (by simp)
      have bY := hy y (by simp)
      have := ih ys (fun z hz => hx z (by simp [hz])) (fun z hz => hy z (by simp [hz]))
      simp only [List.map_cons, Op.bytesLess, cmpK_cons, this]
      rw [Bool.eq_iff_iff]
      simp only [Bool.or_eq_true, Bool.and_eq_true, decide_eq_true_eq, beq_iff_eq, ofNat_inj x y bx bY, ofNat_lt x y bx bY]
      by_cases h : x = y
      · simp [h]
      · rw [if_neg h]
        by_cases h2 : x < y
        · simp [h2]
        · simp [h2, h]

theorem cmpK_nil (ys : List Int) : cmpK [] ys = if ys = [] then 0 else -1 := by
  cases ys <;> simp [cmpK, common]
theorem cmpK_nil' (xs : List Int) : cmpK xs [] = if xs = [] then 0 else 1 := by
  cases xs <;> simp [cmpK, common]
theorem cmpK_trans (a b c : List Int) (h1 : cmpK a b ≤ 0) (h2 : cmpK b c ≤ 0) : cmpK a c ≤ 0 := by
  induction a generalizing b c with
  | nil => rw [cmpK_nil]; split <;> omega
  | cons x a ih =>
    cases b with
    | nil => rw [cmpK_nil'] at h1; simp at h1
    | cons y b =>
      cases c with
      | nil => rw [cmpK_nil'] at h2; simp at h2
      | cons z c =>
        rw [cmpK_cons] at h1 h2 ⊢
        by_cases hxy : x = y
        · subst hxy
          rw [if_pos rfl] at h1
          by_cases hxz : x = z
          · subst hxz
            rw [if_pos rfl] at h2 ⊢
            exact ih b c h1 h2
          · rw [if_neg hxz] at h2 ⊢
            exact h2
        · rw [if_neg hxy] at h1
          have hlt : x < y := by
            by_cases h : x < y
            · exact h
            · rw [if_neg h] at h1; omega
          by_cases hyz : y = z
          · subst hyz
            rw [if_neg (by omega), if_pos hlt]; omega
          · rw [if_neg hyz] at h2
            have hlt2 : y < z := by
              by_cases h : y < z
              · exact h
              · rw [if_neg h] at h2; omega
            rw [if_neg (by omega), if_pos (by omega)]; omega
end Go.Proofs.Ytnedcoomldmhhaa
