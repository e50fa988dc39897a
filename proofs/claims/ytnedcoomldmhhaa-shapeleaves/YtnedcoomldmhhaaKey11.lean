/- Plain theory of bits of keys, beside Key7. -/
import Derived.Test.YtnedcoomldmhhaaLs7
namespace Go.Proofs.Ytnedcoomldmhhaa
set_option maxRecDepth 20000
open Go.RowKit
set_option linter.unusedVariables false

/-- A key's bits: of each byte 9: a 1 and its eight bits. -/
def bitK (xs : List Int) (i : Int) : Int :=
  if i < 0 ∨ (xs.length : Int) ≤ i / 9 then 0
  else if i % 9 = 0 then 1
  else xs.getD (i / 9).toNat 0 / 2 ^ (8 - i % 9).toNat % 2

theorem bitK_range (xs : List Int) (i : Int) : 0 ≤ bitK xs i ∧ bitK xs i ≤ 1 := by
  unfold bitK
  split
  · omega
  · split
    · omega
    · omega

/-- The t-th of the nine bits at place n. -/
theorem bitK_at (xs : List Int) (n t : Nat) (ht : t < 9) : bitK xs (9 * n + t : Nat) =
    if n < xs.length then (if t = 0 then 1 else xs.getD n 0 / 2 ^ (8 - t) % 2) else 0 := by
  have e1 : ((9 * n + t : Nat) : Int) / 9 = n := by omega
  have e2 : ((9 * n + t : Nat) : Int) % 9 = t := by omega
  unfold bitK
  rw [e1, e2]
  by_cases h : n < xs.length
  · rw [if_neg (by omega), if_pos h]
    by_cases h0 : t = 0
    · simp [h0]
    · rw [if_neg (by omega), if_neg h0]
      rw [Int.toNat_natCast, show (8 - (t : Int)).toNat = 8 - t from by omega]
  · rw [if_pos (by omega), if_neg h]

/-- The first of f bits from i on in which two keys differ; -1 if there is none. -/
def scanD (xs ys : List Int) : Nat → Nat → Int
  | 0, _ => -1
  | f + 1, i => if bitK xs i = bitK ys i then scanD xs ys f (i + 1) else i

theorem scanD_step (xs ys : List Int) (f i : Nat) (h : bitK xs i = bitK ys i) : scanD xs ys (f + 1) i = scanD xs ys f (i + 1) := by simp only [scanD]; rw [if_pos h]

theorem scanD_stop (xs ys : List Int) (f i : Nat) (h : bitK xs i ≠ bitK ys i) : scanD xs ys (f + 1) i = i := by simp only [scanD]; rw [if_neg h]

/-- The first bit in which two keys differ; -1 if they are the same. -/
def differK (xs ys : List Int) : Int := scanD xs ys 9 (9 * common xs ys)

theorem scanD_cases (xs ys : List Int) (f i : Nat) : (scanD xs ys f i = -1 ∧ ∀ j, i ≤ j → j < i + f → bitK xs j = bitK ys j) ∨
    ∃ j : Nat, scanD xs ys f i = j ∧ i ≤ j ∧ j < i + f ∧ bitK xs j ≠ bitK ys j ∧ ∀ k, i ≤ k → k < j → bitK xs k = bitK ys k := by
  induction f generalizing i with
  | zero => exact .inl ⟨rfl, fun j h1 h2 => by omega⟩
  | succ f ih =>
    simp only [scanD]
    split
    · rename_i h
      rcases ih (i + 1) with ⟨h1, h2⟩ | ⟨j, h1, h2, h3, h4, h5⟩
      · refine .inl ⟨h1, fun j h3 h4 => ?_⟩
        by_cases e : j = i
        · rw [e]; exact h
        · exact h2 j (by omega) (by omega)
      · refine .inr ⟨j, h1, by omega, by omega, h4, fun k h6 h7 => ?_⟩
        by_cases e : k = i
        · rw [e]; exact h
        · exact h5 k (by omega) h7
    · rename_i h
      exact .inr ⟨i, rfl, by omega, by omega, h, fun k h1 h2 => by omega⟩

theorem scanD_comm (xs ys : List Int) (f i : Nat) : scanD xs ys f i = scanD ys xs f i := by
  induction f generalizing i with
  | zero => rfl
  | succ f ih =>
    simp only [scanD]
    by_cases h : bitK xs i = bitK ys i
    · rw [if_pos h, if_pos h.symm, ih]
    · rw [if_neg h, if_neg (fun e => h e.symm)]

theorem differK_comm (xs ys : List Int) : differK xs ys = differK ys xs := by
  unfold differK; rw [common_comm xs ys, scanD_comm]

/-- Ahead of what both begin with all bits are alike. -/
theorem bits_ahead (xs ys : List Int) (j : Nat) (h : j < 9 * common xs ys) : bitK xs j = bitK ys j := by
  have hl := common_le xs ys
  have e : j = 9 * (j / 9) + j % 9 := by omega
  have l1 : j / 9 < xs.length := by omega
  have l2 : j / 9 < ys.length := by omega
  rw [e, bitK_at xs _ _ (by omega), bitK_at ys _ _ (by omega), if_pos l1, if_pos l2, common_eq xs ys (j / 9) (by omega)]

theorem byte_bits (x y : Int) (hx : 0 ≤ x ∧ x ≤ 255) (hy : 0 ≤ y ∧ y ≤ 255) (h : ∀ t, 0 < t → t < 9 → x / 2 ^ (8 - t) % 2 = y / 2 ^ (8 - t) % 2) : x = y := by
  have h1 := h 1 (by omega) (by omega)
  have h2 := h 2 (by omega) (by omega)
  have h3 := h 3 (by omega) (by omega)
  have h4 := h 4 (by omega) (by omega)
  have h5 := h 5 (by omega) (by omega)
  have h6 := h 6 (by omega) (by omega)
  have h7 := h 7 (by omega) (by omega)
  have h8 := h 8 (by omega) (by omega)
  simp at h1 h2 h3 h4 h5 h6 h7 h8
  omega

theorem byte_first (x y : Int) (hx : 0 ≤ x ∧ x ≤ 255) (hy : 0 ≤ y ∧ y ≤ 255) (s : Nat) (h0 : 0 < s) (hs : s < 9) (hd : x / 2 ^ (8 - s) % 2 ≠ y / 2 ^ (8 - s) % 2)
    (h : ∀ t, 0 < t → t < s → x / 2 ^ (8 - t) % 2 = y / 2 ^ (8 - t) % 2) : x / 2 ^ (8 - s) % 2 - y / 2 ^ (8 - s) % 2 = if x < y then -1 else 1 := by
  have key : ∀ t, t < s → x / 2 ^ (8 - t) = y / 2 ^ (8 - t) := by
    intro t
    induction t with
    | zero => intro _; rw [show (2 : Int) ^ (8 - 0) = 256 from rfl]; omega
    | succ t ih =>
      intro ht
      have a := ih (by omega)
      have b := h (t + 1) (by omega) ht
      have e : (2 : Int) ^ (8 - t) = 2 ^ (8 - (t + 1)) * 2 := by rw [show 8 - t = 8 - (t + 1) + 1 from by omega, Int.pow_succ]
      rw [e, ← Int.ediv_ediv_of_nonneg (Int.le_of_lt (Int.pow_pos (by decide))), ← Int.ediv_ediv_of_nonneg (Int.le_of_lt (Int.pow_pos (by decide)))] at a
      omega
  have a := key (s - 1) (by omega)
  have e : (2 : Int) ^ (8 - (s - 1)) = 2 ^ (8 - s) * 2 := by rw [show 8 - (s - 1) = 8 - s + 1 from by omega, Int.pow_succ]
  have hp : (0 : Int) < 2 ^ (8 - s) := Int.pow_pos (by decide)
  rw [e, ← Int.ediv_ediv_of_nonneg (Int.le_of_lt hp), ← Int.ediv_ediv_of_nonneg (Int.le_of_lt hp)] at a
  have hlt : x / 2 ^ (8 - s) < y / 2 ^ (8 - s) ↔ x < y := by
    constructor
    · intro hh
      exact Int.not_le.1 fun hle => by
        have := Int.ediv_le_ediv hp hle
        omega
    · intro hh
      have := Int.ediv_le_ediv hp (Int.le_of_lt hh)
      omega
  split
  · rename_i hxy
    have := hlt.2 hxy
    omega
  · rename_i hxy
    have : ¬ x / 2 ^ (8 - s) < y / 2 ^ (8 - s) := fun hh => hxy (hlt.1 hh)
    omega

/-- All that is to be said of the first bit that differs. -/
theorem differK_spec (xs ys : List Int) (hx : IsBytes xs) (hy : IsBytes ys) :
    (xs = ys ∧ differK xs ys = -1) ∨
    ∃ j : Nat, xs ≠ ys ∧ differK xs ys = j ∧ 9 * common xs ys ≤ j ∧ j < 9 * common xs ys + 9 ∧ (∀ i : Nat, i < j → bitK xs i = bitK ys i) ∧ bitK xs j - bitK ys j = cmpK xs ys ∧ bitK xs j ≠ bitK ys j := by
  have hl := common_le xs ys
  generalize hc : common xs ys = c at *
  have HH := scanD_cases xs ys 9 (9 * c)
  rw [show scanD xs ys 9 (9 * c) = differK xs ys from by unfold differK; rw [hc]] at HH
  rcases HH with ⟨h1, h2⟩ | ⟨j, h1, h2, h3, h4, h5⟩
  · refine .inl ⟨?_, h1⟩
    have hz := h2 (9 * c + 0 : Nat) (by omega) (by omega)
    rw [bitK_at xs _ _ (by omega), bitK_at ys _ _ (by omega)] at hz
    by_cases c1 : c < xs.length
    · by_cases c2 : c < ys.length
      · exfalso
        refine absurd (byte_bits _ _ (hx.getD c) (hy.getD c) fun t t0 t9 => ?_) (by have := common_ne xs ys; rw [hc] at this; exact this c1 c2)
        have := h2 (9 * c + t : Nat) (by omega) (by omega)
        rwa [bitK_at xs _ _ t9, bitK_at ys _ _ t9, if_pos c1, if_pos c2, if_neg (by omega), if_neg (by omega)] at this
      · rw [if_pos c1, if_neg c2] at hz; simp at hz
    · by_cases c2 : c < ys.length
      · rw [if_neg c1, if_pos c2] at hz; simp at hz
      · exact eq_of_common xs ys (by omega) (by omega)
  · refine .inr ⟨j, fun e => h4 (by rw [e]), h1, h2, h3, fun i hi => ?_, ?_, h4⟩
    · by_cases hi2 : i < 9 * c
      · exact bits_ahead xs ys i (by omega)
      · exact h5 i (by omega) hi
    · obtain ⟨t, rfl⟩ : ∃ t, j = 9 * c + t := ⟨j - 9 * c, by omega⟩
      have ht : t < 9 := by omega
      have h5' : ∀ s, s < t → bitK xs (9 * c + s : Nat) = bitK ys (9 * c + s : Nat) := fun s hs => h5 _ (by omega) (by omega)
      rw [bitK_at xs _ _ ht, bitK_at ys _ _ ht] at h4 ⊢
      unfold cmpK
      rw [hc]
      by_cases c1 : c < xs.length
      · by_cases c2 : c < ys.length
        · rw [if_pos c1, if_pos c2] at h4 ⊢
          have n1 : ¬ c = xs.length := by omega
          have n2 : ¬ c = ys.length := by omega
          have t0 : t ≠ 0 := fun e => h4 (by rw [if_pos e, if_pos e])
          simp only [if_neg t0, if_neg n1, if_neg n2] at h4 ⊢
          refine byte_first _ _ (hx.getD c) (hy.getD c) t (by omega) ht h4 fun s s0 s1 => ?_
          have := h5' s s1
          rwa [bitK_at xs _ _ (by omega), bitK_at ys _ _ (by omega), if_pos c1, if_pos c2, if_neg (by omega), if_neg (by omega)] at this
        · have n1 : ¬ c = xs.length := by omega
          have n2 : c = ys.length := by omega
          simp only [if_neg n1, if_pos n2, if_pos c1, if_neg c2]
          have t0 : t = 0 := by
            rcases Nat.eq_zero_or_pos t with h | h
            · exact h
            · have := h5' 0 h
              rw [bitK_at xs _ _ (by omega), bitK_at ys _ _ (by omega), if_pos c1, if_neg c2] at this
              simp at this
          rw [if_pos t0]; rfl
      · by_cases c2 : c < ys.length
        · have n1 : c = xs.length := by omega
          have n2 : ¬ c = ys.length := by omega
          simp only [if_pos n1, if_neg n2, if_neg c1, if_pos c2]
          have t0 : t = 0 := by
            rcases Nat.eq_zero_or_pos t with h | h
            · exact h
            · have := h5' 0 h
              rw [bitK_at xs _ _ (by omega), bitK_at ys _ _ (by omega), if_neg c1, if_pos c2] at this
              simp at this
          rw [if_pos t0]; rfl
        · rw [if_neg c1, if_neg c2] at h4
          exact absurd rfl h4

theorem i64_and1 (n : Int) : bits .and .i64 n 1 = n % 2 := by
  have h1 : (BitVec.ofInt 64 1).toNat = 2 ^ 1 - 1 := by decide
  have key : (BitVec.ofInt 64 n &&& BitVec.ofInt 64 1).toNat = (n % ((2 ^ 64 : Nat) : Int)).toNat % 2 ^ 1 := by
    rw [BitVec.toNat_and, BitVec.toNat_ofInt, h1, Nat.and_two_pow_sub_one_eq_mod]
  show IntKind.i64.wrap ((BitVec.ofInt 64 n &&& BitVec.ofInt 64 1).toNat : Nat) = n % 2
  rw [key, IntKind.wrap_i64]
  omega

theorem u8_and1 (x : Int) (h₀ : 0 ≤ x) (h₁ : x < 256) : bits .and .u8 x 1 = x % 2 := bits_mask .u8 8 (by decide) wraps_u8 1 (by decide) x h₀ h₁

theorem shr_bound (x : Int) (n : Nat) (h : 0 ≤ x ∧ x ≤ 255) : 0 ≤ x / 2 ^ n ∧ x / 2 ^ n ≤ 255 := by
  have hp : (0 : Int) < 2 ^ n := Int.pow_pos (by decide)
  refine ⟨Int.ediv_nonneg h.1 (Int.le_of_lt hp), ?_⟩
  have := Int.ediv_le_self (2 ^ n) h.1
  omega

theorem bit_low (x : Int) (n : Nat) (h : 0 ≤ x ∧ x ≤ 255) : bits .and .i64 (wrap64 (x / 2 ^ n)) 1 = x / 2 ^ n % 2 := by
  have := shr_bound x n h
  rw [i64_and1, wrap64_in _ (by omega)]

theorem bit_low8 (x : Int) (n : Nat) (h : 0 ≤ x ∧ x ≤ 255) : wrap64 (bits .and .u8 (x / 2 ^ n) 1) = x / 2 ^ n % 2 := by
  have := shr_bound x n h
  rw [u8_and1 _ (by omega) (by omega), wrap64_in _ (by omega)]

theorem common_min (a b c : List Int) : min (common a b) (common b c) ≤ common a c := by
  induction a generalizing b c with
  | nil => cases b <;> simp [common]
  | cons x a ih =>
    cases b with
    | nil => simp [common]
    | cons y b =>
      cases c with
      | nil => simp [common]
      | cons z c =>
        have := ih b c
        simp only [common]
        by_cases hxy : x = y
        · subst hxy
          by_cases hxz : x = z
          · subst hxz
            simp only [if_true]
            omega
          · simp [hxz]
        · simp [hxy]

theorem common_take (xs : List Int) (n : Nat) (h : n ≤ xs.length) : common (xs.take n) xs = n := by
  have e : xs = xs.take n ++ xs.drop n := (List.take_append_drop n xs).symm
  have h1 : common (xs.take n ++ []) (xs.take n ++ xs.drop n) = (xs.take n).length + common [] (xs.drop n) := common_append _ _ _
  rw [List.append_nil, List.take_append_drop] at h1
  rw [h1]
  simp [common]
  omega

theorem common_take_of (xs ys : List Int) (n : Nat) (h : n ≤ common xs ys) : common ys (xs.take n) = n := by
  have hl := common_le xs ys
  rw [common_comm]
  refine common_of _ _ n (by simp; omega) (by omega) (fun i hi => ?_) (.inl (by simp; omega))
  rw [← common_eq xs ys i (by omega)]
  simp [hi]

theorem cmpK_take (xs : List Int) (n : Nat) (h : n ≤ xs.length) : cmpK (xs.take n) xs = if n < xs.length then -1 else 0 := by
  have hc := common_take xs n h
  have hl : (xs.take n).length = n := by simp; omega
  unfold cmpK
  rw [hc, hl, if_pos rfl]
  by_cases e : n = xs.length
  · rw [if_pos e, if_neg (by omega)]
  · rw [if_neg e, if_pos (by omega)]

theorem getD_app (w a : List Int) (i : Nat) : (w ++ a).getD (w.length + i) 0 = a.getD i 0 := by
  simp [List.getElem?_append_right]

theorem cmpK_app (w a b : List Int) : cmpK (w ++ a) (w ++ b) = cmpK a b := by
  induction w with
  | nil => rfl
  | cons x w ih => rw [List.cons_append, List.cons_append, cmpK_cons, if_pos rfl, ih]

theorem bitK_app (w a : List Int) (i : Nat) : bitK (w ++ a) (9 * w.length + i : Nat) = bitK a i := by
  have e1 : 9 * w.length + i = 9 * (w.length + i / 9) + i % 9 := by omega
  have e2 : i = 9 * (i / 9) + i % 9 := by omega
  have h1 := bitK_at (w ++ a) (w.length + i / 9) (i % 9) (by omega)
  have h2 := bitK_at a (i / 9) (i % 9) (by omega)
  rw [← e1] at h1
  rw [← e2] at h2
  rw [h1, h2]
  by_cases h : i / 9 < a.length
  · rw [if_pos h, if_pos (by rw [List.length_append]; omega), getD_app]
  · rw [if_neg h, if_neg (by rw [List.length_append]; omega)]

end Go.Proofs.Ytnedcoomldmhhaa
