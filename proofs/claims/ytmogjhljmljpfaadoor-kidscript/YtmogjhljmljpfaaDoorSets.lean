/- Plain theory of sets of bytes by four numbers. No walk here. -/
import Derived.Test.YtmogjhljmljpfaaDoorCount4
import Derived.Test.YtmogjhljmljpfaaDoorMaskSet
namespace Go.Proofs.YtmogjhljmljpfaaDoor
set_option maxRecDepth 20000
open Go.RowKit

/-- Byte b is bit b modulo 64 of number b by 64. -/
def inM (m : List Nat) (b : Nat) : Bool := (m.getD (b / 64) 0).testBit (b % 64)
def elems (m : List Nat) : List Nat := (List.range 256).filter (inM m)
/-- The first, the last of those below k that p holds of; or -1. -/
def firstUp (p : Nat → Bool) (k : Nat) : Int := match (List.range k).find? p with | some b => b | none => -1
def lastIn (p : Nat → Bool) : Nat → Int
  | 0 => -1
  | k + 1 => if p k then k else lastIn p k

theorem firstUp_hit (p : Nat → Bool) (k b : Nat) (hb : b < k) (h : p b = true) (hj : ∀ j, j < b → p j = false) : firstUp p k = b := by
  unfold firstUp
  have : (List.range k).find? p = some b := by
    rw [List.find?_range_eq_some]
    exact ⟨h, by simpa using hb, fun j hj' => by simp [hj j hj']⟩
  rw [this]
theorem firstUp_miss (p : Nat → Bool) (k : Nat) (hj : ∀ j, j < k → p j = false) : firstUp p k = -1 := by
  unfold firstUp
  have : (List.range k).find? p = none := by
    rw [List.find?_eq_none]
    intro x hx
    simp [hj x (by simpa using hx)]
  rw [this]
theorem lastIn_hit (p : Nat → Bool) (k b : Nat) (hb : b < k) (h : p b = true) (hj : ∀ j, b < j → j < k → p j = false) : lastIn p k = b := by
  induction k with
  | zero => omega
  | succ k ih =>
    unfold lastIn
    by_cases e : b = k
    · subst e; rw [if_pos h]
    · rw [if_neg (by simp [hj k (by omega) (by omega)])]
      exact ih (by omega) (fun j h1 h2 => hj j h1 (by omega))
theorem lastIn_miss (p : Nat → Bool) (k : Nat) (hj : ∀ j, j < k → p j = false) : lastIn p k = -1 := by
  induction k with
  | zero => rfl
  | succ k ih =>
    unfold lastIn
    rw [if_neg (by simp [hj k (by omega)])]
    exact ih (fun j h => hj j (by omega))

/-- Next, Prev. -/
def nxt (m : List Nat) (n : Int) : Int := firstUp (fun b => inM m b && decide (n ≤ (b : Int))) 256
def prv (m : List Nat) (n : Int) : Int := lastIn (fun b => inM m b && decide ((b : Int) ≤ n)) 256

theorem testBit_ones (n : Int) (j : Nat) : (ones n).testBit j = (decide ((j : Int) < n) && decide (j < 64)) := by
  unfold ones
  rw [Nat.testBit_two_pow_sub_one]
  by_cases h1 : (j : Int) < n <;> by_cases h2 : j < 64 <;> simp [h1, h2] <;> omega
theorem testBit_high (x j : Nat) (hx : x < 18446744073709551616) (hj : 64 ≤ j) : x.testBit j = false := by
  apply Nat.testBit_lt_two_pow
  have : 2 ^ 64 ≤ 2 ^ j := Nat.pow_le_pow_right (by decide) hj
  have e : (2 : Nat) ^ 64 = 18446744073709551616 := by decide
  omega
theorem testBit_not (x j : Nat) (hx : x < 18446744073709551616) (hj : j < 64) : (18446744073709551615 - x).testBit j = !x.testBit j := by
  have := Nat.testBit_two_pow_sub_succ (n := 64) hx j
  have e : 2 ^ 64 - (x + 1) = 18446744073709551615 - x := by omega
  rw [e] at this
  rw [this]
  simp [hj]

theorem inM_bl (m : List Nat) (hm : Ok m) (n : Int) (b : Nat) (hb : b < 256) : inM (bl m n) b = (inM m b && decide ((b : Int) < n)) := by
  unfold inM bl
  rw [cutTo_get _ _ _ _ (by rw [hm.len]; omega), if_pos (by omega), Nat.testBit_and, testBit_ones]
  have h1 : b % 64 < 64 := Nat.mod_lt _ (by decide)
  have h2 : (((b % 64 : Nat) : Int) < n - ((b / 64 : Nat) : Int) * 64) ↔ (b : Int) < n := by omega
  simp only [h1, decide_true, Bool.and_true]
  congr 1
  exact decide_eq_decide.2 h2

theorem wth_len (m : List Nat) (b : Nat) : (wth m b).length = m.length := by simp [wth]
theorem getD_set (m : List Nat) (i j x : Nat) (h : i < m.length) : (m.set i x).getD j 0 = if i = j then x else m.getD j 0 := by
  simp only [List.getD_eq_getElem?_getD, List.getElem?_set]
  by_cases e : i = j
  · subst e; simp [h]
  · simp [e]
theorem wth_ok (m : List Nat) (hm : Ok m) (b : Nat) (hb : b < 256) : Ok (wth m b) := by
  refine ⟨by rw [wth_len, hm.len], fun i => ?_⟩
  unfold wth
  rw [getD_set _ _ _ _ (by rw [hm.len]; omega)]
  split
  · exact or_bit_lt _ _ (hm.lt _) (Nat.mod_lt _ (by decide))
  · exact hm.lt i
theorem wo_ok (m : List Nat) (hm : Ok m) (b : Nat) (hb : b < 256) : Ok (wo m b) := by
  refine ⟨by simp [wo, hm.len], fun i => ?_⟩
  unfold wo
  rw [getD_set _ _ _ _ (by rw [hm.len]; omega)]
  split
  · exact Nat.lt_of_le_of_lt Nat.and_le_left (hm.lt _)
  · exact hm.lt i
theorem inM_wth (m : List Nat) (hm : Ok m) (b c : Nat) (hb : b < 256) : inM (wth m b) c = (decide (c = b) || inM m c) := by
  unfold inM wth
  rw [getD_set _ _ _ _ (by rw [hm.len]; omega)]
  by_cases h : b / 64 = c / 64
  · rw [if_pos h, Nat.testBit_or, Nat.testBit_two_pow, h]
    by_cases e : c = b
    · subst e; simp
    · have : ¬ b % 64 = c % 64 := by omega
      simp [e, this]
  · rw [if_neg h]
    have : ¬ c = b := by intro e; subst e; exact h rfl
    simp [this]
theorem inM_wo (m : List Nat) (hm : Ok m) (b c : Nat) (hb : b < 256) : inM (wo m b) c = (!decide (c = b) && inM m c) := by
  unfold inM wo
  rw [getD_set _ _ _ _ (by rw [hm.len]; omega)]
  by_cases h : b / 64 = c / 64
  · rw [if_pos h, Nat.testBit_and, testBit_not _ _ (pow_lt _ (Nat.mod_lt _ (by decide))) (Nat.mod_lt _ (by decide)), Nat.testBit_two_pow, h]
    by_cases e : c = b
    · subst e; simp
    · have : ¬ b % 64 = c % 64 := by omega
      simp [e, this]
  · rw [if_neg h]
    have : ¬ c = b := by intro e; subst e; exact h rfl
    simp [this]

/-- Masks of the same bytes are the same. -/
theorem mask_ext (m m' : List Nat) (hm : Ok m) (hm' : Ok m') (h : ∀ b, b < 256 → inM m b = inM m' b) : m = m' := by
  apply List.ext_getElem (by rw [hm.len, hm'.len])
  intro i h1 h2
  have hl := hm.len
  have g1 := hm.lt i
  have g2 := hm'.lt i
  have e1 : m.getD i 0 = m[i] := by simp [h1]
  have e2 : m'.getD i 0 = m'[i] := by simp [h2]
  rw [e1] at g1
  rw [e2] at g2
  apply Nat.eq_of_testBit_eq
  intro j
  by_cases hj : j < 64
  · have := h (64 * i + j) (by omega)
    unfold inM at this
    rw [show (64 * i + j) / 64 = i by omega, show (64 * i + j) % 64 = j by omega, e1, e2] at this
    exact this
  · rw [testBit_high _ _ g1 (by omega), testBit_high _ _ g2 (by omega)]

/- The lowest bit, the highest. -/
theorem ctz_spec (x : Nat) (h0 : x ≠ 0) (hx : x < 18446744073709551616) : Lib.ctz 64 x < 64 ∧ x.testBit (Lib.ctz 64 x) = true ∧ ∀ j, j < Lib.ctz 64 x → x.testBit j = false := by
  obtain ⟨q, hq, hk⟩ := Lib.ctzFrom_spec 64 x (by omega) hx
  have e : Lib.ctz 64 x = Lib.ctzFrom 64 x := by simp [Lib.ctz, h0]
  rw [e]
  generalize Lib.ctzFrom 64 x = c at *
  refine ⟨hk, ?_, fun j hj => ?_⟩
  · rw [hq, Nat.mul_comm, Nat.testBit_mul_two_pow]
    simp [Nat.testBit_zero]
  · rw [hq, Nat.mul_comm, Nat.testBit_mul_two_pow]
    simp; omega
theorem bitLen_top (x : Nat) (h0 : x ≠ 0) (hx : x < 18446744073709551616) : ∃ t, bitLen x = t + 1 ∧ t < 64 ∧ x.testBit t = true ∧ ∀ j, t < j → x.testBit j = false := by
  obtain ⟨h1, h2⟩ := bitLen_spec x
  have hh : ∀ j, bitLen x ≤ j → x.testBit j = false := fun j hj => Nat.testBit_lt_two_pow (Nat.lt_of_lt_of_le h1 (Nat.pow_le_pow_right (by decide) hj))
  obtain ⟨i, hi, hb⟩ := Nat.exists_ge_and_testBit_of_ge_two_pow (h2 h0)
  have hlt : i < bitLen x := by
    apply Nat.lt_of_not_le
    intro hle
    rw [hh i hle] at hb
    exact absurd hb (by decide)
  have h64 : i < 64 := by
    apply Nat.lt_of_not_le
    intro hle
    rw [testBit_high x i hx hle] at hb
    exact absurd hb (by decide)
  refine ⟨i, by omega, h64, hb, fun j hj => hh j (by omega)⟩

/-- The bits of what is left of number k from n on. -/
def restOf (m lo : List Nat) (k : Nat) : Nat := m.getD k 0 &&& (18446744073709551615 - lo.getD k 0)
theorem restOf_lt (m lo : List Nat) (hm : Ok m) (k : Nat) : restOf m lo k < 18446744073709551616 := Nat.lt_of_le_of_lt Nat.and_le_left (hm.lt k)
theorem restOf_bit (m : List Nat) (hm : Ok m) (n : Int) (k j : Nat) (hk : k < 4) (hj : j < 64) : (restOf m (bl m (max n 0)) k).testBit j = (inM m (64 * k + j) && decide (n ≤ ((64 * k + j : Nat) : Int))) := by
  unfold restOf
  rw [Nat.testBit_and, testBit_not _ _ ((bl_ok m hm _).lt k) hj]
  have h1 := inM_bl m hm (max n 0) (64 * k + j) (by omega)
  unfold inM at h1 ⊢
  rw [show (64 * k + j) / 64 = k by omega, show (64 * k + j) % 64 = j by omega] at h1 ⊢
  rw [h1]
  have : (((64 * k + j : Nat) : Int) < max n 0) ↔ ¬ n ≤ ((64 * k + j : Nat) : Int) := by omega
  by_cases h : n ≤ ((64 * k + j : Nat) : Int)
  · have h' : ¬ ((64 * k + j : Nat) : Int) < max n 0 := by omega
    simp only [h, h']
    cases (m.getD k 0).testBit j <;> simp
  · have h' : ((64 * k + j : Nat) : Int) < max n 0 := by omega
    simp only [h, h']
    cases (m.getD k 0).testBit j <;> simp
theorem zero_bits (x : Nat) (h : x = 0) (j : Nat) : x.testBit j = false := by subst h; simp
theorem nxt_hit (m : List Nat) (hm : Ok m) (n : Int) (k : Nat) (hk : k < 4) (hz : ∀ j, j < k → restOf m (bl m (max n 0)) j = 0) (h0 : restOf m (bl m (max n 0)) k ≠ 0) :
    nxt m n = ((64 * k + Lib.ctz 64 (restOf m (bl m (max n 0)) k) : Nat) : Int) := by
  obtain ⟨c1, c2, c3⟩ := ctz_spec _ h0 (restOf_lt m _ hm k)
  generalize Lib.ctz 64 (restOf m (bl m (max n 0)) k) = c at *
  unfold nxt
  refine firstUp_hit _ 256 _ (by omega) ?_ ?_
  · rw [← restOf_bit m hm n k c hk c1]; exact c2
  · intro i hi
    have e : i = 64 * (i / 64) + i % 64 := by omega
    have h1 : i % 64 < 64 := Nat.mod_lt _ (by decide)
    have := restOf_bit m hm n (i / 64) (i % 64) (by omega) h1
    rw [← e] at this
    rw [← this]
    by_cases hq : i / 64 = k
    · rw [hq]; exact c3 _ (by omega)
    · exact zero_bits _ (hz _ (by omega)) _
theorem nxt_miss (m : List Nat) (hm : Ok m) (n : Int) (hz : ∀ j, j < 4 → restOf m (bl m (max n 0)) j = 0) : nxt m n = -1 := by
  unfold nxt
  refine firstUp_miss _ 256 fun i hi => ?_
  have e : i = 64 * (i / 64) + i % 64 := by omega
  have := restOf_bit m hm n (i / 64) (i % 64) (by omega) (Nat.mod_lt _ (by decide))
  rw [← e] at this
  rw [← this]
  exact zero_bits _ (hz _ (by omega)) _

theorem low_bit (m : List Nat) (hm : Ok m) (n : Int) (k j : Nat) (hk : k < 4) (hj : j < 64) : ((bl m n).getD k 0).testBit j = (inM m (64 * k + j) && decide (((64 * k + j : Nat) : Int) < n)) := by
  have h1 := inM_bl m hm n (64 * k + j) (by omega)
  unfold inM at h1 ⊢
  rw [show (64 * k + j) / 64 = k by omega, show (64 * k + j) % 64 = j by omega] at h1 ⊢
  exact h1
theorem prv_hit (m : List Nat) (hm : Ok m) (n n' : Int) (hn : ∀ b : Nat, b < 256 → ((b : Int) < n' ↔ (b : Int) ≤ n)) (k : Nat) (hk : k < 4) (hz : ∀ j, k < j → j < 4 → (bl m n').getD j 0 = 0) (h0 : (bl m n').getD k 0 ≠ 0) :
    prv m n = ((64 * k + bitLen ((bl m n').getD k 0) : Nat) : Int) - 1 := by
  obtain ⟨t, e0, c1, c2, c3⟩ := bitLen_top _ h0 ((bl_ok m hm n').lt k)
  rw [e0]
  have : prv m n = ((64 * k + t : Nat) : Int) := by
    unfold prv
    refine lastIn_hit _ 256 _ (by omega) ?_ ?_
    · have := low_bit m hm n' k t hk c1
      rw [c2] at this
      have h2 := hn (64 * k + t) (by omega)
      simp only [h2] at this
      exact this.symm
    · intro i hi h256
      have e : i = 64 * (i / 64) + i % 64 := by omega
      have := low_bit m hm n' (i / 64) (i % 64) (by omega) (Nat.mod_lt _ (by decide))
      rw [← e] at this
      have h2 := hn i h256
      simp only [h2] at this
      rw [← this]
      by_cases hq : i / 64 = k
      · rw [hq]; exact c3 _ (by omega)
      · exact zero_bits _ (hz _ (by omega) (by omega)) _
  rw [this]
  omega
theorem prv_miss (m : List Nat) (hm : Ok m) (n n' : Int) (hn : ∀ b : Nat, b < 256 → ((b : Int) < n' ↔ (b : Int) ≤ n)) (hz : ∀ j, j < 4 → (bl m n').getD j 0 = 0) : prv m n = -1 := by
  unfold prv
  refine lastIn_miss _ 256 fun i hi => ?_
  have e : i = 64 * (i / 64) + i % 64 := by omega
  have := low_bit m hm n' (i / 64) (i % 64) (by omega) (Nat.mod_lt _ (by decide))
  rw [← e] at this
  have h2 := hn i hi
  simp only [h2] at this
  rw [← this]
  exact zero_bits _ (hz _ (by omega)) _

end Go.Proofs.YtmogjhljmljpfaaDoor
