/- Plain theory of numbers as rows of bits: how many bits are 1 (the sum by halves that math/bits takes), the lowest and the highest. No program here. -/
import GoSem.Claim
import Derived.Lib.TrailingZeros
import Derived.Laws.MathBits
namespace Go.Proofs.Ytnedcoomldmhhaa
set_option maxRecDepth 20000

/-- The number whose digits, lowest first, are these. -/
def val (B : Nat) : List Nat → Nat
  | [] => 0
  | d :: ds => d + B * val B ds

theorem and_join (j a b c d : Nat) (ha : a < 2 ^ j) (hc : c < 2 ^ j) : (a + 2 ^ j * b) &&& (c + 2 ^ j * d) = (a &&& c) + 2 ^ j * (b &&& d) := by
  have hac : a &&& c < 2 ^ j := Nat.and_lt_two_pow _ hc
  rw [Nat.add_comm a, Nat.add_comm c, Nat.add_comm (a &&& c)]
  apply Nat.eq_of_testBit_eq
  intro i
  rw [Nat.testBit_and, Nat.testBit_two_pow_mul_add _ ha, Nat.testBit_two_pow_mul_add _ hc, Nat.testBit_two_pow_mul_add _ hac]
  split
  · rw [Nat.testBit_and]
  · rw [Nat.testBit_and]

theorem val_lt (B : Nat) (_hB : 0 < B) : ∀ ds : List Nat, (∀ d ∈ ds, d < B) → val B ds < B ^ ds.length
  | [], _ => by simp [val]
  | d :: ds, h => by
    have h1 := val_lt B _hB ds (fun x hx => h x (by simp [hx]))
    have h2 := h d (by simp)
    simp only [val, List.length_cons, Nat.pow_succ]
    have h3 : B * (val B ds + 1) ≤ B * B ^ ds.length := Nat.mul_le_mul_left _ h1
    rw [Nat.mul_add] at h3
    rw [Nat.mul_comm (B ^ ds.length)]
    omega

/-- Digit by digit 'and'. -/
theorem val_and (j : Nat) : ∀ (xs ys : List Nat), (∀ x ∈ xs, x < 2 ^ j) → (∀ y ∈ ys, y < 2 ^ j) → xs.length = ys.length → val (2 ^ j) xs &&& val (2 ^ j) ys = val (2 ^ j) (List.zipWith (· &&& ·) xs ys)
  | [], [], _, _, _ => by simp [val]
  | [], _ :: _, _, _, h => by simp at h
  | _ :: _, [], _, _, h => by simp at h
  | x :: xs, y :: ys, hx, hy, h => by
    simp only [val, List.zipWith_cons_cons]
    rw [and_join j _ _ _ _ (hx x (by simp)) (hy y (by simp)), val_and j xs ys (fun z hz => hx z (by simp [hz])) (fun z hz => hy z (by simp [hz])) (by simpa using h)]

theorem val_add (B : Nat) : ∀ (xs ys : List Nat), xs.length = ys.length → val B xs + val B ys = val B (List.zipWith (· + ·) xs ys)
  | [], [], _ => by simp [val]
  | [], _ :: _, h => by simp at h
  | _ :: _, [], h => by simp at h
  | x :: xs, y :: ys, h => by
    simp only [val, List.zipWith_cons_cons]
    rw [← val_add B xs ys (by simpa using h), Nat.mul_add]
    omega

theorem val_mul (B c : Nat) : ∀ (xs : List Nat), c * val B xs = val B (xs.map (c * ·))
  | [] => by simp [val]
  | x :: xs => by
    simp only [val, List.map_cons]
    rw [← val_mul B c xs, Nat.mul_add, Nat.mul_left_comm]

/-- Two digits in one. -/
def lows : List Nat → List Nat
  | a :: _ :: r => a :: lows r
  | _ => []
def highs : List Nat → List Nat
  | _ :: b :: r => b :: highs r
  | _ => []
def sums : List Nat → List Nat
  | a :: b :: r => (a + b) :: sums r
  | _ => []

theorem split_pairs (B : Nat) : ∀ (n : Nat) (ds : List Nat), ds.length = 2 * n → val B ds = val (B * B) (lows ds) + B * val (B * B) (highs ds) ∧ (lows ds).length = n ∧ (highs ds).length = n ∧ (sums ds).length = n ∧ val (B * B) (lows ds) + val (B * B) (highs ds) = val (B * B) (sums ds)
  | 0, ds, h => by
    obtain rfl : ds = [] := List.eq_nil_of_length_eq_zero (by omega)
    simp [val, lows, highs, sums]
  | n + 1, ds, h => by
    match ds, h with
    | a :: b :: r, h =>
      obtain ⟨h1, h2, h3, h4, h5⟩ := split_pairs B n r (by simp at h; omega)
      refine ⟨?_, by simp [lows, h2], by simp [highs, h3], by simp [sums, h4], ?_⟩
      · simp only [val, lows, highs]
        rw [h1]
        simp only [Nat.mul_add, Nat.mul_assoc]
        omega
      · simp only [val, lows, highs, sums]
        rw [← h5, Nat.mul_add]
        omega

theorem mem_lows (P : Nat → Prop) : ∀ (ds : List Nat), (∀ d ∈ ds, P d) → (∀ d ∈ lows ds, P d) ∧ (∀ d ∈ highs ds, P d)
  | [], h => by simp [lows, highs]
  | [a], h => by simp [lows, highs]
  | a :: b :: r, h => by
    obtain ⟨h1, h2⟩ := mem_lows P r (fun d hd => h d (by simp [hd]))
    constructor
    · intro d hd
      simp only [lows, List.mem_cons] at hd
      rcases hd with rfl | hd
      · exact h _ (by simp)
      · exact h1 d hd
    · intro d hd
      simp only [highs, List.mem_cons] at hd
      rcases hd with rfl | hd
      · exact h _ (by simp)
      · exact h2 d hd

theorem mem_sums (c : Nat) : ∀ (ds : List Nat), (∀ d ∈ ds, d ≤ c) → ∀ d ∈ sums ds, d ≤ 2 * c
  | [], h => by simp [sums]
  | [a], h => by simp [sums]
  | a :: b :: r, h => by
    intro d hd
    simp only [sums, List.mem_cons] at hd
    rcases hd with rfl | hd
    · have := h a (by simp); have := h b (by simp); omega
    · exact mem_sums c r (fun d hd => h d (by simp [hd])) d hd

theorem sum_sums : ∀ (n : Nat) (ds : List Nat), ds.length = 2 * n → (sums ds).sum = ds.sum
  | 0, ds, h => by
    obtain rfl : ds = [] := List.eq_nil_of_length_eq_zero (by omega)
    rfl
  | n + 1, ds, h => by
    match ds, h with
    | a :: b :: r, h =>
      simp only [sums, List.sum_cons]
      rw [sum_sums n r (by simp at h; omega)]
      omega

theorem and_full (j x : Nat) (h : x < 2 ^ j) : x &&& (2 ^ j - 1) = x := by rw [Nat.and_two_pow_sub_one_eq_mod, Nat.mod_eq_of_lt h]

theorem zip_full (j : Nat) : ∀ (n : Nat) (xs : List Nat), xs.length = n → (∀ x ∈ xs, x < 2 ^ j) → List.zipWith (· &&& ·) xs (List.replicate n (2 ^ j - 1)) = xs
  | 0, xs, h, _ => by
    obtain rfl : xs = [] := List.eq_nil_of_length_eq_zero (by omega)
    rfl
  | n + 1, xs, h, hx => by
    match xs, h with
    | x :: xs, h =>
      rw [List.replicate_succ, List.zipWith_cons_cons, and_full j x (hx x (by simp)), zip_full j n xs (by simpa using h) (fun z hz => hx z (by simp [hz]))]

/-- The even digits, by a mask. -/
theorem and_mask (j n : Nat) (ls hs : List Nat) (hl : ls.length = n) (hh : hs.length = n) (dl : ∀ d ∈ ls, d < 2 ^ j) (dh : ∀ d ∈ hs, d < 2 ^ j) :
    (val (2 ^ j * 2 ^ j) ls + 2 ^ j * val (2 ^ j * 2 ^ j) hs) &&& val (2 ^ j * 2 ^ j) (List.replicate n (2 ^ j - 1)) = val (2 ^ j * 2 ^ j) ls := by
  induction ls generalizing hs n with
  | nil =>
    obtain rfl : hs = [] := List.eq_nil_of_length_eq_zero (by simp at hl; omega)
    subst hl
    simp [val]
  | cons l ls ih =>
    cases n with
    | zero => simp at hl
    | succ n =>
    cases hs with
    | nil => simp at hh
    | cons h hs =>
      have h1 := ih n hs (by simpa using hl) (by simpa using hh) (fun d hd => dl d (by simp [hd])) (fun d hd => dh d (by simp [hd]))
      simp only [val, List.replicate_succ]
      have a1 : l < 2 ^ j := dl l (by simp)
      have a2 : h < 2 ^ j := dh h (by simp)
      have e : l + 2 ^ j * 2 ^ j * val (2 ^ j * 2 ^ j) ls + 2 ^ j * (h + 2 ^ j * 2 ^ j * val (2 ^ j * 2 ^ j) hs) = l + 2 ^ j * (h + 2 ^ j * (val (2 ^ j * 2 ^ j) ls + 2 ^ j * val (2 ^ j * 2 ^ j) hs)) := by
        simp only [Nat.mul_add, Nat.mul_assoc]
        omega
      have e2 : 2 ^ j - 1 + 2 ^ j * 2 ^ j * val (2 ^ j * 2 ^ j) (List.replicate n (2 ^ j - 1)) = (2 ^ j - 1) + 2 ^ j * (0 + 2 ^ j * val (2 ^ j * 2 ^ j) (List.replicate n (2 ^ j - 1))) := by
        simp [Nat.mul_assoc]
      rw [e, e2, and_join j _ _ _ _ a1 (by have : 0 < 2 ^ j := Nat.two_pow_pos j; omega), and_join j _ _ _ _ a2 (Nat.two_pow_pos j), h1, and_full j l a1]
      simp [Nat.mul_assoc]

/-- One step: the sums of neighbours. -/
theorem step_pairs (j n : Nat) (ds : List Nat) (h : ds.length = 2 * n) (hd : ∀ d ∈ ds, d < 2 ^ j) :
    ((val (2 ^ j) ds / 2 ^ j) &&& val (2 ^ j * 2 ^ j) (List.replicate n (2 ^ j - 1))) + (val (2 ^ j) ds &&& val (2 ^ j * 2 ^ j) (List.replicate n (2 ^ j - 1))) = val (2 ^ j * 2 ^ j) (sums ds) := by
  obtain ⟨h1, h2, h3, h4, h5⟩ := split_pairs (2 ^ j) n ds h
  obtain ⟨m1, m2⟩ := mem_lows (· < 2 ^ j) ds hd
  have e1 := and_mask j n (lows ds) (highs ds) h2 h3 m1 m2
  have hp : 0 < 2 ^ j := Nat.two_pow_pos j
  -- shifted: the highs stand low, what is above the next lows
  have e2 : (val (2 ^ j) ds / 2 ^ j) &&& val (2 ^ j * 2 ^ j) (List.replicate n (2 ^ j - 1)) = val (2 ^ j * 2 ^ j) (highs ds) := by
    cases n with
    | zero =>
      obtain rfl : ds = [] := List.eq_nil_of_length_eq_zero (by omega)
      simp [val, highs]
    | succ n =>
      match ds, h with
      | a :: b :: r, h =>
        have ha : a < 2 ^ j := hd a (by simp)
        have e3 : val (2 ^ j) (a :: b :: r) / 2 ^ j = val (2 ^ j) (b :: r) := by
          rw [val, Nat.add_comm, Nat.mul_add_div hp, Nat.div_eq_of_lt ha, Nat.add_zero]
        have e4 : val (2 ^ j) (b :: r) = val (2 ^ j) (b :: r ++ [0]) := by
          have : ∀ xs : List Nat, val (2 ^ j) xs = val (2 ^ j) (xs ++ [0]) := by
            intro xs
            induction xs with
            | nil => simp [val]
            | cons x xs ih => simp only [val, List.cons_append]; rw [ih]
          exact this _
        have lw : ∀ (r : List Nat) (b : Nat) (n : Nat), r.length = 2 * n → lows (b :: r ++ [0]) = b :: highs r := by
          intro r
          induction r using highs.induct with
          | case1 x y r ih =>
            intro b n hr
            simp only [List.cons_append, lows, highs]
            have := ih y (n - 1) (by simp at hr; omega)
            simp only [List.cons_append] at this
            rw [this]
          | case2 r hr0 =>
            intro b n hr
            match r, hr0, hr with
            | [], _, _ => simp [lows, highs]
            | [x], _, hr => simp at hr; omega
            | x :: y :: r, hr0, _ => exact absurd rfl (hr0 x y r)
        have hlen : (b :: r ++ [0]).length = 2 * (n + 1) := by simp at h ⊢; omega
        have hd' : ∀ d ∈ b :: r ++ [0], d < 2 ^ j := by
          intro d hdm
          simp only [List.cons_append, List.mem_cons, List.mem_append, List.not_mem_nil, or_false] at hdm
          rcases hdm with rfl | hdm | rfl
          · exact hd _ (by simp)
          · exact hd _ (by simp [hdm])
          · exact hp
        obtain ⟨g1, g2, g3, _, _⟩ := split_pairs (2 ^ j) (n + 1) (b :: r ++ [0]) hlen
        obtain ⟨q1, q2⟩ := mem_lows (· < 2 ^ j) _ hd'
        rw [e3, e4, g1, and_mask j (n + 1) _ _ g2 g3 q1 q2, lw r b n (by simp at h; omega)]
        rfl
  rw [e2, h1, e1, Nat.add_comm, h5]

/-- The last step by a mask: nothing carries. -/
theorem step_last (j n : Nat) (ds : List Nat) (h : ds.length = 2 * n) (hd : ∀ d ∈ ds, 2 * d < 2 ^ j) :
    (val (2 ^ j) ds / 2 ^ j + val (2 ^ j) ds) &&& val (2 ^ j * 2 ^ j) (List.replicate n (2 ^ j - 1)) = val (2 ^ j * 2 ^ j) (sums ds) := by
  have hp : 0 < 2 ^ j := Nat.two_pow_pos j
  cases n with
  | zero =>
    obtain rfl : ds = [] := List.eq_nil_of_length_eq_zero (by omega)
    simp [val, sums]
  | succ n =>
    match ds, h with
    | a :: b :: r, h =>
      have ha : 2 * a < 2 ^ j := hd a (by simp)
      have e3 : val (2 ^ j) (a :: b :: r) / 2 ^ j = val (2 ^ j) (b :: r) := by
        rw [val, Nat.add_comm, Nat.mul_add_div hp, Nat.div_eq_of_lt (by omega), Nat.add_zero]
      have e4 : ∀ xs : List Nat, val (2 ^ j) xs = val (2 ^ j) (xs ++ [0]) := by
        intro xs
        induction xs with
        | nil => simp [val]
        | cons x xs ih => simp only [val, List.cons_append]; rw [ih]
      have e5 : val (2 ^ j) (b :: r) + val (2 ^ j) (a :: b :: r) = val (2 ^ j) (List.zipWith (· + ·) (b :: r ++ [0]) (a :: b :: r)) := by
        rw [e4 (b :: r), val_add _ _ _ (by simp)]
      have hz : ∀ (xs : List Nat) (x : Nat), (∀ d ∈ x :: xs, 2 * d < 2 ^ j) → ∀ d ∈ List.zipWith (· + ·) (xs ++ [0]) (x :: xs), d < 2 ^ j := by
        intro xs
        induction xs with
        | nil =>
          intro x hx d hd
          simp at hd
          have := hx x (by simp)
          omega
        | cons y ys ih =>
          intro x hx d hd
          simp only [List.cons_append, List.zipWith_cons_cons, List.mem_cons] at hd
          rcases hd with rfl | hd
          · have := hx x (by simp); have := hx y (by simp); omega
          · exact ih y (fun d hd => hx d (by simp at hd ⊢; right; exact hd)) d hd
      have hs : ∀ (r : List Nat) (a b : Nat) (n : Nat), r.length = 2 * n → lows (List.zipWith (· + ·) (b :: r ++ [0]) (a :: b :: r)) = sums (a :: b :: r) := by
        intro r
        induction r using highs.induct with
        | case1 x y r ih =>
          intro a b n hr
          simp only [List.cons_append, List.zipWith_cons_cons, lows, sums]
          have := ih x y (n - 1) (by simp at hr; omega)
          simp only [List.cons_append, List.zipWith_cons_cons, sums] at this
          rw [this, Nat.add_comm b a]
        | case2 r hr0 =>
          intro a b n hr
          match r, hr0, hr with
          | [], _, _ => simp [lows, sums, Nat.add_comm]
          | [x], _, hr => simp at hr; omega
          | x :: y :: r, hr0, _ => exact absurd rfl (hr0 x y r)
      have hlen : (List.zipWith (· + ·) (b :: r ++ [0]) (a :: b :: r)).length = 2 * (n + 1) := by simp at h ⊢; omega
      obtain ⟨g1, g2, g3, _, _⟩ := split_pairs (2 ^ j) (n + 1) _ hlen
      obtain ⟨q1, q2⟩ := mem_lows (· < 2 ^ j) _ (hz (b :: r) a hd)
      rw [e3, e5, g1, and_mask j (n + 1) _ _ g2 g3 (by simpa using q1) (by simpa using q2), hs r a b n (by simp at h; omega)]

/-- The bits of a number, lowest first. -/
def bitsOf : Nat → Nat → List Nat
  | 0, _ => []
  | n + 1, x => x % 2 :: bitsOf n (x / 2)
theorem bitsOf_len : ∀ n x, (bitsOf n x).length = n
  | 0, _ => rfl
  | n + 1, x => by simp [bitsOf, bitsOf_len n]
theorem bitsOf_lt : ∀ n x, ∀ d ∈ bitsOf n x, d ≤ 1
  | 0, _ => by simp [bitsOf]
  | n + 1, x => by
    intro d hd
    simp only [bitsOf, List.mem_cons] at hd
    rcases hd with rfl | hd
    · omega
    · exact bitsOf_lt n _ d hd
theorem val_bitsOf : ∀ n x, x < 2 ^ n → val 2 (bitsOf n x) = x
  | 0, x, h => by simp at h; simp [bitsOf, val, h]
  | n + 1, x, h => by
    simp only [bitsOf, val]
    rw [val_bitsOf n (x / 2) (by rw [Nat.pow_succ] at h; omega)]
    omega

/-- How many bits are 1. -/
def pop (x : Nat) : Nat := (bitsOf 64 x).sum

end Go.Proofs.Ytnedcoomldmhhaa
