/- The sum of the bits by halves (math/bits.OnesCount64): it is how many are 1. No program here. -/
import Derived.Test.YtnedcoomldmhhaaPop
namespace Go.Proofs.Ytnedcoomldmhhaa
set_option maxRecDepth 20000

theorem val8 (e0 e1 e2 e3 e4 e5 e6 e7 : Nat) : val 256 [e0, e1, e2, e3, e4, e5, e6, e7] = e0 + 256 * e1 + 65536 * e2 + 16777216 * e3 + 4294967296 * e4 + 1099511627776 * e5 + 281474976710656 * e6 + 72057594037927936 * e7 := by
  simp only [val]; omega

theorem divq (B lo q x : Nat) (h : lo < B) (e : x = lo + B * q) : x / B = q := by
  rw [e, Nat.add_comm, Nat.mul_add_div (by omega), Nat.div_eq_of_lt h, Nat.add_zero]

theorem lin8 (x e0 e1 e2 e3 e4 e5 e6 e7 : Nat) (hx : x = e0 + 256 * e1 + 65536 * e2 + 16777216 * e3 + 4294967296 * e4 + 1099511627776 * e5 + 281474976710656 * e6 + 72057594037927936 * e7) :
    ∃ y z u, x = e0 + 256 * y ∧ x + y = (e0 + e1 + 256 * (e1 + e2)) + 65536 * z ∧ x + y + z = ((e0 + e1 + e2 + e3) + 256 * (e1 + e2 + e3 + e4) + 65536 * (e2 + e3 + e4 + e5) + 16777216 * (e3 + e4 + e5 + e6)) + 4294967296 * u ∧ x + y + z + u = (e0 + e1 + e2 + e3 + e4 + e5 + e6 + e7) + 128 * (2 * (e1 + e2 + e3 + e4 + e5 + e6 + e7) + 512 * (e2 + e3 + e4 + e5 + e6 + e7) + 131072 * (e3 + e4 + e5 + e6 + e7) + 33554432 * (e4 + e5 + e6 + e7) + 8589934592 * (e5 + e6 + e7) + 2199023255552 * (e6 + e7) + 562949953421312 * e7) := by
  refine ⟨e1 + 256 * e2 + 65536 * e3 + 16777216 * e4 + 4294967296 * e5 + 1099511627776 * e6 + 281474976710656 * e7, (e2 + e3) + 256 * (e3 + e4) + 65536 * (e4 + e5) + 16777216 * (e5 + e6) + 4294967296 * (e6 + e7) + 1099511627776 * e7, (e4 + e5 + e6 + e7) + 256 * (e5 + e6 + e7) + 65536 * (e6 + e7) + 16777216 * e7, ?_, ?_, ?_, ?_⟩
  · rw [hx]; clear hx; omega
  · rw [hx]; clear hx; omega
  · rw [hx]; clear hx; omega
  · rw [hx]; clear hx; omega
theorem bnd8 (e0 e1 e2 e3 e4 e5 e6 e7 : Nat) (h0 : e0 ≤ 8) (h1 : e1 ≤ 8) (h2 : e2 ≤ 8) (h3 : e3 ≤ 8) (h4 : e4 ≤ 8) (h5 : e5 ≤ 8) (h6 : e6 ≤ 8) (h7 : e7 ≤ 8) :
    e0 < 256 ∧ e0 + e1 + 256 * (e1 + e2) < 65536 ∧ (e0 + e1 + e2 + e3) + 256 * (e1 + e2 + e3 + e4) + 65536 * (e2 + e3 + e4 + e5) + 16777216 * (e3 + e4 + e5 + e6) < 4294967296 ∧ (e0 + e1 + e2 + e3 + e4 + e5 + e6 + e7) + 128 * (2 * (e1 + e2 + e3 + e4 + e5 + e6 + e7) + 512 * (e2 + e3 + e4 + e5 + e6 + e7) + 131072 * (e3 + e4 + e5 + e6 + e7) + 33554432 * (e4 + e5 + e6 + e7) + 8589934592 * (e5 + e6 + e7) + 2199023255552 * (e6 + e7) + 562949953421312 * e7) < 9223372036854775808 ∧ e0 + e1 + e2 + e3 + e4 + e5 + e6 + e7 < 128 := by
  refine ⟨?_, ?_, ?_, ?_, ?_⟩
  · omega
  · omega
  · omega
  · omega
  · omega

theorem last8 (x e0 e1 e2 e3 e4 e5 e6 e7 : Nat) (hx : x = e0 + 256 * e1 + 65536 * e2 + 16777216 * e3 + 4294967296 * e4 + 1099511627776 * e5 + 281474976710656 * e6 + 72057594037927936 * e7)
    (h0 : e0 ≤ 8) (h1 : e1 ≤ 8) (h2 : e2 ≤ 8) (h3 : e3 ≤ 8) (h4 : e4 ≤ 8) (h5 : e5 ≤ 8) (h6 : e6 ≤ 8) (h7 : e7 ≤ 8) :
    ∃ x4 x5 x6, x4 = x + x / 256 ∧ x5 = x4 + x4 / 65536 ∧ x6 = x5 + x5 / 4294967296 ∧ x4 < 18446744073709551616 ∧ x5 < 18446744073709551616 ∧ x6 < 9223372036854775808 ∧ x6 % 128 = e0 + e1 + e2 + e3 + e4 + e5 + e6 + e7 := by
  obtain ⟨y, z, u, a1, b1, c1, f⟩ := lin8 x e0 e1 e2 e3 e4 e5 e6 e7 hx
  obtain ⟨a2, b2, c2, g, f2⟩ := bnd8 e0 e1 e2 e3 e4 e5 e6 e7 h0 h1 h2 h3 h4 h5 h6 h7
  rw [← f] at g
  have a := divq 256 e0 y x a2 a1
  have b := divq 65536 _ z (x + y) b2 b1
  have c := divq 4294967296 _ u (x + y + z) c2 c1
  refine ⟨x + y, x + y + z, x + y + z + u, by rw [a], by rw [b], by rw [c], ?_, ?_, g, ?_⟩
  · exact Nat.lt_of_le_of_lt (Nat.le_trans (Nat.le_add_right _ z) (Nat.le_add_right _ u)) (Nat.lt_trans g (by decide))
  · exact Nat.lt_of_le_of_lt (Nat.le_add_right _ u) (Nat.lt_trans g (by decide))
  · rw [f, Nat.add_mul_mod_self_left]
    exact Nat.mod_eq_of_lt f2

theorem list8 (l : List Nat) (h : l.length = 8) : ∃ a b c d e f g i, l = [a, b, c, d, e, f, g, i] := by
  match l, h with
  | [a, b, c, d, e, f, g, i], _ => exact ⟨a, b, c, d, e, f, g, i, rfl⟩

theorem bound8 (c a0 a1 a2 a3 a4 a5 a6 a7 : Nat) (h : ∀ d ∈ [a0, a1, a2, a3, a4, a5, a6, a7], d ≤ c) : a0 ≤ c ∧ a1 ≤ c ∧ a2 ≤ c ∧ a3 ≤ c ∧ a4 ≤ c ∧ a5 ≤ c ∧ a6 ≤ c ∧ a7 ≤ c := by
  simp only [List.forall_mem_cons] at h
  obtain ⟨h0, h1, h2, h3, h4, h5, h6, h7, _⟩ := h
  exact ⟨h0, h1, h2, h3, h4, h5, h6, h7⟩
theorem bound1 (ls : List Nat) (hl : ls.length = 8) (h : ∀ d ∈ ls, d ≤ 4) : val 256 ls < 360287970189639680 := by
  obtain ⟨a0, a1, a2, a3, a4, a5, a6, a7, rfl⟩ := list8 _ hl
  obtain ⟨h0, h1, h2, h3, h4, h5, h6, h7⟩ := bound8 _ _ _ _ _ _ _ _ _ h
  rw [val8]
  clear h hl
  omega
theorem bound16 (ls hs : List Nat) (hl : ls.length = 8) (hh : hs.length = 8) (d1 : ∀ d ∈ ls, d ≤ 4) (d2 : ∀ d ∈ hs, d ≤ 4) : val (16 * 16) ls + 16 * val (16 * 16) hs < 1152921504606846976 * 8 := by
  have h1 := bound1 ls hl d1
  have h2 := bound1 hs hh d2
  show val 256 ls + 16 * val 256 hs < _
  omega

theorem half_sum (x : Nat) (h : x < 1152921504606846976 * 8) : x / 16 + x < 18446744073709551616 := by omega

/-- What math/bits.OnesCount64 reckons. -/
theorem swar (x : Nat) (hx : x < 18446744073709551616) : ∃ x1 x2 x3 x4 x5 x6 : Nat,
    x1 = (x / 2 &&& 6148914691236517205) + (x &&& 6148914691236517205) ∧ x1 < 18446744073709551616 ∧
    x2 = (x1 / 4 &&& 3689348814741910323) + (x1 &&& 3689348814741910323) ∧ x2 < 18446744073709551616 ∧
    x2 / 16 + x2 < 18446744073709551616 ∧ x3 = (x2 / 16 + x2) &&& 1085102592571150095 ∧ x3 < 18446744073709551616 ∧
    x4 = x3 + x3 / 256 ∧ x5 = x4 + x4 / 65536 ∧ x6 = x5 + x5 / 4294967296 ∧ x4 < 18446744073709551616 ∧ x5 < 18446744073709551616 ∧ x6 < 9223372036854775808 ∧ x6 % 128 = pop x := by
  have l0 := bitsOf_len 64 x
  have d0 := bitsOf_lt 64 x
  have v0 : val 2 (bitsOf 64 x) = x := val_bitsOf 64 x hx
  have s1 := step_pairs 1 32 (bitsOf 64 x) (by rw [l0]) (fun d hd => Nat.lt_of_le_of_lt (d0 d hd) (by decide))
  have m1 : val (2 ^ 1 * 2 ^ 1) (List.replicate 32 (2 ^ 1 - 1)) = 6148914691236517205 := by decide +kernel
  rw [m1] at s1
  obtain ⟨_, _, _, l1, _⟩ := split_pairs 2 32 (bitsOf 64 x) (by rw [l0])
  have d1 := mem_sums 1 _ d0
  have t1 := sum_sums 32 _ (by rw [l0])
  have s2 := step_pairs 2 16 (sums (bitsOf 64 x)) (by rw [l1]) (fun d hd => Nat.lt_of_le_of_lt (d1 d hd) (by decide))
  have m2 : val (2 ^ 2 * 2 ^ 2) (List.replicate 16 (2 ^ 2 - 1)) = 3689348814741910323 := by decide +kernel
  rw [m2] at s2
  obtain ⟨_, _, _, l2, _⟩ := split_pairs 4 16 (sums (bitsOf 64 x)) (by rw [l1])
  have d2 := mem_sums _ _ d1
  have t2 := sum_sums 16 _ (by rw [l1])
  have s3 := step_last 4 8 (sums (sums (bitsOf 64 x))) (by rw [l2]) (fun d hd => Nat.lt_of_le_of_lt (Nat.mul_le_mul_left 2 (d2 d hd)) (by decide))
  have m3 : val (2 ^ 4 * 2 ^ 4) (List.replicate 8 (2 ^ 4 - 1)) = 1085102592571150095 := by decide +kernel
  rw [m3] at s3
  obtain ⟨_, _, _, l3, _⟩ := split_pairs 16 8 (sums (sums (bitsOf 64 x))) (by rw [l2])
  have d3 := mem_sums _ _ d2
  have t3 := sum_sums 8 _ (by rw [l2])
  have b1 : val (2 ^ 1 * 2 ^ 1) (sums (bitsOf 64 x)) < 18446744073709551616 := by
    have := val_lt (2 ^ 1 * 2 ^ 1) (by decide) (sums (bitsOf 64 x)) (fun d hd => Nat.lt_of_le_of_lt (d1 d hd) (by decide))
    rw [l1, show (2 ^ 1 * 2 ^ 1 : Nat) ^ 32 = 18446744073709551616 by decide +kernel] at this
    exact this
  have b2 : val (2 ^ 2 * 2 ^ 2) (sums (sums (bitsOf 64 x))) < 1152921504606846976 * 8 := by
    obtain ⟨g1, g2, g3, _, _⟩ := split_pairs 16 8 (sums (sums (bitsOf 64 x))) (by rw [l2])
    obtain ⟨q1, q2⟩ := mem_lows (· ≤ 4) _ d2
    have g4 : val (2 ^ 2 * 2 ^ 2) (sums (sums (bitsOf 64 x))) = _ := g1
    rw [g4]
    exact bound16 _ _ g2 g3 q1 q2
  have b3 : val (2 ^ 4 * 2 ^ 4) (sums (sums (sums (bitsOf 64 x)))) < 18446744073709551616 := by
    have := val_lt (2 ^ 4 * 2 ^ 4) (by decide) (sums (sums (sums (bitsOf 64 x)))) (fun d hd => Nat.lt_of_le_of_lt (d3 d hd) (by decide))
    rw [l3, show (2 ^ 4 * 2 ^ 4 : Nat) ^ 8 = 18446744073709551616 by decide +kernel] at this
    exact this
  obtain ⟨e0, e1, e2, e3, e4, e5, e6, e7, ee⟩ := list8 _ l3
  rw [ee] at d3
  obtain ⟨h0, h1, h2, h3, h4, h5, h6, h7⟩ := bound8 _ _ _ _ _ _ _ _ _ d3
  have v3 := val8 e0 e1 e2 e3 e4 e5 e6 e7
  obtain ⟨x4, x5, x6, r4, r5, r6, c4, c5, c6, r7⟩ := last8 _ e0 e1 e2 e3 e4 e5 e6 e7 v3 h0 h1 h2 h3 h4 h5 h6 h7
  have hpop : pop x = e0 + e1 + e2 + e3 + e4 + e5 + e6 + e7 := by
    unfold pop
    rw [← t1, ← t2, ← t3, ee]
    simp only [List.sum_cons, List.sum_nil, Nat.add_zero, Nat.add_assoc]
  have p1 : (2 : Nat) ^ 1 = 2 := rfl
  have p2 : (2 : Nat) ^ 2 = 4 := rfl
  have p4 : (2 : Nat) ^ 4 = 16 := rfl
  rw [p1, v0] at s1
  rw [p2] at s2
  rw [p4] at s3
  rw [p1] at b1
  rw [p2] at b2
  rw [p4] at b3
  refine ⟨val (2 * 2) (sums (bitsOf 64 x)), val (4 * 4) (sums (sums (bitsOf 64 x))), val (16 * 16) (sums (sums (sums (bitsOf 64 x)))), x4, x5, x6, s1.symm, b1, s2.symm, Nat.lt_trans b2 (by decide), ?_, s3.symm, b3, ?_, r5, r6, c4, c5, c6, ?_⟩
  · show val 16 _ / 16 + val 16 _ < _
    have : val 16 (sums (sums (bitsOf 64 x))) < 1152921504606846976 * 8 := b2
    exact half_sum _ this
  · rw [r4, ← ee]
  · rw [r7, hpop]

end Go.Proofs.Ytnedcoomldmhhaa
