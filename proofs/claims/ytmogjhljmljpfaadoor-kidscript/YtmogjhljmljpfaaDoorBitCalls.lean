/- The calls of math/bits that package mask makes, and mask's own two of bits. -/
import Derived.Test.YtmogjhljmljpfaaDoorRows
import Derived.Test.YtmogjhljmljpfaaDoorBlk
import Derived.Test.YtmogjhljmljpfaaDoorPop2
import Derived.Laws.Bits64b
import Derived.Laws.Shifts
import Derived.Lib.Tables
namespace Go.Proofs.YtmogjhljmljpfaaDoor
set_option maxRecDepth 20000
open Go.RowKit

/-- The table of math/bits, where the program keeps it. -/
def Tab (w : World) : Prop := ∀ j, j < Lib.deBruijn64tab.length → w.cell? ⟨1, j, none⟩ = some (.int .u8 (Lib.deBruijn64tab.getD j 0))
theorem Tab.below {w w' : World} (h : Tab w) {B : Nat} (k : Below B w w') (hB : 1 < B) : Tab w' := fun j hj => (k.cell hB).trans (h j hj)

/-- A number's lowest n bits, all of them 1. -/
def ones (n : Int) : Nat := 2 ^ min n.toNat 64 - 1

theorem wrapU (n : Nat) (h : n < 18446744073709551616) : IntKind.u64.wrap (n : Int) = n := by rw [IntKind.wrap_u64]; omega
theorem pow_lt (k : Nat) (h : k < 64) : 2 ^ k < 18446744073709551616 := by
  have : 2 ^ k < 2 ^ 64 := Nat.pow_lt_pow_right (by decide) h
  exact this
theorem ones_lt (n : Int) : ones n < 18446744073709551616 := by
  have : 2 ^ min n.toNat 64 ≤ 2 ^ 64 := Nat.pow_le_pow_right (by decide) (by omega)
  have e : (2 : Nat) ^ 64 = 18446744073709551616 := by decide
  unfold ones
  omega

theorem bit_any (b : Nat) (hb : b < 256) (w : World) : Calls Tryd.prog 40 #[.int .u8 b] w fun e w' => e = .returned (.int .u64 ((2 ^ (b % 64) : Nat) : Int)) ∧ w' = w := by
  go_enter Tryd.func40, Tryd.ntmps40
  go_wp2
  go_ret
  refine ⟨ret_int ?_, rfl⟩
  have := wrapU (2 ^ (b % 64)) (pow_lt _ (Nat.mod_lt _ (by decide)))
  rw [← this]
  simp

theorem low_any (n : Int) (hn : -9223372036854775808 ≤ n ∧ n ≤ 9223372036854775807) (w : World) : Calls Tryd.prog 50 #[.int .i64 n] w fun e w' => e = .returned (.int .u64 (ones n : Int)) ∧ w' = w := by
  by_cases h : n ≤ 0
  · go_enter Tryd.func50, Tryd.ntmps50
    go_wp2
    go_ret
    refine ⟨ret_int ?_, rfl⟩
    have : n.toNat = 0 := by omega
    simp [ones, this]
  · have h0 : 0 ≤ n := by omega
    go_enter Tryd.func50, Tryd.ntmps50
    go_wp2
    go_ret
    refine ⟨ret_int ?_, rfl⟩
    have hp : 0 < 2 ^ min n.toNat 64 := Nat.two_pow_pos _
    have hl := ones_lt n
    have e : (2 : Int) ^ min n.toNat 64 = ((2 ^ min n.toNat 64 : Nat) : Int) := by simp
    rw [e]
    unfold ones at hl ⊢
    generalize 2 ^ min n.toNat 64 = p at *
    rw [IntKind.wrap_u64, IntKind.wrap_u64]
    by_cases hq : p = 18446744073709551616
    · subst hq; decide
    · omega

theorem tz64_core (x k idx : Nat) (w : World) (hx0 : ((x : Int) == 0) = false)
    (key : IntKind.u64.wrap (bits BinOp.and IntKind.u64 (x : Int) (IntKind.u64.wrap (-(x : Int))) * 285870213051353865) / 288230376151711744 = (idx : Int))
    (hi : idx < 64) (hk : k < 64) (hcell : w.cell? ⟨1, idx, none⟩ = some (.int .u8 k)) :
    Calls Tryd.prog 45 #[.int .u64 x] w fun e w' => e = .returned (.int .i64 k) ∧ w' = w := by
  go_enter Tryd.func45, Tryd.ntmps45
  go_wp2_with (simp only [key])
  go_ret
  exact ⟨rfl, rfl⟩

theorem tz64_key (x a : Nat) (hx : x < 18446744073709551616) (hx0 : x ≠ 0) (hlow : x &&& (18446744073709551616 - x) = a) :
    IntKind.u64.wrap (bits BinOp.and IntKind.u64 (x : Int) (IntKind.u64.wrap (-(x : Int))) * 285870213051353865) / 288230376151711744 = ((a * 285870213051353865 % 18446744073709551616 / 288230376151711744 : Nat) : Int) := by
  have e1 : IntKind.u64.wrap (-(x : Int)) = ((18446744073709551616 - x : Nat) : Int) := by rw [IntKind.wrap_u64]; omega
  rw [e1, bits_and_u64_nat x _ hx (by omega), hlow, IntKind.wrap_u64]
  omega

/-- math/bits.TrailingZeros64 of what is not 0. -/
theorem tz64_any (x : Nat) (hx : x < 18446744073709551616) (h0 : x ≠ 0) (w : World) (hT : Tab w) :
    Calls Tryd.prog 45 #[.int .u64 x] w fun e w' => e = .returned (.int .i64 (Lib.ctz 64 x : Int)) ∧ w' = w := by
  obtain ⟨hlow, hk⟩ := Lib.lowest_bit 64 x h0 hx
  obtain ⟨hi, htab⟩ := Lib.deBruijn64_at _ hk
  have hcell := hT _ hi
  rw [htab] at hcell
  exact tz64_core x _ _ w (by simp; omega) (tz64_key x _ hx h0 hlow) hi hk hcell

theorem wraps_i64_63 (n : Int) (h₀ : 0 ≤ n) (h₁ : n < 2 ^ 63) : IntKind.i64.wrap n = n := by rw [IntKind.wrap_i64]; omega
theorem and127 (x : Nat) (h : x < 9223372036854775808) : bits .and .i64 (wrap64 (x : Int)) 127 = ((x % 128 : Nat) : Int) := by
  rw [wrap64_in _ (by omega)]
  have := bits_mask .i64 63 (by decide) wraps_i64_63 7 (by decide) (x : Int) (by omega) (by omega)
  have e : ((2 : Int) ^ 7 - 1) = 127 := by decide
  have e2 : ((2 : Int) ^ 7) = 128 := by decide
  rw [e, e2] at this
  rw [this]
  omega

theorem u64_step1 (x m s r : Nat) (hm : m < 18446744073709551616) (hx : x < 18446744073709551616) (hr : r = (x / s &&& m) + (x &&& m)) (hl : r < 18446744073709551616) :
    IntKind.u64.wrap (bits .and .u64 ((x : Int) / (s : Int)) (m : Int) + bits .and .u64 (x : Int) (m : Int)) = (r : Int) := by
  have e : ((x : Int) / (s : Int)) = ((x / s : Nat) : Int) := by simp
  rw [e, bits_and_u64_nat _ _ (Nat.lt_of_le_of_lt (Nat.div_le_self _ _) hx) hm, bits_and_u64_nat _ _ hx hm, ← Int.natCast_add, ← hr, wrapU r hl]
theorem u64_step3 (x m s r : Nat) (hm : m < 18446744073709551616) (hl : x / s + x < 18446744073709551616) (hr : r = (x / s + x) &&& m) :
    bits .and .u64 (IntKind.u64.wrap ((x : Int) / (s : Int) + (x : Int))) (m : Int) = (r : Int) := by
  have e : ((x : Int) / (s : Int) + (x : Int)) = ((x / s + x : Nat) : Int) := by simp
  rw [e, wrapU _ hl, bits_and_u64_nat _ _ hl hm, ← hr]
theorem u64_step4 (x s r : Nat) (hl : r < 18446744073709551616) (hr : r = x + x / s) : IntKind.u64.wrap ((x : Int) + (x : Int) / (s : Int)) = (r : Int) := by
  have e : ((x : Int) + (x : Int) / (s : Int)) = ((x + x / s : Nat) : Int) := by simp
  rw [e, ← hr, wrapU r hl]

theorem ones64_any (x : Nat) (hx : x < 18446744073709551616) (w : World) : Calls Tryd.prog 49 #[.int .u64 x] w fun e w' => e = .returned (.int .i64 (pop x : Int)) ∧ w' = w := by
  go_enter Tryd.func49, Tryd.ntmps49
  go_wp2
  go_ret
  refine ⟨ret_int ?_, rfl⟩
  obtain ⟨x1, x2, x3, x4, x5, x6, r1, c1, r2, c2, c3a, r3, c3, r4, r5, r6, c4, c5, c6, r7⟩ := swar x hx
  have s1 := u64_step1 x 6148914691236517205 2 x1 (by decide) hx r1 c1
  have s2 := u64_step1 x1 3689348814741910323 4 x2 (by decide) c1 r2 c2
  have s3 := u64_step3 x2 1085102592571150095 16 x3 (by decide) c3a r3
  have s4 := u64_step4 x3 256 x4 c4 r4
  have s5 := u64_step4 x4 65536 x5 c5 r5
  have s6 := u64_step4 x5 4294967296 x6 (Nat.lt_trans c6 (by decide)) r6
  simp only [Int.cast_ofNat_Int] at s1 s2 s3 s4 s5 s6
  rw [s1, s2, s3, s4, s5, s6, and127 x6 c6, r7]

theorem len8_bits : ∀ n : Fin 256, Lib.len8 (n.val : Int) = (bitLen n.val : Int) := by decide +kernel
theorem len_fin (x k D : Nat) (K y : Int) (hK : K = k) (hD : D = 2 ^ k) (hy : y = ((x / D : Nat) : Int)) (h5 : y ≤ 255) (hk : k ≤ 56) (h : k = 0 ∨ x / D ≠ 0) : wrap64 (K + wrap64 (Lib.len8 y)) = (bitLen x : Int) := by
  have h8 : x / D < 256 := by omega
  have e : Lib.len8 y = (bitLen (x / D) : Int) := by
    rw [hy]; exact len8_bits ⟨_, h8⟩
  have l : bitLen (x / D) ≤ 8 := bitLen_le8 _ h8
  have s : bitLen x = k + bitLen (x / D) := by
    subst hD
    rcases h with h | h
    · subst h; simp
    · exact bitLen_shift x k h
  rw [e, s, hK]
  generalize bitLen (x / D) = n at *
  have e2 : wrap64 (n : Int) = n := wrap64_in _ (by omega)
  rw [e2, wrap64_in _ (by omega)]
  omega
theorem div_div_cast (x a b : Nat) : ((x / a : Nat) : Int) / (b : Int) = ((x / (a * b) : Nat) : Int) := by rw [← Nat.div_div_eq_div_mul]; simp

set_option maxHeartbeats 4000000 in
set_option maxRecDepth 1000000 in
theorem len64_any (x : Nat) (hx : x < 18446744073709551616) (w : World) : Calls Tryd.prog 47 #[.int .u64 x] w fun e w' => e = .returned (.int .i64 (bitLen x : Int)) ∧ w' = w := by
  by_cases h1 : 4294967296 ≤ (x : Int)
  · by_cases h2 : 65536 ≤ (x : Int) / 4294967296
    · by_cases h3 : 256 ≤ (x : Int) / 4294967296 / 65536
      · have h0 : 0 ≤ (x : Int) / 4294967296 / 65536 / 256 := by omega
        have h5 : (x : Int) / 4294967296 / 65536 / 256 ≤ 255 := by omega
        have hz : x / 72057594037927936 ≠ 0 := by omega
        have HY : Hid ((x : Int) / 4294967296 / 65536 / 256 = ((x / 72057594037927936 : Nat) : Int)) := by unfold Hid; omega
        go_enter Tryd.func47, Tryd.ntmps47
        go_wp2
        go_ret
        refine ⟨ret_int ?_, rfl⟩
        exact len_fin x 56 72057594037927936 56 _ rfl (by decide) HY.out h5 (by decide) (.inr hz)
      · have h0 : 0 ≤ (x : Int) / 4294967296 / 65536 := by omega
        have h5 : (x : Int) / 4294967296 / 65536 ≤ 255 := by omega
        have hz : x / 281474976710656 ≠ 0 := by omega
        have HY : Hid ((x : Int) / 4294967296 / 65536 = ((x / 281474976710656 : Nat) : Int)) := by unfold Hid; omega
        go_enter Tryd.func47, Tryd.ntmps47
        go_wp2
        go_ret
        refine ⟨ret_int ?_, rfl⟩
        exact len_fin x 48 281474976710656 48 _ rfl (by decide) HY.out h5 (by decide) (.inr hz)
    · by_cases h3 : 256 ≤ (x : Int) / 4294967296
      · have h0 : 0 ≤ (x : Int) / 4294967296 / 256 := by omega
        have h5 : (x : Int) / 4294967296 / 256 ≤ 255 := by omega
        have hz : x / 1099511627776 ≠ 0 := by omega
        have HY : Hid ((x : Int) / 4294967296 / 256 = ((x / 1099511627776 : Nat) : Int)) := by unfold Hid; omega
        go_enter Tryd.func47, Tryd.ntmps47
        go_wp2
        go_ret
        refine ⟨ret_int ?_, rfl⟩
        exact len_fin x 40 1099511627776 40 _ rfl (by decide) HY.out h5 (by decide) (.inr hz)
      · have h0 : 0 ≤ (x : Int) / 4294967296 := by omega
        have h5 : (x : Int) / 4294967296 ≤ 255 := by omega
        have hz : x / 4294967296 ≠ 0 := by omega
        have HY : Hid ((x : Int) / 4294967296 = ((x / 4294967296 : Nat) : Int)) := by unfold Hid; omega
        go_enter Tryd.func47, Tryd.ntmps47
        go_wp2
        go_ret
        refine ⟨ret_int ?_, rfl⟩
        exact len_fin x 32 4294967296 32 _ rfl (by decide) HY.out h5 (by decide) (.inr hz)
  · by_cases h2 : 65536 ≤ (x : Int)
    · by_cases h3 : 256 ≤ (x : Int) / 65536
      · have h0 : 0 ≤ (x : Int) / 65536 / 256 := by omega
        have h5 : (x : Int) / 65536 / 256 ≤ 255 := by omega
        have hz : x / 16777216 ≠ 0 := by omega
        have HY : Hid ((x : Int) / 65536 / 256 = ((x / 16777216 : Nat) : Int)) := by unfold Hid; omega
        go_enter Tryd.func47, Tryd.ntmps47
        go_wp2
        go_ret
        refine ⟨ret_int ?_, rfl⟩
        exact len_fin x 24 16777216 24 _ rfl (by decide) HY.out h5 (by decide) (.inr hz)
      · have h0 : 0 ≤ (x : Int) / 65536 := by omega
        have h5 : (x : Int) / 65536 ≤ 255 := by omega
        have hz : x / 65536 ≠ 0 := by omega
        have HY : Hid ((x : Int) / 65536 = ((x / 65536 : Nat) : Int)) := by unfold Hid; omega
        go_enter Tryd.func47, Tryd.ntmps47
        go_wp2
        go_ret
        refine ⟨ret_int ?_, rfl⟩
        exact len_fin x 16 65536 16 _ rfl (by decide) HY.out h5 (by decide) (.inr hz)
    · by_cases h3 : 256 ≤ (x : Int)
      · have h0 : 0 ≤ (x : Int) / 256 := by omega
        have h5 : (x : Int) / 256 ≤ 255 := by omega
        have hz : x / 256 ≠ 0 := by omega
        have HY : Hid ((x : Int) / 256 = ((x / 256 : Nat) : Int)) := by unfold Hid; omega
        go_enter Tryd.func47, Tryd.ntmps47
        go_wp2
        go_ret
        refine ⟨ret_int ?_, rfl⟩
        exact len_fin x 8 256 8 _ rfl (by decide) HY.out h5 (by decide) (.inr hz)
      · have h0 : 0 ≤ (x : Int) := by omega
        have h5 : (x : Int) ≤ 255 := by omega
        go_enter Tryd.func47, Tryd.ntmps47
        go_wp2
        go_ret
        refine ⟨ret_int ?_, rfl⟩
        have := len_fin x 0 1 0 (x : Int) rfl (by decide) (by simp) h5 (by decide) (.inl rfl)
        simpa using this

end Go.Proofs.YtmogjhljmljpfaaDoor
