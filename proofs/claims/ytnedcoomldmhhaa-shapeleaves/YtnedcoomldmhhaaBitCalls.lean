/- The calls of math/bits that package mask makes, and mask's own two of bits. -/
import Derived.Test.YtnedcoomldmhhaaRows
import Derived.Test.YtnedcoomldmhhaaBlk
import Derived.Test.YtnedcoomldmhhaaPop2
import Derived.Laws.Bits64b
import Derived.Laws.Shifts
import Derived.Lib.Tables
namespace Go.Proofs.Ytnedcoomldmhhaa
set_option maxRecDepth 20000
open Go.RowKit

/-- A number's lowest n bits, all of them 1. -/
def ones (n : Int) : Nat := 2 ^ min n.toNat 64 - 1

theorem wrapU (n : Nat) (h : n < 18446744073709551616) : IntKind.u64.wrap (n : Int) = n := by rw [IntKind.wrap_u64]; omega
theorem pow_lt (k : Nat) (h : k < 64) : 2 ^ k < 18446744073709551616 := by
  have : 2 ^ k < 2 ^ 64 := Nat.pow_lt_pow_right (by decide) h
  exact this
theorem ones_lt (n : Int) : ones n < 18446744073709551616 := by
  have : 2 ^ min n.toNat 64 ≤ 2 ^ 64 := Nat.pow_le_pow_right (by decide) (by omega)
  have e : (2 : Nat) ^ 64 = 18446744073709551616 := by decide
  unfold ones
  omega

theorem tz64_key (x a : Nat) (hx : x < 18446744073709551616) (hx0 : x ≠ 0) (hlow : x &&& (18446744073709551616 - x) = a) :
    IntKind.u64.wrap (bits BinOp.and IntKind.u64 (x : Int) (IntKind.u64.wrap (-(x : Int))) * 285870213051353865) / 288230376151711744 = ((a * 285870213051353865 % 18446744073709551616 / 288230376151711744 : Nat) : Int) := by
  have e1 : IntKind.u64.wrap (-(x : Int)) = ((18446744073709551616 - x : Nat) : Int) := by rw [IntKind.wrap_u64]; omega
  rw [e1, bits_and_u64_nat x _ hx (by omega), hlow, IntKind.wrap_u64]
  omega

theorem wraps_i64_63 (n : Int) (h₀ : 0 ≤ n) (h₁ : n < 2 ^ 63) : IntKind.i64.wrap n = n := by rw [IntKind.wrap_i64]; omega
theorem and127 (x : Nat) (h : x < 9223372036854775808) : bits .and .i64 (wrap64 (x : Int)) 127 = ((x % 128 : Nat) : Int) := by
  rw [wrap64_in _ (by omega)]
  have := bits_mask .i64 63 (by decide) wraps_i64_63 7 (by decide) (x : Int) (by omega) (by omega)
  have e : ((2 : Int) ^ 7 - 1) = 127 := by decide
  have e2 : ((2 : Int) ^ 7) = 128 := by decide
  rw [e, e2] at this
  rw [this]
  omega

theorem u64_step1 (x m s r : Nat) (hm : m < 18446744073709551616) (hx : x < 18446744073709551616) (hr : r = (x / s &&& m) + (x &&& m)) (hl : r < 18446744073709551616) :
    IntKind.u64.wrap (bits .and .u64 ((x : Int) / (s : Int)) (m : Int) + bits .and .u64 (x : Int) (m : Int)) = (r : Int) := by
  have e : ((x : Int) / (s : Int)) = ((x / s : Nat) : Int) := by simp
  rw [e, bits_and_u64_nat _ _ (Nat.lt_of_le_of_lt (Nat.div_le_self _ _) hx) hm, bits_and_u64_nat _ _ hx hm, ← Int.natCast_add, ← hr, wrapU r hl]
theorem u64_step3 (x m s r : Nat) (hm : m < 18446744073709551616) (hl : x / s + x < 18446744073709551616) (hr : r = (x / s + x) &&& m) :
    bits .and .u64 (IntKind.u64.wrap ((x : Int) / (s : Int) + (x : Int))) (m : Int) = (r : Int) := by
  have e : ((x : Int) / (s : Int) + (x : Int)) = ((x / s + x : Nat) : Int) := by simp
  rw [e, wrapU _ hl, bits_and_u64_nat _ _ hl hm, ← hr]
theorem u64_step4 (x s r : Nat) (hl : r < 18446744073709551616) (hr : r = x + x / s) : IntKind.u64.wrap ((x : Int) + (x : Int) / (s : Int)) = (r : Int) := by
  have e : ((x : Int) + (x : Int) / (s : Int)) = ((x + x / s : Nat) : Int) := by simp
  rw [e, ← hr, wrapU r hl]

theorem ones64_any (x : Nat) (hx : x < 18446744073709551616) (w : World) : Calls Try.prog 81 #[.int .u64 x] w fun e w' => e = .returned (.int .i64 (pop x : Int)) ∧ w' = w := by
  go_enter Try.func81, Try.ntmps81
  go_wp2
  go_ret
  refine ⟨ret_int ?_, rfl⟩
  obtain ⟨x1, x2, x3, x4, x5, x6, r1, c1, r2, c2, c3a, r3, c3, r4, r5, r6, c4, c5, c6, r7⟩ := swar x hx
  have s1 := u64_step1 x 6148914691236517205 2 x1 (by decide) hx r1 c1
  have s2 := u64_step1 x1 3689348814741910323 4 x2 (by decide) c1 r2 c2
  have s3 := u64_step3 x2 1085102592571150095 16 x3 (by decide) c3a r3
  have s4 := u64_step4 x3 256 x4 c4 r4
  have s5 := u64_step4 x4 65536 x5 c5 r5
  have s6 := u64_step4 x5 4294967296 x6 (Nat.lt_trans c6 (by decide)) r6
  simp only [Int.cast_ofNat_Int] at s1 s2 s3 s4 s5 s6
  rw [s1, s2, s3, s4, s5, s6, and127 x6 c6, r7]

theorem len8_bits : ∀ n : Fin 256, Lib.len8 (n.val : Int) = (bitLen n.val : Int) := by decide +kernel
theorem len_fin (x k D : Nat) (K y : Int) (hK : K = k) (hD : D = 2 ^ k) (hy : y = ((x / D : Nat) : Int)) (h5 : y ≤ 255) (hk : k ≤ 56) (h : k = 0 ∨ x / D ≠ 0) : wrap64 (K + wrap64 (Lib.len8 y)) = (bitLen x : Int) := by
  have h8 : x / D < 256 := by omega
  have e : Lib.len8 y = (bitLen (x / D) : Int) := by
    rw [hy]; exact len8_bits ⟨_, h8⟩
  have l : bitLen (x / D) ≤ 8 := bitLen_le8 _ h8
  have s : bitLen x = k + bitLen (x / D) := by
    subst hD
    rcases h with h | h
    · subst h; simp
    · exact bitLen_shift x k h
  rw [e, s, hK]
  generalize bitLen (x / D) = n at *
  have e2 : wrap64 (n : Int) = n := wrap64_in _ (by omega)
  rw [e2, wrap64_in _ (by omega)]
  omega
theorem div_div_cast (x a b : Nat) : ((x / a : Nat) : Int) / (b : Int) = ((x / (a * b) : Nat) : Int) := by rw [← Nat.div_div_eq_div_mul]; simp

end Go.Proofs.Ytnedcoomldmhhaa
