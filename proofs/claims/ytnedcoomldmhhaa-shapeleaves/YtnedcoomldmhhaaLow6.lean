/- Low, Long. -/
import Derived.Test.YtnedcoomldmhhaaByCalls
namespace Go.Proofs.Ytnedcoomldmhhaa
set_option maxRecDepth 20000
open Go.RowKit
set_option linter.unusedVariables false
set_option linter.unusedSimpArgs false

def lowK (x m : Int) : Int := x % 18446744073709551616 % m
theorem lowK_range (x m : Int) (h : 0 < m) : 0 ≤ lowK x m ∧ lowK x m < m := ⟨Int.emod_nonneg _ (by omega), Int.emod_lt_of_pos _ h⟩
theorem low_is (x m : Int) (hm : 0 < m) (hm1 : m ≤ 9223372036854775807) : wrap64 ((IntKind.u64.wrap x).tmod m) = lowK x m := by
  have h := lowK_range x m hm
  have e : (IntKind.u64.wrap x).tmod m = lowK x m := by
    rw [IntKind.wrap_u64, Int.tmod_eq_emod_of_nonneg (Int.emod_nonneg _ (by decide))]
    rfl
  rw [e, wrap64_in _ (by omega)]
set_option maxHeartbeats 400000 in
theorem low_any (x m : Int) (h0 : -9223372036854775808 ≤ x) (h1 : x ≤ 9223372036854775807) (hm : 0 < m) (hm1 : m ≤ 9223372036854775807) (w : World) :
    Calls Try.prog 12 #[.int .i64 x, .int .i64 m] w fun e w' => e = .returned (.int .i64 (lowK x m)) ∧ w' = w := by
  go_enter Try.func12, Try.ntmps12
  go_wp2
  go_ret
  exact ⟨ret_int (low_is x m hm hm1), rfl⟩
/-- Low, its answer a natural number. -/
theorem low_nat (x : Int) (m : Nat) (h0 : -9223372036854775808 ≤ x) (h1 : x ≤ 9223372036854775807) (hm : 0 < m) (hm1 : m ≤ 1000000) : ∃ k : Nat, k < m ∧ k = (lowK x m).toNat ∧ ∀ w, Calls Try.prog 12 #[.int .i64 x, .int .i64 (m : Int)] w fun e w' => e = .returned (.int .i64 (k : Int)) ∧ w' = w := by
  have h := lowK_range x m (by omega)
  refine ⟨(lowK x m).toNat, by omega, rfl, fun w => ?_⟩
  refine (low_any x m h0 h1 (by omega) (by omega) w).mono ?_
  rintro e w' ⟨rfl, rfl⟩
  exact ⟨ret_int (by omega), rfl⟩

theorem wf_i64 {a : Int} (h : (Lit.int .i64 a).wf = true) : -9223372036854775808 ≤ a ∧ a ≤ 9223372036854775807 := by
  have e1 : IntKind.i64.min = -9223372036854775808 := by decide
  have e2 : IntKind.i64.max = 9223372036854775807 := by decide
  simp [Lit.wf, e1, e2] at h
  omega
theorem wf_u64 {a : Int} (h : (Lit.int .u64 a).wf = true) : 0 ≤ a ∧ a ≤ 18446744073709551615 := by
  have e1 : IntKind.u64.min = 0 := by decide
  have e2 : IntKind.u64.max = 18446744073709551615 := by decide
  simp [Lit.wf, e1, e2] at h
  omega
theorem wf_u32 {a : Int} (h : (Lit.int .u32 a).wf = true) : 0 ≤ a ∧ a ≤ 4294967295 := by
  have e1 : IntKind.u32.min = 0 := by decide
  have e2 : IntKind.u32.max = 4294967295 := by decide
  simp [Lit.wf, e1, e2] at h
  omega
/-- n bytes 'x', the last one b. -/
def longK (n : Nat) (b : Int) : List Int := (List.replicate n 120).set (n - 1) b
theorem longK_length (n : Nat) (b : Int) : (longK n b).length = n := by simp [longK]

theorem u8s_snoc (n : Nat) : u8s (List.replicate n 120) ++ [Value.int .u8 120] = u8s (List.replicate (n + 1) 120) := by
  simp [u8s, List.replicate_succ']

theorem longK_bytes (n : Nat) (b : Int) (hb : 0 ≤ b ∧ b ≤ 255) : IsBytes (longK n b) := by
  intro x hx
  rcases List.mem_or_eq_of_mem_set hx with h | h
  · simp at h; omega
  · omega


end Go.Proofs.Ytnedcoomldmhhaa
