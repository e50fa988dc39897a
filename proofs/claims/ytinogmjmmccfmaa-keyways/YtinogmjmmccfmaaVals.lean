/- Contracts with their answers known. -/
import Derived.Test.YtinogmjmmccfmaaAwake
namespace Go.Proofs.Ytinogmjmmccfmaa
open Go.RowKit
set_option linter.unusedVariables false

/-- Contracts with their answers known, at whatever slice value. -/
theorem compare_v (xs ys : List Int) (r : Int) (hr : cmpK xs ys = r) (a b : Option Addr) (ca cb : Nat) (w : World) (ha : Rd w a xs) (hb : Rd w b ys) :
    Calls Try.prog 16 #[.slice a xs.length ca, .slice b ys.length cb] w fun e w' => e = .returned (.int .i64 r) ∧ Below w.heap.size w w' := by
  have := compare_b a b xs ys ca cb w ha hb
  rwa [hr] at this
theorem begins_v (xs ys : List Int) (r : Bool) (hr : ((common xs ys : Int) == (ys.length : Int)) = r) (a b : Option Addr) (ca cb : Nat) (w : World) (ha : Rd w a xs) (hb : Rd w b ys) :
    Calls Try.prog 24 #[.slice a xs.length ca, .slice b ys.length cb] w fun e w' => e = .returned (.bool r) ∧ Below w.heap.size w w' := by
  have := begins_b a b xs ys ca cb w ha hb
  rwa [hr] at this
theorem least_v (a : Option Addr) (xs : List Int) (ca : Nat) (hx : IsBytes xs) (hn : xs.length ≤ 100000000) (w : World) (ha : Rd w a xs) :
    Calls Try.prog 13 #[.slice a xs.length ca] w fun e w' => e = .returned (.slice (some ⟨w.heap.size, 0, none⟩) (xs ++ [0]).length (xs ++ [0]).length) ∧ Rd w' (some ⟨w.heap.size, 0, none⟩) (xs ++ [0]) ∧ Below w.heap.size w w' := by
  refine (least_any a xs ca w ha hn).mono ?_
  rintro e w' ⟨h1, h2, h3, h4⟩
  refine ⟨by rw [h1]; simp, blk_rd h2 (fun x hm => ?_) (by unfold maxLen; simp; omega), h3⟩
  simp only [List.mem_append, List.mem_singleton] at hm
  rcases hm with hm | rfl
  · exact hx x hm
  · omega

/-- A number, brought below m. -/
def lowK (x m : Int) : Int := x % 18446744073709551616 % m
theorem lowK_range (x m : Int) (h : 0 < m) : 0 ≤ lowK x m ∧ lowK x m < m := ⟨Int.emod_nonneg _ (by omega), Int.emod_lt_of_pos _ h⟩

theorem common_v (xs ys : List Int) (r : Nat) (hr : common xs ys = r) (a b : Option Addr) (ca cb : Nat) (w : World) (ha : Rd w a xs) (hb : Rd w b ys) :
    Calls Try.prog 18 #[.slice a xs.length ca, .slice b ys.length cb] w fun e w' => e = .returned (.int .i64 r) ∧ Below w.heap.size w w' := by
  have := common_b a b xs ys ca cb w ha hb
  rwa [hr] at this
theorem differ_v (xs ys : List Int) (r : Int) (hr : differK xs ys = r) (hs : xs.length ≤ 1000000) (a b : Option Addr) (ca cb : Nat) (w : World) (ha : Rd w a xs) (hb : Rd w b ys) :
    Calls Try.prog 22 #[.slice a xs.length ca, .slice b ys.length cb] w fun e w' => e = .returned (.int .i64 r) ∧ Below w.heap.size w w' := by
  have := differ_b a b xs ys ca cb w ha hb hs
  rwa [hr] at this

theorem low_is (x m : Int) (hm : 0 < m) (hm1 : m ≤ 9223372036854775807) : wrap64 ((IntKind.u64.wrap x).tmod m) = lowK x m := by
  have h := lowK_range x m hm
  have e : (IntKind.u64.wrap x).tmod m = lowK x m := by
    rw [IntKind.wrap_u64, Int.tmod_eq_emod_of_nonneg (Int.emod_nonneg _ (by decide))]
    rfl
  rw [e, wrap64_in _ (by omega)]

set_option maxHeartbeats 400000 in
theorem low_any (x m : Int) (h0 : -9223372036854775808 ≤ x) (h1 : x ≤ 9223372036854775807) (hm : 0 < m) (hm1 : m ≤ 9223372036854775807) (w : World) :
    Calls Try.prog 30 #[.int .i64 x, .int .i64 m] w fun e w' => e = .returned (.int .i64 (lowK x m)) ∧ Below w.heap.size w w' := by
  go_enter Try.func30, Try.ntmps30
  go_wp2
  go_ret
  exact ⟨ret_int (low_is x m hm hm1), Below.refl _ _⟩

end Go.Proofs.Ytinogmjmmccfmaa
