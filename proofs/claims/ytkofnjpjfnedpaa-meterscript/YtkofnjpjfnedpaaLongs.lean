/- What the statements on meters call beside: SameLongs, Low. -/
import Derived.Test.YtkofnjpjfnedpaaMeterAll
namespace Go.Proofs.Ytkofnjpjfnedpaa
open Go.RowKit
set_option linter.unusedVariables false

def lowK (x m : Int) : Int := x % 18446744073709551616 % m
theorem lowK_range (x m : Int) (h : 0 < m) : 0 ≤ lowK x m ∧ lowK x m < m := ⟨Int.emod_nonneg _ (by omega), Int.emod_lt_of_pos _ h⟩
theorem low_is (x m : Int) (hm : 0 < m) (hm1 : m ≤ 9223372036854775807) : wrap64 ((IntKind.u64.wrap x).tmod m) = lowK x m := by
  have h := lowK_range x m hm
  have e : (IntKind.u64.wrap x).tmod m = lowK x m := by
    rw [IntKind.wrap_u64, Int.tmod_eq_emod_of_nonneg (Int.emod_nonneg _ (by decide))]
    rfl
  rw [e, wrap64_in _ (by omega)]
set_option maxHeartbeats 400000 in
theorem low_any (x m : Int) (h0 : -9223372036854775808 ≤ x) (h1 : x ≤ 9223372036854775807) (hm : 0 < m) (hm1 : m ≤ 9223372036854775807) (w : World) :
    Calls Try.prog 20 #[.int .i64 x, .int .i64 m] w fun e w' => e = .returned (.int .i64 (lowK x m)) ∧ w' = w := by
  go_enter Try.func20, Try.ntmps20
  go_wp2
  go_ret
  exact ⟨ret_int (low_is x m hm hm1), rfl⟩

/-- Nothing has turned but how much was drawn. -/
def Still (w w' : World) : Prop := ∃ n, w' = w.drewN n
theorem Still.below {w w' : World} (h : Still w w') (B : Nat) : Below B w w' := by
  obtain ⟨n, rfl⟩ := h
  exact ⟨rfl, rfl, rfl, Nat.le_refl _, fun _ _ => rfl⟩
theorem Still.blk {w w' : World} (h : Still w w') {g : Nat} {e : TypeId} {cur : List Value} (b : Blk w g e cur) : Blk w' g e cur := by
  obtain ⟨n, rfl⟩ := h
  exact b
theorem Still.size {w w' : World} (h : Still w w') : w'.heap.size = w.heap.size := by
  obtain ⟨n, rfl⟩ := h
  rfl

set_option maxHeartbeats 800000 in
theorem same_any (ga gb : Nat) (ta tb : TypeId) (xs : List Int) (w : World) (ha : Blk w ga ta (i64s xs)) (hb : Blk w gb tb (i64s xs)) (hl : xs.length = 12) :
    Calls Try.prog 18 #[.slice (some ⟨ga, 0, none⟩) 12 12, .slice (some ⟨gb, 0, none⟩) 12 12] w fun e w' => e = .returned (.bool true) ∧ Still w w' := by
  have A := hide ha
  have B := hide hb
  clear ha hb
  go_enter Try.func18, Try.ntmps18
  go_wp2_with fail
  go_loopw [5] (fun v wr => ∃ k q : Nat, v = .int .i64 k ∧ k ≤ 12 ∧ wr = w.drewN q) (fun v _ => 12 - (intOf v).toNat)
  case atStart => exact ⟨0, 0, rfl, by omega, rfl⟩
  case round =>
    obtain ⟨k, q, rfl, hk, hwr⟩ := hrel
    by_cases hkn : k < 12
    · have h1 : wr.cell? ⟨ga, k, none⟩ = some (.int .i64 (cAt xs k)) := by rw [hwr]; exact (A.out.cell k).trans (i64s_get _ k (by omega))
      have h2 : wr.cell? ⟨gb, k, none⟩ = some (.int .i64 (cAt xs k)) := by rw [hwr]; exact (B.out.cell k).trans (i64s_get _ k (by omega))
      have HW := hide hwr
      clear hwr
      go_wp2
      go_quiet (fail)
      go_wp2
      go_roundw
      case measure => simp only [intOf]; omega
      case rel => exact ⟨k + 1, q + nq, by go_num, by omega, by rw [HW.out]; simp⟩
    · have HW := hide hwr
      clear hwr
      go_wp2
      go_ret
      exact ⟨rfl, q, HW.out⟩
end Go.Proofs.Ytkofnjpjfnedpaa
