/- Mask.With and Mask.Without. Written by tools/genmask.py. -/
import Derived.Test.YtmogjhljmljpfaaDoorMask
import Derived.Deep.RegionWith
namespace Go.Proofs.YtmogjhljmljpfaaDoor
set_option maxRecDepth 20000
open Go.RowKit

/-- A mask with one byte more, one less. -/
def wth (m : List Nat) (b : Nat) : List Nat := m.set (b / 64) (m.getD (b / 64) 0 ||| 2 ^ (b % 64))
def wo (m : List Nat) (b : Nat) : List Nat := m.set (b / 64) (m.getD (b / 64) 0 &&& (18446744073709551615 - 2 ^ (b % 64)))

set_option maxHeartbeats 2000000 in
theorem with_four (x0 x1 x2 x3 : Nat) (h0 : x0 < 18446744073709551616) (h1 : x1 < 18446744073709551616) (h2 : x2 < 18446744073709551616) (h3 : x3 < 18446744073709551616) (b : Nat) (hb : b < 256) (w : World) :
    Calls Tryd.prog 26 #[mv [x0, x1, x2, x3], .int .u8 b] w fun e w' => e = .returned (mv (wth [x0, x1, x2, x3] b)) ∧ Below w.heap.size w w' := by
  obtain hq | hq | hq | hq : b / 64 = 0 ∨ b / 64 = 1 ∨ b / 64 = 2 ∨ b / 64 = 3 := by omega
  · have h4 : (b : Int) / 64 = 0 := by omega
    have h5 : IntKind.u8.wrap 0 = 0 := rfl
    have HA := hide (or_bit x0 (b % 64) h0 (Nat.mod_lt _ (by decide)))
    simp only [wth, mv, u64s, List.map_cons, List.map_nil, hq, List.set_cons_zero, List.getD_cons_zero]
    clear h0 h1 h2 h3
    go_enter Tryd.func26, Tryd.ntmps26
    go_wp2
    go_region_with (go_at_call 40; refine (bit_any _ hb _).mono ?_; rintro e w5 ⟨rfl, rfl⟩)
    all_goals (
      go_wp2
      refine bodyPost_ret (v := .agg #[Value.int .u64 ((x0 ||| 2 ^ (b % 64) : Nat) : Int), Value.int .u64 ((x1 : Nat) : Int), Value.int .u64 ((x2 : Nat) : Int), Value.int .u64 ((x3 : Nat) : Int)]) ?_ rfl ⟨rfl, ?_⟩
      · rw [← HA.out]
        simp [results, Tryd.results26, go_sem]
      · exact Below.drew (Below.alloc (Below.alloc (Below.refl _ _) (Nat.le_refl _) _) (by simp) _))
  · have h4 : (b : Int) / 64 = 1 := by omega
    have h5 : IntKind.u8.wrap 1 = 1 := rfl
    have HA := hide (or_bit x1 (b % 64) h1 (Nat.mod_lt _ (by decide)))
    simp only [wth, mv, u64s, List.map_cons, List.map_nil, hq, List.set_cons_zero, List.getD_cons_zero, List.set_cons_succ, List.getD_cons_succ]
    clear h0 h1 h2 h3
    go_enter Tryd.func26, Tryd.ntmps26
    go_wp2
    go_region_with (go_at_call 40; refine (bit_any _ hb _).mono ?_; rintro e w5 ⟨rfl, rfl⟩)
    all_goals (
      go_wp2
      refine bodyPost_ret (v := .agg #[Value.int .u64 ((x0 : Nat) : Int), Value.int .u64 ((x1 ||| 2 ^ (b % 64) : Nat) : Int), Value.int .u64 ((x2 : Nat) : Int), Value.int .u64 ((x3 : Nat) : Int)]) ?_ rfl ⟨rfl, ?_⟩
      · rw [← HA.out]
        simp [results, Tryd.results26, go_sem]
      · exact Below.drew (Below.alloc (Below.alloc (Below.refl _ _) (Nat.le_refl _) _) (by simp) _))
  · have h4 : (b : Int) / 64 = 2 := by omega
    have h5 : IntKind.u8.wrap 2 = 2 := rfl
    have HA := hide (or_bit x2 (b % 64) h2 (Nat.mod_lt _ (by decide)))
    simp only [wth, mv, u64s, List.map_cons, List.map_nil, hq, List.set_cons_zero, List.getD_cons_zero, List.set_cons_succ, List.getD_cons_succ]
    clear h0 h1 h2 h3
    go_enter Tryd.func26, Tryd.ntmps26
    go_wp2
    go_region_with (go_at_call 40; refine (bit_any _ hb _).mono ?_; rintro e w5 ⟨rfl, rfl⟩)
    all_goals (
      go_wp2
      refine bodyPost_ret (v := .agg #[Value.int .u64 ((x0 : Nat) : Int), Value.int .u64 ((x1 : Nat) : Int), Value.int .u64 ((x2 ||| 2 ^ (b % 64) : Nat) : Int), Value.int .u64 ((x3 : Nat) : Int)]) ?_ rfl ⟨rfl, ?_⟩
      · rw [← HA.out]
        simp [results, Tryd.results26, go_sem]
      · exact Below.drew (Below.alloc (Below.alloc (Below.refl _ _) (Nat.le_refl _) _) (by simp) _))
  · have h4 : (b : Int) / 64 = 3 := by omega
    have h5 : IntKind.u8.wrap 3 = 3 := rfl
    have HA := hide (or_bit x3 (b % 64) h3 (Nat.mod_lt _ (by decide)))
    simp only [wth, mv, u64s, List.map_cons, List.map_nil, hq, List.set_cons_zero, List.getD_cons_zero, List.set_cons_succ, List.getD_cons_succ]
    clear h0 h1 h2 h3
    go_enter Tryd.func26, Tryd.ntmps26
    go_wp2
    go_region_with (go_at_call 40; refine (bit_any _ hb _).mono ?_; rintro e w5 ⟨rfl, rfl⟩)
    all_goals (
      go_wp2
      refine bodyPost_ret (v := .agg #[Value.int .u64 ((x0 : Nat) : Int), Value.int .u64 ((x1 : Nat) : Int), Value.int .u64 ((x2 : Nat) : Int), Value.int .u64 ((x3 ||| 2 ^ (b % 64) : Nat) : Int)]) ?_ rfl ⟨rfl, ?_⟩
      · rw [← HA.out]
        simp [results, Tryd.results26, go_sem]
      · exact Below.drew (Below.alloc (Below.alloc (Below.refl _ _) (Nat.le_refl _) _) (by simp) _))

set_option maxHeartbeats 2000000 in
theorem without_four (x0 x1 x2 x3 : Nat) (h0 : x0 < 18446744073709551616) (h1 : x1 < 18446744073709551616) (h2 : x2 < 18446744073709551616) (h3 : x3 < 18446744073709551616) (b : Nat) (hb : b < 256) (w : World) :
    Calls Tryd.prog 30 #[mv [x0, x1, x2, x3], .int .u8 b] w fun e w' => e = .returned (mv (wo [x0, x1, x2, x3] b)) ∧ Below w.heap.size w w' := by
  obtain hq | hq | hq | hq : b / 64 = 0 ∨ b / 64 = 1 ∨ b / 64 = 2 ∨ b / 64 = 3 := by omega
  · have h4 : (b : Int) / 64 = 0 := by omega
    have h5 : IntKind.u8.wrap 0 = 0 := rfl
    have HA := hide (andNot_bit x0 (b % 64) h0 (Nat.mod_lt _ (by decide)))
    simp only [wo, mv, u64s, List.map_cons, List.map_nil, hq, List.set_cons_zero, List.getD_cons_zero]
    clear h0 h1 h2 h3
    go_enter Tryd.func30, Tryd.ntmps30
    go_wp2
    go_region_with (go_at_call 40; refine (bit_any _ hb _).mono ?_; rintro e w5 ⟨rfl, rfl⟩)
    all_goals (
      go_wp2
      refine bodyPost_ret (v := .agg #[Value.int .u64 ((x0 &&& (18446744073709551615 - 2 ^ (b % 64)) : Nat) : Int), Value.int .u64 ((x1 : Nat) : Int), Value.int .u64 ((x2 : Nat) : Int), Value.int .u64 ((x3 : Nat) : Int)]) ?_ rfl ⟨rfl, ?_⟩
      · rw [← HA.out]
        simp [results, Tryd.results30, go_sem]
      · exact Below.drew (Below.alloc (Below.alloc (Below.refl _ _) (Nat.le_refl _) _) (by simp) _))
  · have h4 : (b : Int) / 64 = 1 := by omega
    have h5 : IntKind.u8.wrap 1 = 1 := rfl
    have HA := hide (andNot_bit x1 (b % 64) h1 (Nat.mod_lt _ (by decide)))
    simp only [wo, mv, u64s, List.map_cons, List.map_nil, hq, List.set_cons_zero, List.getD_cons_zero, List.set_cons_succ, List.getD_cons_succ]
    clear h0 h1 h2 h3
    go_enter Tryd.func30, Tryd.ntmps30
    go_wp2
    go_region_with (go_at_call 40; refine (bit_any _ hb _).mono ?_; rintro e w5 ⟨rfl, rfl⟩)
    all_goals (
      go_wp2
      refine bodyPost_ret (v := .agg #[Value.int .u64 ((x0 : Nat) : Int), Value.int .u64 ((x1 &&& (18446744073709551615 - 2 ^ (b % 64)) : Nat) : Int), Value.int .u64 ((x2 : Nat) : Int), Value.int .u64 ((x3 : Nat) : Int)]) ?_ rfl ⟨rfl, ?_⟩
      · rw [← HA.out]
        simp [results, Tryd.results30, go_sem]
      · exact Below.drew (Below.alloc (Below.alloc (Below.refl _ _) (Nat.le_refl _) _) (by simp) _))
  · have h4 : (b : Int) / 64 = 2 := by omega
    have h5 : IntKind.u8.wrap 2 = 2 := rfl
    have HA := hide (andNot_bit x2 (b % 64) h2 (Nat.mod_lt _ (by decide)))
    simp only [wo, mv, u64s, List.map_cons, List.map_nil, hq, List.set_cons_zero, List.getD_cons_zero, List.set_cons_succ, List.getD_cons_succ]
    clear h0 h1 h2 h3
    go_enter Tryd.func30, Tryd.ntmps30
    go_wp2
    go_region_with (go_at_call 40; refine (bit_any _ hb _).mono ?_; rintro e w5 ⟨rfl, rfl⟩)
    all_goals (
      go_wp2
      refine bodyPost_ret (v := .agg #[Value.int .u64 ((x0 : Nat) : Int), Value.int .u64 ((x1 : Nat) : Int), Value.int .u64 ((x2 &&& (18446744073709551615 - 2 ^ (b % 64)) : Nat) : Int), Value.int .u64 ((x3 : Nat) : Int)]) ?_ rfl ⟨rfl, ?_⟩
      · rw [← HA.out]
        simp [results, Tryd.results30, go_sem]
      · exact Below.drew (Below.alloc (Below.alloc (Below.refl _ _) (Nat.le_refl _) _) (by simp) _))
  · have h4 : (b : Int) / 64 = 3 := by omega
    have h5 : IntKind.u8.wrap 3 = 3 := rfl
    have HA := hide (andNot_bit x3 (b % 64) h3 (Nat.mod_lt _ (by decide)))
    simp only [wo, mv, u64s, List.map_cons, List.map_nil, hq, List.set_cons_zero, List.getD_cons_zero, List.set_cons_succ, List.getD_cons_succ]
    clear h0 h1 h2 h3
    go_enter Tryd.func30, Tryd.ntmps30
    go_wp2
    go_region_with (go_at_call 40; refine (bit_any _ hb _).mono ?_; rintro e w5 ⟨rfl, rfl⟩)
    all_goals (
      go_wp2
      refine bodyPost_ret (v := .agg #[Value.int .u64 ((x0 : Nat) : Int), Value.int .u64 ((x1 : Nat) : Int), Value.int .u64 ((x2 : Nat) : Int), Value.int .u64 ((x3 &&& (18446744073709551615 - 2 ^ (b % 64)) : Nat) : Int)]) ?_ rfl ⟨rfl, ?_⟩
      · rw [← HA.out]
        simp [results, Tryd.results30, go_sem]
      · exact Below.drew (Below.alloc (Below.alloc (Below.refl _ _) (Nat.le_refl _) _) (by simp) _))

end Go.Proofs.YtmogjhljmljpfaaDoor
