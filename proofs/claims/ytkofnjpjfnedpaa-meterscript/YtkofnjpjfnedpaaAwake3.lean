/- What every program answers that is one: 'awake' of the statements on meters; and MeterNone. -/
import Derived.Test.YtkofnjpjfnedpaaMeterAll
namespace Go.Proofs.Ytkofnjpjfnedpaa
open Go.RowKit Go.RwLone
set_option linter.unusedVariables false

set_option maxHeartbeats 1600000 in
theorem awake_any (w : World) : Calls Try.prog 6 #[] w fun e w' => e = .returned (.bool true) ∧ Below w.heap.size w w' := by
  go_enter Try.func6, Try.ntmps6
  go_wp2_with (go_at_call 7; refine (new_any _).mono ?_; rintro e w' ⟨rfl, rfl⟩)
  have b0 := Blk.new w 61 (mcells (List.replicate 12 0)) _ rfl
  refine (add_in w.heap.size 3 2 (List.replicate 12 0) _ b0 rfl (by omega)).mono ?_
  rintro e w1 ⟨rfl, hb1, ho1⟩
  rw [show wrap64 (cAt (List.replicate 12 0) 3 + 2) = 2 from by simp [cAt, wrap64]] at *
  have B1 : Hid (Mt w1 w.heap.size 0 0 [0, 0, 0, 2, 0, 0, 0, 0, 0, 0, 0, 0]) := hb1
  have F1 : Hid (Below w.heap.size w w1) := ((Below.refl _ _).alloc (Nat.le_refl _) _).trans (ho1.below (Nat.le_refl _))
  clear hb1 ho1 b0
  go_wp2_with fail
  refine (most_in w.heap.size 3 1 _ _ B1.out rfl (by omega)).mono ?_
  rintro e w2 ⟨rfl, hb2, ho2⟩
  rw [show mostIs [0, 0, 0, 2, 0, 0, 0, 0, 0, 0, 0, 0] 3 1 = 2 from by decide] at *
  have B2 : Hid (Mt w2 w.heap.size 0 0 [0, 0, 0, 2, 0, 0, 0, 0, 0, 0, 0, 0]) := hb2
  have F2 : Hid (Below w.heap.size w w2) := F1.out.trans (ho2.below (Nat.le_refl _))
  clear hb2 ho2
  go_wp2_with fail
  refine (swap_in w.heap.size 3 2 9 _ _ B2.out rfl (by omega)).mono ?_
  rintro e w3 ⟨rfl, hb3, ho3⟩
  rw [show isAt [0, 0, 0, 2, 0, 0, 0, 0, 0, 0, 0, 0] 3 2 = true from by decide] at *
  have B3 : Hid (Mt w3 w.heap.size 0 0 [0, 0, 0, 9, 0, 0, 0, 0, 0, 0, 0, 0]) := hb3
  have F3 : Hid (Below w.heap.size w w3) := F2.out.trans (ho3.below (Nat.le_refl _))
  clear hb3 ho3
  go_wp2_with fail
  refine (swap_in w.heap.size 3 2 9 _ _ B3.out rfl (by omega)).mono ?_
  rintro e w4 ⟨rfl, hb4, ho4⟩
  rw [show isAt [0, 0, 0, 9, 0, 0, 0, 0, 0, 0, 0, 0] 3 2 = false from by decide] at *
  have B4 : Hid (Mt w4 w.heap.size 0 0 [0, 0, 0, 9, 0, 0, 0, 0, 0, 0, 0, 0]) := hb4
  have F4 : Hid (Below w.heap.size w w4) := F3.out.trans (ho4.below (Nat.le_refl _))
  clear hb4 ho4
  go_wp2_with fail
  refine (get_in w.heap.size 3 _ _ B4.out rfl (by omega)).mono ?_
  rintro e w5 ⟨rfl, hb5, ho5⟩
  rw [show cAt [0, 0, 0, 9, 0, 0, 0, 0, 0, 0, 0, 0] 3 = 9 from by decide] at *
  have B5 := hide hb5
  have F5 : Hid (Below w.heap.size w w5) := F4.out.trans (ho5.below (Nat.le_refl _))
  clear hb5 ho5
  go_wp2_with fail
  refine (add_out _ (-1) 5 _ (by omega)).mono ?_
  rintro e w6 ⟨rfl, rfl⟩
  go_wp2_with fail
  refine (all_any w.heap.size _ _ B5.out rfl).mono ?_
  rintro e w7 ⟨rfl, hb7, ho7⟩
  have F7 : Hid (Below w.heap.size w w7) := F5.out.trans (ho7.mono F5.out.size)
  clear hb7 ho7
  go_wp2
  go_ret
  exact ⟨rfl, F7.out⟩

set_option maxHeartbeats 1600000 in
theorem none_any (i n : Int) (w : World) : Calls Try.prog 4 #[.int .i64 i, .int .i64 n] w fun e w' => e = .returned (.bool true) ∧ Below w.heap.size w w' := by
  go_enter Try.func4, Try.ntmps4
  go_wp2_with (first
    | (go_at_call 15; refine (reset_nil _).mono ?_; rintro e w' ⟨rfl, rfl⟩)
    | (go_at_call 9; refine (add_nil _ _ _).mono ?_; rintro e w' ⟨rfl, rfl⟩)
    | (go_at_call 17; refine (get_nil _ _).mono ?_; rintro e w' ⟨rfl, rfl⟩)
    | (go_at_call 11; refine (most_nil _ _ _).mono ?_; rintro e w' ⟨rfl, rfl⟩)
    | (go_at_call 13; refine (swap_nil _ _ _ _).mono ?_; rintro e w' ⟨rfl, rfl⟩)
    | (go_at_call 16; refine (all_nil _).mono ?_; rintro e w' ⟨rfl, rfl⟩)
    | (go_at_call 6; refine (awake_any _).mono ?_; rintro e w' ⟨rfl, hw⟩))
  go_ret
  exact ⟨rfl, hw⟩
end Go.Proofs.Ytkofnjpjfnedpaa
