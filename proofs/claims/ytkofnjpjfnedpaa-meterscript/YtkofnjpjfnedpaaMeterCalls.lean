/- The calls of package meter, of a counter that is there, that is none, and of a nil meter. -/
import Derived.Test.YtkofnjpjfnedpaaMeter
namespace Go.Proofs.Ytkofnjpjfnedpaa
open Go.RowKit Go.RwLone
set_option linter.unusedVariables false

set_option maxHeartbeats 1600000 in
theorem add_in (g k : Nat) (n : Int) (cs : List Int) (w : World) (hb : Mt w g 0 0 cs) (hl : cs.length = 12) (hk : k < 12) :
    Calls Try.prog 9 #[.pointer (some ⟨g, 0, none⟩), .int .i64 k, .int .i64 n] w fun e w' =>
      e = .returned (.int .i64 (wrap64 (cAt cs k + n))) ∧ Mt w' g 0 0 (cs.set k (wrap64 (cAt cs k + n))) ∧ Only g w w' := by
  have hki : decide ((0 : Int) ≤ k) = true := by simp
  have hki2 : decide ((k : Int) < 12) = true := by simp; omega
  have B := hide hb
  clear hb
  go_enter_defers Try.func9, Try.ntmps9
  go_wp2_with (go_at_call 21; refine (has_any _ _ _).mono ?_; rintro e w' ⟨rfl, rfl⟩)
  refine (rlock_m g cs _ B.out).mono ?_
  rintro e w1 ⟨rfl, hb1, ho1⟩
  have B1 := hide hb1
  have O1 := hide ho1
  clear hb1 ho1
  go_wp2_with fail
  refine (iadd_m g k 0 1 n cs w1 B1.out (by omega)).mono ?_
  rintro e w2 ⟨rfl, hb2, ho2⟩
  have B2 := hide hb2
  have O2 := hide ho2
  clear hb2 ho2
  go_wp2
  -- the door: the readers' lock is given back
  refine leaves_cons (f := 23) (args := #[.pointer (some ⟨g, 0, none⟩)]) (by simp) (by simp [go_sem]) ?_
  refine (runlock_m g _ .returning _ B2.out).mono ?_
  rintro e u' w9 ⟨rfl, rfl, hb9, ho9⟩
  exact ⟨_, results_tmp rfl _ _ _, rfl, hb9, (O1.out.trans O2.out).trans ho9⟩

set_option maxHeartbeats 1600000 in
theorem get_in (g k : Nat) (cs : List Int) (w : World) (hb : Mt w g 0 0 cs) (hl : cs.length = 12) (hk : k < 12) :
    Calls Try.prog 17 #[.pointer (some ⟨g, 0, none⟩), .int .i64 k] w fun e w' =>
      e = .returned (.int .i64 (cAt cs k)) ∧ Mt w' g 0 0 cs ∧ Only g w w' := by
  have hki : decide ((0 : Int) ≤ k) = true := by simp
  have hki2 : decide ((k : Int) < 12) = true := by simp; omega
  have B := hide hb
  clear hb
  go_enter_defers Try.func17, Try.ntmps17
  go_wp2_with (go_at_call 21; refine (has_any _ _ _).mono ?_; rintro e w' ⟨rfl, rfl⟩)
  refine (rlock_m g cs _ B.out).mono ?_
  rintro e w1 ⟨rfl, hb1, ho1⟩
  have B1 := hide hb1
  have O1 := hide ho1
  clear hb1 ho1
  go_wp2_with fail
  refine (iload_m g k 0 1 cs w1 B1.out (by omega)).mono ?_
  rintro e w2 ⟨rfl, rfl⟩
  go_wp2
  -- the door: the readers' lock is given back
  refine leaves_cons (f := 23) (args := #[.pointer (some ⟨g, 0, none⟩)]) (by simp) (by simp [go_sem]) ?_
  refine (runlock_m g _ .returning _ B1.out).mono ?_
  rintro e u' w9 ⟨rfl, rfl, hb9, ho9⟩
  exact ⟨_, results_tmp rfl _ _ _, rfl, hb9, O1.out.trans ho9⟩

set_option maxHeartbeats 1600000 in
theorem swap_in (g k : Nat) (old n : Int) (cs : List Int) (w : World) (hb : Mt w g 0 0 cs) (hl : cs.length = 12) (hk : k < 12) :
    Calls Try.prog 13 #[.pointer (some ⟨g, 0, none⟩), .int .i64 k, .int .i64 old, .int .i64 n] w fun e w' =>
      e = .returned (.bool (isAt cs k old)) ∧ Mt w' g 0 0 (swapped cs k old n) ∧ Only g w w' := by
  have hki : decide ((0 : Int) ≤ k) = true := by simp
  have hki2 : decide ((k : Int) < 12) = true := by simp; omega
  have B := hide hb
  clear hb
  go_enter_defers Try.func13, Try.ntmps13
  go_wp2_with (go_at_call 21; refine (has_any _ _ _).mono ?_; rintro e w' ⟨rfl, rfl⟩)
  refine (rlock_m g cs _ B.out).mono ?_
  rintro e w1 ⟨rfl, hb1, ho1⟩
  have B1 := hide hb1
  have O1 := hide ho1
  clear hb1 ho1
  go_wp2_with fail
  refine (icas_m g k 0 1 old n cs w1 B1.out (by omega)).mono ?_
  rintro e w2 ⟨rfl, hb2, ho2⟩
  have B2 := hide hb2
  have O2 := hide ho2
  clear hb2 ho2
  go_wp2
  -- the door: the readers' lock is given back
  refine leaves_cons (f := 23) (args := #[.pointer (some ⟨g, 0, none⟩)]) (by simp) (by simp [go_sem]) ?_
  refine (runlock_m g _ .returning _ B2.out).mono ?_
  rintro e u' w9 ⟨rfl, rfl, hb9, ho9⟩
  exact ⟨_, results_tmp rfl _ _ _, rfl, hb9, (O1.out.trans O2.out).trans ho9⟩

set_option maxHeartbeats 1600000 in
theorem most_in (g k : Nat) (n : Int) (cs : List Int) (w : World) (hb : Mt w g 0 0 cs) (hl : cs.length = 12) (hk : k < 12) :
    Calls Try.prog 11 #[.pointer (some ⟨g, 0, none⟩), .int .i64 k, .int .i64 n] w fun e w' =>
      e = .returned (.int .i64 (mostIs cs k n)) ∧ Mt w' g 0 0 (cs.set k (mostIs cs k n)) ∧ Only g w w' := by
  have hki : decide ((0 : Int) ≤ k) = true := by simp
  have hki2 : decide ((k : Int) < 12) = true := by simp; omega
  have B := hide hb
  clear hb
  go_enter_defers Try.func11, Try.ntmps11
  go_wp2_with (go_at_call 21; refine (has_any _ _ _).mono ?_; rintro e w' ⟨rfl, rfl⟩)
  refine (rlock_m g cs _ B.out).mono ?_
  rintro e w1 ⟨rfl, hb1, ho1⟩
  have B1 := hide hb1
  have O1 := hide ho1
  clear hb1 ho1
  go_wp2_with fail
  refine wp_loop_rounds 1 ?_
  rw [rounds_succ]
  go_wp2_with fail
  refine (iload_m g k 0 1 cs w1 B1.out (by omega)).mono ?_
  rintro e w2 ⟨rfl, rfl⟩
  by_cases hn : n ≤ cAt cs k
  · go_wp2_with fail
    -- the door: the readers' lock is given back
    refine leaves_cons (f := 23) (args := #[.pointer (some ⟨g, 0, none⟩)]) (by simp) (by simp [go_sem]) ?_
    refine (runlock_m g _ .returning _ B1.out).mono ?_
    rintro e u' w9 ⟨rfl, rfl, hb9, ho9⟩
    refine ⟨_, results_tmp rfl _ _ _, ?_, ?_, O1.out.trans ho9⟩
    · rw [mostIs, if_pos hn]; rfl
    · rw [mostIs, if_pos hn, set_same cs k (by omega)]; exact hb9
  · go_wp2_with fail
    refine (icas_m g k 0 1 (cAt cs k) n cs _ B1.out (by omega)).mono ?_
    rintro e w3 ⟨rfl, hb3, ho3⟩
    have hself : isAt cs k (cAt cs k) = true := by simp [isAt]
    rw [hself]
    rw [swapped, if_pos rfl] at hb3
    have B3 := hide hb3
    have O3 := hide ho3
    clear hb3 ho3
    go_wp2
    refine leaves_cons (f := 23) (args := #[.pointer (some ⟨g, 0, none⟩)]) (by simp) (by simp [go_sem]) ?_
    refine (runlock_m g _ .returning _ B3.out).mono ?_
    rintro e u' w9 ⟨rfl, rfl, hb9, ho9⟩
    refine ⟨_, results_tmp rfl _ _ _, ?_, ?_, (O1.out.trans O3.out).trans ho9⟩
    · rw [mostIs, if_neg (by omega)]; rfl
    · rw [mostIs, if_neg (by omega)]; exact hb9

theorem add_out (p : Addr) (i : Int) (n : Int) (w : World) (hi : ¬ (0 ≤ i ∧ i < 12)) :
    Calls Try.prog 9 #[.pointer (some p), .int .i64 i, .int .i64 n] w fun e w' => e = .returned (.int .i64 0) ∧ w' = w := by
  have hh : (decide (0 ≤ i) && decide (i < 12)) = false := by simp; omega
  go_enter_defers Try.func9, Try.ntmps9
  go_wp2_with (go_at_call 21; refine (has_any _ _ _).mono ?_; rintro e w' ⟨rfl, rfl⟩; rw [hh])
  exact ⟨_, results_tmp rfl _ _ _, rfl, rfl⟩
theorem add_nil (i : Int) (n : Int) (w : World) :
    Calls Try.prog 9 #[.pointer none, .int .i64 i, .int .i64 n] w fun e w' => e = .returned (.int .i64 0) ∧ w' = w := by
  go_enter_defers Try.func9, Try.ntmps9
  go_wp2_with (go_at_call 21; refine (has_none _ _).mono ?_; rintro e w' ⟨rfl, rfl⟩)
  exact ⟨_, results_tmp rfl _ _ _, rfl, rfl⟩

theorem get_out (p : Addr) (i : Int) (w : World) (hi : ¬ (0 ≤ i ∧ i < 12)) :
    Calls Try.prog 17 #[.pointer (some p), .int .i64 i] w fun e w' => e = .returned (.int .i64 0) ∧ w' = w := by
  have hh : (decide (0 ≤ i) && decide (i < 12)) = false := by simp; omega
  go_enter_defers Try.func17, Try.ntmps17
  go_wp2_with (go_at_call 21; refine (has_any _ _ _).mono ?_; rintro e w' ⟨rfl, rfl⟩; rw [hh])
  exact ⟨_, results_tmp rfl _ _ _, rfl, rfl⟩
theorem get_nil (i : Int) (w : World) :
    Calls Try.prog 17 #[.pointer none, .int .i64 i] w fun e w' => e = .returned (.int .i64 0) ∧ w' = w := by
  go_enter_defers Try.func17, Try.ntmps17
  go_wp2_with (go_at_call 21; refine (has_none _ _).mono ?_; rintro e w' ⟨rfl, rfl⟩)
  exact ⟨_, results_tmp rfl _ _ _, rfl, rfl⟩

theorem most_out (p : Addr) (i : Int) (n : Int) (w : World) (hi : ¬ (0 ≤ i ∧ i < 12)) :
    Calls Try.prog 11 #[.pointer (some p), .int .i64 i, .int .i64 n] w fun e w' => e = .returned (.int .i64 0) ∧ w' = w := by
  have hh : (decide (0 ≤ i) && decide (i < 12)) = false := by simp; omega
  go_enter_defers Try.func11, Try.ntmps11
  go_wp2_with (go_at_call 21; refine (has_any _ _ _).mono ?_; rintro e w' ⟨rfl, rfl⟩; rw [hh])
  exact ⟨_, results_tmp rfl _ _ _, rfl, rfl⟩
theorem most_nil (i : Int) (n : Int) (w : World) :
    Calls Try.prog 11 #[.pointer none, .int .i64 i, .int .i64 n] w fun e w' => e = .returned (.int .i64 0) ∧ w' = w := by
  go_enter_defers Try.func11, Try.ntmps11
  go_wp2_with (go_at_call 21; refine (has_none _ _).mono ?_; rintro e w' ⟨rfl, rfl⟩)
  exact ⟨_, results_tmp rfl _ _ _, rfl, rfl⟩

theorem swap_out (p : Addr) (i : Int) (old n : Int) (w : World) (hi : ¬ (0 ≤ i ∧ i < 12)) :
    Calls Try.prog 13 #[.pointer (some p), .int .i64 i, .int .i64 old, .int .i64 n] w fun e w' => e = .returned (.bool false) ∧ w' = w := by
  have hh : (decide (0 ≤ i) && decide (i < 12)) = false := by simp; omega
  go_enter_defers Try.func13, Try.ntmps13
  go_wp2_with (go_at_call 21; refine (has_any _ _ _).mono ?_; rintro e w' ⟨rfl, rfl⟩; rw [hh])
  exact ⟨_, results_tmp rfl _ _ _, rfl, rfl⟩
theorem swap_nil (i : Int) (old n : Int) (w : World) :
    Calls Try.prog 13 #[.pointer none, .int .i64 i, .int .i64 old, .int .i64 n] w fun e w' => e = .returned (.bool false) ∧ w' = w := by
  go_enter_defers Try.func13, Try.ntmps13
  go_wp2_with (go_at_call 21; refine (has_none _ _).mono ?_; rintro e w' ⟨rfl, rfl⟩)
  exact ⟨_, results_tmp rfl _ _ _, rfl, rfl⟩

theorem all_nil (w : World) : Calls Try.prog 16 #[.pointer none] w fun e w' => e = .returned (.slice none 0 0) ∧ w' = w := by
  go_enter_defers Try.func16, Try.ntmps16
  go_wp2
  exact ⟨_, results_tmp rfl _ _ _, rfl, rfl⟩
theorem reset_nil (w : World) : Calls Try.prog 15 #[.pointer none] w fun e w' => e = .returned (.tuple #[]) ∧ w' = w := by
  go_enter_defers Try.func15, Try.ntmps15
  go_wp2
  exact ⟨_, results_none rfl _ _ _, rfl, rfl⟩
end Go.Proofs.Ytkofnjpjfnedpaa
