/- The walk of KeyWays. -/
import Derived.Test.YtinogmjmmccfmaaLawThree
import Derived.Test.YtinogmjmmccfmaaVals
namespace Go.Proofs.Ytinogmjmmccfmaa
open Go.RowKit
set_option linter.unusedVariables false

set_option maxHeartbeats 2000000 in
theorem keyWays_n_l (a b c : Option Addr) (ws xs ys : List Int) (n : Int) (ca cb cc : Nat) (w : World) (ha : Rd w a ws) (hb : Rd w b xs) (hc : Rd w c ys) (h1 : ws.length ≤ 20) (h2 : xs.length ≤ 20) (h3 : ys.length ≤ 20)
    (hn0 : -9223372036854775808 ≤ n) (hn1 : n ≤ 9223372036854775807) (hd : differK xs ys < 0) (hN : lowK n (ws.length + xs.length + 1) < ws.length + xs.length) :
    Calls Try.prog 8 #[.slice a ws.length ca, .slice b xs.length cb, .slice c ys.length cc, .int .i64 n] w fun e w' => e = .returned (.bool true) ∧ Below w.heap.size w w' := by
  obtain ⟨v1, w1, ax, cX, w2, r1, r2, rx, f2, lX, mX⟩ := append2_u8 w a b ws xs ca cb ha hb (by omega)
  obtain ⟨v3, w3, ay, cY, w4, r3, r4, ry, f4, lY, mY⟩ := append2_u8 w2 a c ws ys ca cc (ha.below f2 (Nat.le_refl _)) (hc.below f2 (Nat.le_refl _)) (by omega)
  have F : Hid (Below w.heap.size w w4) := step (hide f2) f4
  have RA := hide (Rd.now (hide hb) F)
  have RB := hide (Rd.now (hide hc) F)
  have RX := hide (rx.below f4 (Nat.le_refl _))
  have RY := hide ry
  have hr := lowK_range n (ws.length + xs.length + 1) (by omega)
  obtain ⟨N, hNN⟩ : ∃ N : Nat, lowK n (ws.length + xs.length + 1) = N := ⟨(lowK n (ws.length + xs.length + 1)).toNat, by omega⟩
  have hNle : N ≤ ws.length + xs.length := by omega
  have LW := hide fun w' => low_any n (ws.length + xs.length + 1) hn0 hn1 (by omega) (by omega) w'
  rw [hNN] at LW
  have hNl : N < ws.length + xs.length := by omega
  have hla : (ws ++ xs).length = ws.length + xs.length := List.length_append
  have hlb : (ws ++ ys).length = ws.length + ys.length := List.length_append
  have ht : ((ws ++ xs).take N).length = N := by rw [List.length_take]; omega
  have lc := common_le xs ys
  have rc : -1 ≤ cmpK xs ys ∧ cmpK xs ys ≤ 1 := by have := cmpK_range xs ys; omega
  have rd : -1 ≤ differK xs ys ∧ differK xs ys ≤ 200 := by
    rcases differK_spec xs ys hb.1 hc.1 with ⟨_, h⟩ | ⟨j, _, h, _, h', _⟩ <;> omega
  have D1 := hide (differ_v xs ys _ rfl (by omega))
  have D2 := hide (differ_v (ws ++ xs) (ws ++ ys) (-1) (by rw [differK_app ws xs ys, if_pos hd]) (by omega))
  have C1 := hide (compare_v (ws ++ xs) (ws ++ ys) _ (cmpK_app ws xs ys))
  have C2 := hide (compare_v xs ys _ rfl)
  have K1 := hide (common_v (ws ++ xs) (ws ++ ys) _ (common_append ws xs ys))
  have K2 := hide (common_v xs ys _ rfl)
  have C3 := hide (compare_v ((ws ++ xs).take N) (ws ++ xs) (-1) (by rw [cmpK_take (ws ++ xs) N (by omega), if_pos (by omega)]))
  have K3 := hide (common_v ((ws ++ xs).take N) (ws ++ xs) _ (common_take (ws ++ xs) N (by omega)))
  have B1 := hide (begins_v (ws ++ xs) ((ws ++ xs).take N) true (by rw [common_comm, common_take (ws ++ xs) N (by omega), ht]; simp))
  have B2 := hide (begins_v ((ws ++ xs).take N) (ws ++ xs) false (by rw [common_take (ws ++ xs) N (by omega), hla]; simp; omega))
  rw [ht] at C3 K3 B1 B2
  have RT := hide (RX.out.take N)
  have e1 : ((N : Int) == ((ws ++ xs).length : Int)) = false := by simp; omega
  have hX : (ws ++ xs).length ≤ 40 := by omega
  have hX2 : N ≤ (ws ++ xs).length := by omega
  have hX3 : N < (ws ++ xs).length := by omega
  have HLW : Hid (∀ w', Calls Try.prog 30 #[.int .i64 n, .int .i64 (((ws ++ xs).length : Int) + 1)] w' fun e w'' => e = .returned (.int .i64 N) ∧ Below w'.heap.size w' w'') := by
    intro w'
    have h := LW.out w'
    rw [hla]
    exact h
  have e2 : ((((ws.length + common xs ys : Nat) : Int)) == (ws.length : Int) + (common xs ys : Int)) = true := by simp
  clear ha hb hc rx ry f2 f4 hNN hN ht hr LW hla hlb lY hNl hNle
  generalize differK xs ys = d at *
  generalize cmpK xs ys = cm at *
  generalize common xs ys = co at *
  generalize (ws ++ xs).take N = ts at *
  generalize ws ++ xs = xx at *
  generalize ws ++ ys = yy at *
  have LW := HLW
  go_enter Try.func8, Try.ntmps8
  go_wp2_with (first | (at_builtin; refine wpList_append_run rfl _ _ _ _ rfl _ _ _ _ rfl rfl r1 ?_) | (at_builtin; refine wpList_append_run rfl _ _ _ _ rfl _ _ _ _ rfl rfl r2 ?_) | (at_builtin; refine wpList_append_run rfl _ _ _ _ rfl _ _ _ _ rfl rfl r3 ?_) | (at_builtin; refine wpList_append_run rfl _ _ _ _ rfl _ _ _ _ rfl rfl r4 ?_))
  go_wp2_with fail
  refine (D1.out _ _ _ _ _ RA.out RB.out).mono ?_
  rintro e x1 ⟨rfl, k⟩
  replace F := step F k
  replace RA := hide (RA.out.below k (Nat.le_refl _))
  replace RB := hide (RB.out.below k (Nat.le_refl _))
  replace RX := hide (RX.out.below k (Nat.le_refl _))
  replace RY := hide (RY.out.below k (Nat.le_refl _))
  replace RT := hide (RT.out.below k (Nat.le_refl _))
  clear k
  go_wp2_with fail
  refine (LW.out _).mono ?_
  rintro e x2 ⟨rfl, k⟩
  replace F := step F k
  replace RA := hide (RA.out.below k (Nat.le_refl _))
  replace RB := hide (RB.out.below k (Nat.le_refl _))
  replace RX := hide (RX.out.below k (Nat.le_refl _))
  replace RY := hide (RY.out.below k (Nat.le_refl _))
  replace RT := hide (RT.out.below k (Nat.le_refl _))
  clear k
  go_wp2_with fail
  refine (C1.out _ _ _ _ _ RX.out RY.out).mono ?_
  rintro e x3 ⟨rfl, k⟩
  replace F := step F k
  replace RA := hide (RA.out.below k (Nat.le_refl _))
  replace RB := hide (RB.out.below k (Nat.le_refl _))
  replace RX := hide (RX.out.below k (Nat.le_refl _))
  replace RY := hide (RY.out.below k (Nat.le_refl _))
  replace RT := hide (RT.out.below k (Nat.le_refl _))
  clear k
  go_wp2_with fail
  refine (C2.out _ _ _ _ _ RA.out RB.out).mono ?_
  rintro e x4 ⟨rfl, k⟩
  replace F := step F k
  replace RA := hide (RA.out.below k (Nat.le_refl _))
  replace RB := hide (RB.out.below k (Nat.le_refl _))
  replace RX := hide (RX.out.below k (Nat.le_refl _))
  replace RY := hide (RY.out.below k (Nat.le_refl _))
  replace RT := hide (RT.out.below k (Nat.le_refl _))
  clear k
  go_wp2_with fail
  refine (D2.out _ _ _ _ _ RX.out RY.out).mono ?_
  rintro e x5 ⟨rfl, k⟩
  replace F := step F k
  replace RA := hide (RA.out.below k (Nat.le_refl _))
  replace RB := hide (RB.out.below k (Nat.le_refl _))
  replace RX := hide (RX.out.below k (Nat.le_refl _))
  replace RY := hide (RY.out.below k (Nat.le_refl _))
  replace RT := hide (RT.out.below k (Nat.le_refl _))
  clear k
  go_wp2_with fail
  refine (K1.out _ _ _ _ _ RX.out RY.out).mono ?_
  rintro e x6 ⟨rfl, k⟩
  replace F := step F k
  replace RA := hide (RA.out.below k (Nat.le_refl _))
  replace RB := hide (RB.out.below k (Nat.le_refl _))
  replace RX := hide (RX.out.below k (Nat.le_refl _))
  replace RY := hide (RY.out.below k (Nat.le_refl _))
  replace RT := hide (RT.out.below k (Nat.le_refl _))
  clear k
  go_wp2_with fail
  refine (K2.out _ _ _ _ _ RA.out RB.out).mono ?_
  rintro e x7 ⟨rfl, k⟩
  replace F := step F k
  replace RA := hide (RA.out.below k (Nat.le_refl _))
  replace RB := hide (RB.out.below k (Nat.le_refl _))
  replace RX := hide (RX.out.below k (Nat.le_refl _))
  replace RY := hide (RY.out.below k (Nat.le_refl _))
  replace RT := hide (RT.out.below k (Nat.le_refl _))
  clear k
  go_wp2_with fail
  refine (C3.out _ _ _ _ _ RT.out RX.out).mono ?_
  rintro e x8 ⟨rfl, k⟩
  replace F := step F k
  replace RA := hide (RA.out.below k (Nat.le_refl _))
  replace RB := hide (RB.out.below k (Nat.le_refl _))
  replace RX := hide (RX.out.below k (Nat.le_refl _))
  replace RY := hide (RY.out.below k (Nat.le_refl _))
  replace RT := hide (RT.out.below k (Nat.le_refl _))
  clear k
  go_wp2_with fail
  refine (K3.out _ _ _ _ _ RT.out RX.out).mono ?_
  rintro e x9 ⟨rfl, k⟩
  replace F := step F k
  replace RA := hide (RA.out.below k (Nat.le_refl _))
  replace RB := hide (RB.out.below k (Nat.le_refl _))
  replace RX := hide (RX.out.below k (Nat.le_refl _))
  replace RY := hide (RY.out.below k (Nat.le_refl _))
  replace RT := hide (RT.out.below k (Nat.le_refl _))
  clear k
  go_wp2_with fail
  refine (B1.out _ _ _ _ _ RX.out RT.out).mono ?_
  rintro e x10 ⟨rfl, k⟩
  replace F := step F k
  replace RA := hide (RA.out.below k (Nat.le_refl _))
  replace RB := hide (RB.out.below k (Nat.le_refl _))
  replace RX := hide (RX.out.below k (Nat.le_refl _))
  replace RY := hide (RY.out.below k (Nat.le_refl _))
  replace RT := hide (RT.out.below k (Nat.le_refl _))
  clear k
  go_wp2_with fail
  refine (B2.out _ _ _ _ _ RT.out RX.out).mono ?_
  rintro e x11 ⟨rfl, k⟩
  replace F := step F k
  replace RA := hide (RA.out.below k (Nat.le_refl _))
  replace RB := hide (RB.out.below k (Nat.le_refl _))
  replace RX := hide (RX.out.below k (Nat.le_refl _))
  replace RY := hide (RY.out.below k (Nat.le_refl _))
  replace RT := hide (RT.out.below k (Nat.le_refl _))
  clear k
  go_wp2_with fail
  refine (awake_any _).mono ?_
  rintro e x12 ⟨rfl, k⟩
  replace F := step F k
  clear k
  go_wp2
  go_ret
  exact ⟨rfl, F.out⟩

set_option maxHeartbeats 2000000 in
theorem keyWays_n_e (a b c : Option Addr) (ws xs ys : List Int) (n : Int) (ca cb cc : Nat) (w : World) (ha : Rd w a ws) (hb : Rd w b xs) (hc : Rd w c ys) (h1 : ws.length ≤ 20) (h2 : xs.length ≤ 20) (h3 : ys.length ≤ 20)
    (hn0 : -9223372036854775808 ≤ n) (hn1 : n ≤ 9223372036854775807) (hd : differK xs ys < 0) (hN : lowK n (ws.length + xs.length + 1) = ws.length + xs.length) :
    Calls Try.prog 8 #[.slice a ws.length ca, .slice b xs.length cb, .slice c ys.length cc, .int .i64 n] w fun e w' => e = .returned (.bool true) ∧ Below w.heap.size w w' := by
  obtain ⟨v1, w1, ax, cX, w2, r1, r2, rx, f2, lX, mX⟩ := append2_u8 w a b ws xs ca cb ha hb (by omega)
  obtain ⟨v3, w3, ay, cY, w4, r3, r4, ry, f4, lY, mY⟩ := append2_u8 w2 a c ws ys ca cc (ha.below f2 (Nat.le_refl _)) (hc.below f2 (Nat.le_refl _)) (by omega)
  have F : Hid (Below w.heap.size w w4) := step (hide f2) f4
  have RA := hide (Rd.now (hide hb) F)
  have RB := hide (Rd.now (hide hc) F)
  have RX := hide (rx.below f4 (Nat.le_refl _))
  have RY := hide ry
  have hr := lowK_range n (ws.length + xs.length + 1) (by omega)
  obtain ⟨N, hNN⟩ : ∃ N : Nat, lowK n (ws.length + xs.length + 1) = N := ⟨(lowK n (ws.length + xs.length + 1)).toNat, by omega⟩
  have hNle : N ≤ ws.length + xs.length := by omega
  have LW := hide fun w' => low_any n (ws.length + xs.length + 1) hn0 hn1 (by omega) (by omega) w'
  rw [hNN] at LW
  have hNl : N = ws.length + xs.length := by omega
  have hla : (ws ++ xs).length = ws.length + xs.length := List.length_append
  have hlb : (ws ++ ys).length = ws.length + ys.length := List.length_append
  have ht : ((ws ++ xs).take N).length = N := by rw [List.length_take]; omega
  have lc := common_le xs ys
  have rc : -1 ≤ cmpK xs ys ∧ cmpK xs ys ≤ 1 := by have := cmpK_range xs ys; omega
  have rd : -1 ≤ differK xs ys ∧ differK xs ys ≤ 200 := by
    rcases differK_spec xs ys hb.1 hc.1 with ⟨_, h⟩ | ⟨j, _, h, _, h', _⟩ <;> omega
  have D1 := hide (differ_v xs ys _ rfl (by omega))
  have D2 := hide (differ_v (ws ++ xs) (ws ++ ys) (-1) (by rw [differK_app ws xs ys, if_pos hd]) (by omega))
  have C1 := hide (compare_v (ws ++ xs) (ws ++ ys) _ (cmpK_app ws xs ys))
  have C2 := hide (compare_v xs ys _ rfl)
  have K1 := hide (common_v (ws ++ xs) (ws ++ ys) _ (common_append ws xs ys))
  have K2 := hide (common_v xs ys _ rfl)
  have C3 := hide (compare_v ((ws ++ xs).take N) (ws ++ xs) 0 (by rw [cmpK_take (ws ++ xs) N (by omega), if_neg (by omega)]))
  have K3 := hide (common_v ((ws ++ xs).take N) (ws ++ xs) _ (common_take (ws ++ xs) N (by omega)))
  have B1 := hide (begins_v (ws ++ xs) ((ws ++ xs).take N) true (by rw [common_comm, common_take (ws ++ xs) N (by omega), ht]; simp))
  have B2 := hide (begins_v ((ws ++ xs).take N) (ws ++ xs) true (by rw [common_take (ws ++ xs) N (by omega), hla]; simp; omega))
  rw [ht] at C3 K3 B1 B2
  have RT := hide (RX.out.take N)
  have e1 : ((N : Int) == ((ws ++ xs).length : Int)) = true := by simp; omega
  have hX : (ws ++ xs).length ≤ 40 := by omega
  have hX2 : N ≤ (ws ++ xs).length := by omega
  have hX3 : (ws ++ xs).length ≤ N := by omega
  have HLW : Hid (∀ w', Calls Try.prog 30 #[.int .i64 n, .int .i64 (((ws ++ xs).length : Int) + 1)] w' fun e w'' => e = .returned (.int .i64 N) ∧ Below w'.heap.size w' w'') := by
    intro w'
    have h := LW.out w'
    rw [hla]
    exact h
  have e2 : ((((ws.length + common xs ys : Nat) : Int)) == (ws.length : Int) + (common xs ys : Int)) = true := by simp
  clear ha hb hc rx ry f2 f4 hNN hN ht hr LW hla hlb lY hNl hNle
  generalize differK xs ys = d at *
  generalize cmpK xs ys = cm at *
  generalize common xs ys = co at *
  generalize (ws ++ xs).take N = ts at *
  generalize ws ++ xs = xx at *
  generalize ws ++ ys = yy at *
  have LW := HLW
  go_enter Try.func8, Try.ntmps8
  go_wp2_with (first | (at_builtin; refine wpList_append_run rfl _ _ _ _ rfl _ _ _ _ rfl rfl r1 ?_) | (at_builtin; refine wpList_append_run rfl _ _ _ _ rfl _ _ _ _ rfl rfl r2 ?_) | (at_builtin; refine wpList_append_run rfl _ _ _ _ rfl _ _ _ _ rfl rfl r3 ?_) | (at_builtin; refine wpList_append_run rfl _ _ _ _ rfl _ _ _ _ rfl rfl r4 ?_))
  go_wp2_with fail
  refine (D1.out _ _ _ _ _ RA.out RB.out).mono ?_
  rintro e x1 ⟨rfl, k⟩
  replace F := step F k
  replace RA := hide (RA.out.below k (Nat.le_refl _))
  replace RB := hide (RB.out.below k (Nat.le_refl _))
  replace RX := hide (RX.out.below k (Nat.le_refl _))
  replace RY := hide (RY.out.below k (Nat.le_refl _))
  replace RT := hide (RT.out.below k (Nat.le_refl _))
  clear k
  go_wp2_with fail
  refine (LW.out _).mono ?_
  rintro e x2 ⟨rfl, k⟩
  replace F := step F k
  replace RA := hide (RA.out.below k (Nat.le_refl _))
  replace RB := hide (RB.out.below k (Nat.le_refl _))
  replace RX := hide (RX.out.below k (Nat.le_refl _))
  replace RY := hide (RY.out.below k (Nat.le_refl _))
  replace RT := hide (RT.out.below k (Nat.le_refl _))
  clear k
  go_wp2_with fail
  refine (C1.out _ _ _ _ _ RX.out RY.out).mono ?_
  rintro e x3 ⟨rfl, k⟩
  replace F := step F k
  replace RA := hide (RA.out.below k (Nat.le_refl _))
  replace RB := hide (RB.out.below k (Nat.le_refl _))
  replace RX := hide (RX.out.below k (Nat.le_refl _))
  replace RY := hide (RY.out.below k (Nat.le_refl _))
  replace RT := hide (RT.out.below k (Nat.le_refl _))
  clear k
  go_wp2_with fail
  refine (C2.out _ _ _ _ _ RA.out RB.out).mono ?_
  rintro e x4 ⟨rfl, k⟩
  replace F := step F k
  replace RA := hide (RA.out.below k (Nat.le_refl _))
  replace RB := hide (RB.out.below k (Nat.le_refl _))
  replace RX := hide (RX.out.below k (Nat.le_refl _))
  replace RY := hide (RY.out.below k (Nat.le_refl _))
  replace RT := hide (RT.out.below k (Nat.le_refl _))
  clear k
  go_wp2_with fail
  refine (D2.out _ _ _ _ _ RX.out RY.out).mono ?_
  rintro e x5 ⟨rfl, k⟩
  replace F := step F k
  replace RA := hide (RA.out.below k (Nat.le_refl _))
  replace RB := hide (RB.out.below k (Nat.le_refl _))
  replace RX := hide (RX.out.below k (Nat.le_refl _))
  replace RY := hide (RY.out.below k (Nat.le_refl _))
  replace RT := hide (RT.out.below k (Nat.le_refl _))
  clear k
  go_wp2_with fail
  refine (K1.out _ _ _ _ _ RX.out RY.out).mono ?_
  rintro e x6 ⟨rfl, k⟩
  replace F := step F k
  replace RA := hide (RA.out.below k (Nat.le_refl _))
  replace RB := hide (RB.out.below k (Nat.le_refl _))
  replace RX := hide (RX.out.below k (Nat.le_refl _))
  replace RY := hide (RY.out.below k (Nat.le_refl _))
  replace RT := hide (RT.out.below k (Nat.le_refl _))
  clear k
  go_wp2_with fail
  refine (K2.out _ _ _ _ _ RA.out RB.out).mono ?_
  rintro e x7 ⟨rfl, k⟩
  replace F := step F k
  replace RA := hide (RA.out.below k (Nat.le_refl _))
  replace RB := hide (RB.out.below k (Nat.le_refl _))
  replace RX := hide (RX.out.below k (Nat.le_refl _))
  replace RY := hide (RY.out.below k (Nat.le_refl _))
  replace RT := hide (RT.out.below k (Nat.le_refl _))
  clear k
  go_wp2_with fail
  refine (C3.out _ _ _ _ _ RT.out RX.out).mono ?_
  rintro e x8 ⟨rfl, k⟩
  replace F := step F k
  replace RA := hide (RA.out.below k (Nat.le_refl _))
  replace RB := hide (RB.out.below k (Nat.le_refl _))
  replace RX := hide (RX.out.below k (Nat.le_refl _))
  replace RY := hide (RY.out.below k (Nat.le_refl _))
  replace RT := hide (RT.out.below k (Nat.le_refl _))
  clear k
  go_wp2_with fail
  refine (K3.out _ _ _ _ _ RT.out RX.out).mono ?_
  rintro e x9 ⟨rfl, k⟩
  replace F := step F k
  replace RA := hide (RA.out.below k (Nat.le_refl _))
  replace RB := hide (RB.out.below k (Nat.le_refl _))
  replace RX := hide (RX.out.below k (Nat.le_refl _))
  replace RY := hide (RY.out.below k (Nat.le_refl _))
  replace RT := hide (RT.out.below k (Nat.le_refl _))
  clear k
  go_wp2_with fail
  refine (B1.out _ _ _ _ _ RX.out RT.out).mono ?_
  rintro e x10 ⟨rfl, k⟩
  replace F := step F k
  replace RA := hide (RA.out.below k (Nat.le_refl _))
  replace RB := hide (RB.out.below k (Nat.le_refl _))
  replace RX := hide (RX.out.below k (Nat.le_refl _))
  replace RY := hide (RY.out.below k (Nat.le_refl _))
  replace RT := hide (RT.out.below k (Nat.le_refl _))
  clear k
  go_wp2_with fail
  refine (B2.out _ _ _ _ _ RT.out RX.out).mono ?_
  rintro e x11 ⟨rfl, k⟩
  replace F := step F k
  replace RA := hide (RA.out.below k (Nat.le_refl _))
  replace RB := hide (RB.out.below k (Nat.le_refl _))
  replace RX := hide (RX.out.below k (Nat.le_refl _))
  replace RY := hide (RY.out.below k (Nat.le_refl _))
  replace RT := hide (RT.out.below k (Nat.le_refl _))
  clear k
  go_wp2_with fail
  refine (awake_any _).mono ?_
  rintro e x12 ⟨rfl, k⟩
  replace F := step F k
  clear k
  go_wp2
  go_ret
  exact ⟨rfl, F.out⟩

set_option maxHeartbeats 2000000 in
theorem keyWays_p_l (a b c : Option Addr) (ws xs ys : List Int) (n : Int) (ca cb cc : Nat) (w : World) (ha : Rd w a ws) (hb : Rd w b xs) (hc : Rd w c ys) (h1 : ws.length ≤ 20) (h2 : xs.length ≤ 20) (h3 : ys.length ≤ 20)
    (hn0 : -9223372036854775808 ≤ n) (hn1 : n ≤ 9223372036854775807) (hd : 0 ≤ differK xs ys) (hN : lowK n (ws.length + xs.length + 1) < ws.length + xs.length) :
    Calls Try.prog 8 #[.slice a ws.length ca, .slice b xs.length cb, .slice c ys.length cc, .int .i64 n] w fun e w' => e = .returned (.bool true) ∧ Below w.heap.size w w' := by
  obtain ⟨v1, w1, ax, cX, w2, r1, r2, rx, f2, lX, mX⟩ := append2_u8 w a b ws xs ca cb ha hb (by omega)
  obtain ⟨v3, w3, ay, cY, w4, r3, r4, ry, f4, lY, mY⟩ := append2_u8 w2 a c ws ys ca cc (ha.below f2 (Nat.le_refl _)) (hc.below f2 (Nat.le_refl _)) (by omega)
  have F : Hid (Below w.heap.size w w4) := step (hide f2) f4
  have RA := hide (Rd.now (hide hb) F)
  have RB := hide (Rd.now (hide hc) F)
  have RX := hide (rx.below f4 (Nat.le_refl _))
  have RY := hide ry
  have hr := lowK_range n (ws.length + xs.length + 1) (by omega)
  obtain ⟨N, hNN⟩ : ∃ N : Nat, lowK n (ws.length + xs.length + 1) = N := ⟨(lowK n (ws.length + xs.length + 1)).toNat, by omega⟩
  have hNle : N ≤ ws.length + xs.length := by omega
  have LW := hide fun w' => low_any n (ws.length + xs.length + 1) hn0 hn1 (by omega) (by omega) w'
  rw [hNN] at LW
  have hNl : N < ws.length + xs.length := by omega
  have hla : (ws ++ xs).length = ws.length + xs.length := List.length_append
  have hlb : (ws ++ ys).length = ws.length + ys.length := List.length_append
  have ht : ((ws ++ xs).take N).length = N := by rw [List.length_take]; omega
  have lc := common_le xs ys
  have rc : -1 ≤ cmpK xs ys ∧ cmpK xs ys ≤ 1 := by have := cmpK_range xs ys; omega
  have rd : -1 ≤ differK xs ys ∧ differK xs ys ≤ 200 := by
    rcases differK_spec xs ys hb.1 hc.1 with ⟨_, h⟩ | ⟨j, _, h, _, h', _⟩ <;> omega
  have D1 := hide (differ_v xs ys _ rfl (by omega))
  have D2 := hide (differ_v (ws ++ xs) (ws ++ ys) (differK xs ys + 9 * ws.length) (by rw [differK_app ws xs ys, if_neg (by omega)]) (by omega))
  have C1 := hide (compare_v (ws ++ xs) (ws ++ ys) _ (cmpK_app ws xs ys))
  have C2 := hide (compare_v xs ys _ rfl)
  have K1 := hide (common_v (ws ++ xs) (ws ++ ys) _ (common_append ws xs ys))
  have K2 := hide (common_v xs ys _ rfl)
  have C3 := hide (compare_v ((ws ++ xs).take N) (ws ++ xs) (-1) (by rw [cmpK_take (ws ++ xs) N (by omega), if_pos (by omega)]))
  have K3 := hide (common_v ((ws ++ xs).take N) (ws ++ xs) _ (common_take (ws ++ xs) N (by omega)))
  have B1 := hide (begins_v (ws ++ xs) ((ws ++ xs).take N) true (by rw [common_comm, common_take (ws ++ xs) N (by omega), ht]; simp))
  have B2 := hide (begins_v ((ws ++ xs).take N) (ws ++ xs) false (by rw [common_take (ws ++ xs) N (by omega), hla]; simp; omega))
  rw [ht] at C3 K3 B1 B2
  have RT := hide (RX.out.take N)
  have e1 : ((N : Int) == ((ws ++ xs).length : Int)) = false := by simp; omega
  have hX : (ws ++ xs).length ≤ 40 := by omega
  have hX2 : N ≤ (ws ++ xs).length := by omega
  have hX3 : N < (ws ++ xs).length := by omega
  have HLW : Hid (∀ w', Calls Try.prog 30 #[.int .i64 n, .int .i64 (((ws ++ xs).length : Int) + 1)] w' fun e w'' => e = .returned (.int .i64 N) ∧ Below w'.heap.size w' w'') := by
    intro w'
    have h := LW.out w'
    rw [hla]
    exact h
  have e2 : ((((ws.length + common xs ys : Nat) : Int)) == (ws.length : Int) + (common xs ys : Int)) = true := by simp
  clear ha hb hc rx ry f2 f4 hNN hN ht hr LW hla hlb lY hNl hNle
  generalize differK xs ys = d at *
  generalize cmpK xs ys = cm at *
  generalize common xs ys = co at *
  generalize (ws ++ xs).take N = ts at *
  generalize ws ++ xs = xx at *
  generalize ws ++ ys = yy at *
  have LW := HLW
  go_enter Try.func8, Try.ntmps8
  go_wp2_with (first | (at_builtin; refine wpList_append_run rfl _ _ _ _ rfl _ _ _ _ rfl rfl r1 ?_) | (at_builtin; refine wpList_append_run rfl _ _ _ _ rfl _ _ _ _ rfl rfl r2 ?_) | (at_builtin; refine wpList_append_run rfl _ _ _ _ rfl _ _ _ _ rfl rfl r3 ?_) | (at_builtin; refine wpList_append_run rfl _ _ _ _ rfl _ _ _ _ rfl rfl r4 ?_))
  go_wp2_with fail
  refine (D1.out _ _ _ _ _ RA.out RB.out).mono ?_
  rintro e x1 ⟨rfl, k⟩
  replace F := step F k
  replace RA := hide (RA.out.below k (Nat.le_refl _))
  replace RB := hide (RB.out.below k (Nat.le_refl _))
  replace RX := hide (RX.out.below k (Nat.le_refl _))
  replace RY := hide (RY.out.below k (Nat.le_refl _))
  replace RT := hide (RT.out.below k (Nat.le_refl _))
  clear k
  go_wp2_with fail
  refine (LW.out _).mono ?_
  rintro e x2 ⟨rfl, k⟩
  replace F := step F k
  replace RA := hide (RA.out.below k (Nat.le_refl _))
  replace RB := hide (RB.out.below k (Nat.le_refl _))
  replace RX := hide (RX.out.below k (Nat.le_refl _))
  replace RY := hide (RY.out.below k (Nat.le_refl _))
  replace RT := hide (RT.out.below k (Nat.le_refl _))
  clear k
  go_wp2_with fail
  refine (C1.out _ _ _ _ _ RX.out RY.out).mono ?_
  rintro e x3 ⟨rfl, k⟩
  replace F := step F k
  replace RA := hide (RA.out.below k (Nat.le_refl _))
  replace RB := hide (RB.out.below k (Nat.le_refl _))
  replace RX := hide (RX.out.below k (Nat.le_refl _))
  replace RY := hide (RY.out.below k (Nat.le_refl _))
  replace RT := hide (RT.out.below k (Nat.le_refl _))
  clear k
  go_wp2_with fail
  refine (C2.out _ _ _ _ _ RA.out RB.out).mono ?_
  rintro e x4 ⟨rfl, k⟩
  replace F := step F k
  replace RA := hide (RA.out.below k (Nat.le_refl _))
  replace RB := hide (RB.out.below k (Nat.le_refl _))
  replace RX := hide (RX.out.below k (Nat.le_refl _))
  replace RY := hide (RY.out.below k (Nat.le_refl _))
  replace RT := hide (RT.out.below k (Nat.le_refl _))
  clear k
  go_wp2_with fail
  refine (D2.out _ _ _ _ _ RX.out RY.out).mono ?_
  rintro e x5 ⟨rfl, k⟩
  replace F := step F k
  replace RA := hide (RA.out.below k (Nat.le_refl _))
  replace RB := hide (RB.out.below k (Nat.le_refl _))
  replace RX := hide (RX.out.below k (Nat.le_refl _))
  replace RY := hide (RY.out.below k (Nat.le_refl _))
  replace RT := hide (RT.out.below k (Nat.le_refl _))
  clear k
  go_wp2_with fail
  refine (K1.out _ _ _ _ _ RX.out RY.out).mono ?_
  rintro e x6 ⟨rfl, k⟩
  replace F := step F k
  replace RA := hide (RA.out.below k (Nat.le_refl _))
  replace RB := hide (RB.out.below k (Nat.le_refl _))
  replace RX := hide (RX.out.below k (Nat.le_refl _))
  replace RY := hide (RY.out.below k (Nat.le_refl _))
  replace RT := hide (RT.out.below k (Nat.le_refl _))
  clear k
  go_wp2_with fail
  refine (K2.out _ _ _ _ _ RA.out RB.out).mono ?_
  rintro e x7 ⟨rfl, k⟩
  replace F := step F k
  replace RA := hide (RA.out.below k (Nat.le_refl _))
  replace RB := hide (RB.out.below k (Nat.le_refl _))
  replace RX := hide (RX.out.below k (Nat.le_refl _))
  replace RY := hide (RY.out.below k (Nat.le_refl _))
  replace RT := hide (RT.out.below k (Nat.le_refl _))
  clear k
  go_wp2_with fail
  refine (C3.out _ _ _ _ _ RT.out RX.out).mono ?_
  rintro e x8 ⟨rfl, k⟩
  replace F := step F k
  replace RA := hide (RA.out.below k (Nat.le_refl _))
  replace RB := hide (RB.out.below k (Nat.le_refl _))
  replace RX := hide (RX.out.below k (Nat.le_refl _))
  replace RY := hide (RY.out.below k (Nat.le_refl _))
  replace RT := hide (RT.out.below k (Nat.le_refl _))
  clear k
  go_wp2_with fail
  refine (K3.out _ _ _ _ _ RT.out RX.out).mono ?_
  rintro e x9 ⟨rfl, k⟩
  replace F := step F k
  replace RA := hide (RA.out.below k (Nat.le_refl _))
  replace RB := hide (RB.out.below k (Nat.le_refl _))
  replace RX := hide (RX.out.below k (Nat.le_refl _))
  replace RY := hide (RY.out.below k (Nat.le_refl _))
  replace RT := hide (RT.out.below k (Nat.le_refl _))
  clear k
  go_wp2_with fail
  refine (B1.out _ _ _ _ _ RX.out RT.out).mono ?_
  rintro e x10 ⟨rfl, k⟩
  replace F := step F k
  replace RA := hide (RA.out.below k (Nat.le_refl _))
  replace RB := hide (RB.out.below k (Nat.le_refl _))
  replace RX := hide (RX.out.below k (Nat.le_refl _))
  replace RY := hide (RY.out.below k (Nat.le_refl _))
  replace RT := hide (RT.out.below k (Nat.le_refl _))
  clear k
  go_wp2_with fail
  refine (B2.out _ _ _ _ _ RT.out RX.out).mono ?_
  rintro e x11 ⟨rfl, k⟩
  replace F := step F k
  replace RA := hide (RA.out.below k (Nat.le_refl _))
  replace RB := hide (RB.out.below k (Nat.le_refl _))
  replace RX := hide (RX.out.below k (Nat.le_refl _))
  replace RY := hide (RY.out.below k (Nat.le_refl _))
  replace RT := hide (RT.out.below k (Nat.le_refl _))
  clear k
  go_wp2_with fail
  refine (awake_any _).mono ?_
  rintro e x12 ⟨rfl, k⟩
  replace F := step F k
  clear k
  go_wp2
  go_ret
  exact ⟨rfl, F.out⟩

set_option maxHeartbeats 2000000 in
theorem keyWays_p_e (a b c : Option Addr) (ws xs ys : List Int) (n : Int) (ca cb cc : Nat) (w : World) (ha : Rd w a ws) (hb : Rd w b xs) (hc : Rd w c ys) (h1 : ws.length ≤ 20) (h2 : xs.length ≤ 20) (h3 : ys.length ≤ 20)
    (hn0 : -9223372036854775808 ≤ n) (hn1 : n ≤ 9223372036854775807) (hd : 0 ≤ differK xs ys) (hN : lowK n (ws.length + xs.length + 1) = ws.length + xs.length) :
    Calls Try.prog 8 #[.slice a ws.length ca, .slice b xs.length cb, .slice c ys.length cc, .int .i64 n] w fun e w' => e = .returned (.bool true) ∧ Below w.heap.size w w' := by
  obtain ⟨v1, w1, ax, cX, w2, r1, r2, rx, f2, lX, mX⟩ := append2_u8 w a b ws xs ca cb ha hb (by omega)
  obtain ⟨v3, w3, ay, cY, w4, r3, r4, ry, f4, lY, mY⟩ := append2_u8 w2 a c ws ys ca cc (ha.below f2 (Nat.le_refl _)) (hc.below f2 (Nat.le_refl _)) (by omega)
  have F : Hid (Below w.heap.size w w4) := step (hide f2) f4
  have RA := hide (Rd.now (hide hb) F)
  have RB := hide (Rd.now (hide hc) F)
  have RX := hide (rx.below f4 (Nat.le_refl _))
  have RY := hide ry
  have hr := lowK_range n (ws.length + xs.length + 1) (by omega)
  obtain ⟨N, hNN⟩ : ∃ N : Nat, lowK n (ws.length + xs.length + 1) = N := ⟨(lowK n (ws.length + xs.length + 1)).toNat, by omega⟩
  have hNle : N ≤ ws.length + xs.length := by omega
  have LW := hide fun w' => low_any n (ws.length + xs.length + 1) hn0 hn1 (by omega) (by omega) w'
  rw [hNN] at LW
  have hNl : N = ws.length + xs.length := by omega
  have hla : (ws ++ xs).length = ws.length + xs.length := List.length_append
  have hlb : (ws ++ ys).length = ws.length + ys.length := List.length_append
  have ht : ((ws ++ xs).take N).length = N := by rw [List.length_take]; omega
  have lc := common_le xs ys
  have rc : -1 ≤ cmpK xs ys ∧ cmpK xs ys ≤ 1 := by have := cmpK_range xs ys; omega
  have rd : -1 ≤ differK xs ys ∧ differK xs ys ≤ 200 := by
    rcases differK_spec xs ys hb.1 hc.1 with ⟨_, h⟩ | ⟨j, _, h, _, h', _⟩ <;> omega
  have D1 := hide (differ_v xs ys _ rfl (by omega))
  have D2 := hide (differ_v (ws ++ xs) (ws ++ ys) (differK xs ys + 9 * ws.length) (by rw [differK_app ws xs ys, if_neg (by omega)]) (by omega))
  have C1 := hide (compare_v (ws ++ xs) (ws ++ ys) _ (cmpK_app ws xs ys))
  have C2 := hide (compare_v xs ys _ rfl)
  have K1 := hide (common_v (ws ++ xs) (ws ++ ys) _ (common_append ws xs ys))
  have K2 := hide (common_v xs ys _ rfl)
  have C3 := hide (compare_v ((ws ++ xs).take N) (ws ++ xs) 0 (by rw [cmpK_take (ws ++ xs) N (by omega), if_neg (by omega)]))
  have K3 := hide (common_v ((ws ++ xs).take N) (ws ++ xs) _ (common_take (ws ++ xs) N (by omega)))
  have B1 := hide (begins_v (ws ++ xs) ((ws ++ xs).take N) true (by rw [common_comm, common_take (ws ++ xs) N (by omega), ht]; simp))
  have B2 := hide (begins_v ((ws ++ xs).take N) (ws ++ xs) true (by rw [common_take (ws ++ xs) N (by omega), hla]; simp; omega))
  rw [ht] at C3 K3 B1 B2
  have RT := hide (RX.out.take N)
  have e1 : ((N : Int) == ((ws ++ xs).length : Int)) = true := by simp; omega
  have hX : (ws ++ xs).length ≤ 40 := by omega
  have hX2 : N ≤ (ws ++ xs).length := by omega
  have hX3 : (ws ++ xs).length ≤ N := by omega
  have HLW : Hid (∀ w', Calls Try.prog 30 #[.int .i64 n, .int .i64 (((ws ++ xs).length : Int) + 1)] w' fun e w'' => e = .returned (.int .i64 N) ∧ Below w'.heap.size w' w'') := by
    intro w'
    have h := LW.out w'
    rw [hla]
    exact h
  have e2 : ((((ws.length + common xs ys : Nat) : Int)) == (ws.length : Int) + (common xs ys : Int)) = true := by simp
  clear ha hb hc rx ry f2 f4 hNN hN ht hr LW hla hlb lY hNl hNle
  generalize differK xs ys = d at *
  generalize cmpK xs ys = cm at *
  generalize common xs ys = co at *
  generalize (ws ++ xs).take N = ts at *
  generalize ws ++ xs = xx at *
  generalize ws ++ ys = yy at *
  have LW := HLW
  go_enter Try.func8, Try.ntmps8
  go_wp2_with (first | (at_builtin; refine wpList_append_run rfl _ _ _ _ rfl _ _ _ _ rfl rfl r1 ?_) | (at_builtin; refine wpList_append_run rfl _ _ _ _ rfl _ _ _ _ rfl rfl r2 ?_) | (at_builtin; refine wpList_append_run rfl _ _ _ _ rfl _ _ _ _ rfl rfl r3 ?_) | (at_builtin; refine wpList_append_run rfl _ _ _ _ rfl _ _ _ _ rfl rfl r4 ?_))
  go_wp2_with fail
  refine (D1.out _ _ _ _ _ RA.out RB.out).mono ?_
  rintro e x1 ⟨rfl, k⟩
  replace F := step F k
  replace RA := hide (RA.out.below k (Nat.le_refl _))
  replace RB := hide (RB.out.below k (Nat.le_refl _))
  replace RX := hide (RX.out.below k (Nat.le_refl _))
  replace RY := hide (RY.out.below k (Nat.le_refl _))
  replace RT := hide (RT.out.below k (Nat.le_refl _))
  clear k
  go_wp2_with fail
  refine (LW.out _).mono ?_
  rintro e x2 ⟨rfl, k⟩
  replace F := step F k
  replace RA := hide (RA.out.below k (Nat.le_refl _))
  replace RB := hide (RB.out.below k (Nat.le_refl _))
  replace RX := hide (RX.out.below k (Nat.le_refl _))
  replace RY := hide (RY.out.below k (Nat.le_refl _))
  replace RT := hide (RT.out.below k (Nat.le_refl _))
  clear k
  go_wp2_with fail
  refine (C1.out _ _ _ _ _ RX.out RY.out).mono ?_
  rintro e x3 ⟨rfl, k⟩
  replace F := step F k
  replace RA := hide (RA.out.below k (Nat.le_refl _))
  replace RB := hide (RB.out.below k (Nat.le_refl _))
  replace RX := hide (RX.out.below k (Nat.le_refl _))
  replace RY := hide (RY.out.below k (Nat.le_refl _))
  replace RT := hide (RT.out.below k (Nat.le_refl _))
  clear k
  go_wp2_with fail
  refine (C2.out _ _ _ _ _ RA.out RB.out).mono ?_
  rintro e x4 ⟨rfl, k⟩
  replace F := step F k
  replace RA := hide (RA.out.below k (Nat.le_refl _))
  replace RB := hide (RB.out.below k (Nat.le_refl _))
  replace RX := hide (RX.out.below k (Nat.le_refl _))
  replace RY := hide (RY.out.below k (Nat.le_refl _))
  replace RT := hide (RT.out.below k (Nat.le_refl _))
  clear k
  go_wp2_with fail
  refine (D2.out _ _ _ _ _ RX.out RY.out).mono ?_
  rintro e x5 ⟨rfl, k⟩
  replace F := step F k
  replace RA := hide (RA.out.below k (Nat.le_refl _))
  replace RB := hide (RB.out.below k (Nat.le_refl _))
  replace RX := hide (RX.out.below k (Nat.le_refl _))
  replace RY := hide (RY.out.below k (Nat.le_refl _))
  replace RT := hide (RT.out.below k (Nat.le_refl _))
  clear k
  go_wp2_with fail
  refine (K1.out _ _ _ _ _ RX.out RY.out).mono ?_
  rintro e x6 ⟨rfl, k⟩
  replace F := step F k
  replace RA := hide (RA.out.below k (Nat.le_refl _))
  replace RB := hide (RB.out.below k (Nat.le_refl _))
  replace RX := hide (RX.out.below k (Nat.le_refl _))
  replace RY := hide (RY.out.below k (Nat.le_refl _))
  replace RT := hide (RT.out.below k (Nat.le_refl _))
  clear k
  go_wp2_with fail
  refine (K2.out _ _ _ _ _ RA.out RB.out).mono ?_
  rintro e x7 ⟨rfl, k⟩
  replace F := step F k
  replace RA := hide (RA.out.below k (Nat.le_refl _))
  replace RB := hide (RB.out.below k (Nat.le_refl _))
  replace RX := hide (RX.out.below k (Nat.le_refl _))
  replace RY := hide (RY.out.below k (Nat.le_refl _))
  replace RT := hide (RT.out.below k (Nat.le_refl _))
  clear k
  go_wp2_with fail
  refine (C3.out _ _ _ _ _ RT.out RX.out).mono ?_
  rintro e x8 ⟨rfl, k⟩
  replace F := step F k
  replace RA := hide (RA.out.below k (Nat.le_refl _))
  replace RB := hide (RB.out.below k (Nat.le_refl _))
  replace RX := hide (RX.out.below k (Nat.le_refl _))
  replace RY := hide (RY.out.below k (Nat.le_refl _))
  replace RT := hide (RT.out.below k (Nat.le_refl _))
  clear k
  go_wp2_with fail
  refine (K3.out _ _ _ _ _ RT.out RX.out).mono ?_
  rintro e x9 ⟨rfl, k⟩
  replace F := step F k
  replace RA := hide (RA.out.below k (Nat.le_refl _))
  replace RB := hide (RB.out.below k (Nat.le_refl _))
  replace RX := hide (RX.out.below k (Nat.le_refl _))
  replace RY := hide (RY.out.below k (Nat.le_refl _))
  replace RT := hide (RT.out.below k (Nat.le_refl _))
  clear k
  go_wp2_with fail
  refine (B1.out _ _ _ _ _ RX.out RT.out).mono ?_
  rintro e x10 ⟨rfl, k⟩
  replace F := step F k
  replace RA := hide (RA.out.below k (Nat.le_refl _))
  replace RB := hide (RB.out.below k (Nat.le_refl _))
  replace RX := hide (RX.out.below k (Nat.le_refl _))
  replace RY := hide (RY.out.below k (Nat.le_refl _))
  replace RT := hide (RT.out.below k (Nat.le_refl _))
  clear k
  go_wp2_with fail
  refine (B2.out _ _ _ _ _ RT.out RX.out).mono ?_
  rintro e x11 ⟨rfl, k⟩
  replace F := step F k
  replace RA := hide (RA.out.below k (Nat.le_refl _))
  replace RB := hide (RB.out.below k (Nat.le_refl _))
  replace RX := hide (RX.out.below k (Nat.le_refl _))
  replace RY := hide (RY.out.below k (Nat.le_refl _))
  replace RT := hide (RT.out.below k (Nat.le_refl _))
  clear k
  go_wp2_with fail
  refine (awake_any _).mono ?_
  rintro e x12 ⟨rfl, k⟩
  replace F := step F k
  clear k
  go_wp2
  go_ret
  exact ⟨rfl, F.out⟩

set_option maxHeartbeats 1000000 in
theorem keyWays_walk (a b c : Option Addr) (ws xs ys : List Int) (n : Int) (ca cb cc : Nat) (w : World) (ha : Rd w a ws) (hb : Rd w b xs) (hc : Rd w c ys)
    (hn0 : -9223372036854775808 ≤ n) (hn1 : n ≤ 9223372036854775807) :
    Calls Try.prog 8 #[.slice a ws.length ca, .slice b xs.length cb, .slice c ys.length cc, .int .i64 n] w fun e w' => e = .returned (.bool true) ∧ Below w.heap.size w w' := by
  have hl1 := ha.2.1
  have hl2 := hb.2.1
  have hl3 := hc.2.1
  unfold maxLen at hl1 hl2 hl3
  by_cases h1 : ws.length ≤ 20
  · by_cases h2 : xs.length ≤ 20
    · by_cases h3 : ys.length ≤ 20
      · have hr := lowK_range n (ws.length + xs.length + 1) (by omega)
        by_cases hd : differK xs ys < 0
        · by_cases hN : lowK n (ws.length + xs.length + 1) < ws.length + xs.length
          · exact keyWays_n_l a b c ws xs ys n ca cb cc w ha hb hc h1 h2 h3 hn0 hn1 hd hN
          · exact keyWays_n_e a b c ws xs ys n ca cb cc w ha hb hc h1 h2 h3 hn0 hn1 hd (by omega)
        · by_cases hN : lowK n (ws.length + xs.length + 1) < ws.length + xs.length
          · exact keyWays_p_l a b c ws xs ys n ca cb cc w ha hb hc h1 h2 h3 hn0 hn1 (by omega) hN
          · exact keyWays_p_e a b c ws xs ys n ca cb cc w ha hb hc h1 h2 h3 hn0 hn1 (by omega) (by omega)
      · have F := start w
        clear ha hb hc
        go_enter Try.func8, Try.ntmps8
        go_wp2_with fail
        refine (awake_any _).mono ?_
        rintro e w7 ⟨rfl, k⟩
        replace F := step F k
        clear k
        go_wp2
        go_ret
        exact ⟨rfl, F.out⟩
    · have F := start w
      clear ha hb hc
      go_enter Try.func8, Try.ntmps8
      go_wp2_with fail
      refine (awake_any _).mono ?_
      rintro e w7 ⟨rfl, k⟩
      replace F := step F k
      clear k
      go_wp2
      go_ret
      exact ⟨rfl, F.out⟩
  · have F := start w
    clear ha hb hc
    go_enter Try.func8, Try.ntmps8
    go_wp2_with fail
    refine (awake_any _).mono ?_
    rintro e w7 ⟨rfl, k⟩
    replace F := step F k
    clear k
    go_wp2
    go_ret
    exact ⟨rfl, F.out⟩

end Go.Proofs.Ytinogmjmmccfmaa
