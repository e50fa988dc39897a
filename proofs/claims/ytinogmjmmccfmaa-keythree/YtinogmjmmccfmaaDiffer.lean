/- Contracts of key.Differ, and of what holds two lists of bytes against each other. -/
import Derived.Test.YtinogmjmmccfmaaReads
namespace Go.Proofs.Ytinogmjmmccfmaa
open Go.RowKit
set_option linter.unusedVariables false

set_option maxHeartbeats 400000 in
theorem differ_any (a b : Option Addr) (xs ys : List Int) (ca cb : Nat) (w : World) (ha : Rd w a xs) (hb : Rd w b ys) (hs : xs.length ≤ 1000000) :
    Calls Try.prog 22 #[.slice a xs.length ca, .slice b ys.length cb] w fun e w' => e = .returned (.int .i64 (differK xs ys)) ∧ ∃ n, w' = w.drewN n := by
  have HC := hide (common_any a b xs ys ca cb w ha hb)
  have hle := common_le xs ys
  have BA := fun n i h1 h2 => bit_any a xs ca i (w.drewN n) (ha.drewN n) h1 h2
  have BB := fun n i h1 h2 => bit_any b ys cb i (w.drewN n) (hb.drewN n) h1 h2
  have HBA := hide BA
  have HBB := hide BB
  have hd : differK xs ys = scanD xs ys 9 (9 * common xs ys) := rfl
  have HD := hide hd
  clear ha hb BA BB hd
  generalize common xs ys = c at *
  go_enter Try.func22, Try.ntmps22
  go_wp2_with fail
  refine HC.out.mono ?_
  rintro e w' ⟨rfl, n, rfl⟩
  go_wp2_with fail
  go_loopw [6] (fun v wr => ∃ j : Nat, v = .int .i64 ((9 * c + j : Nat) : Int) ∧ j ≤ 9 ∧ wr = w.drewN n ∧ differK xs ys = scanD xs ys (9 - j) (9 * c + j)) (fun v _ => 9 * c + 9 - (intOf v).toNat)
  case atStart => exact ⟨0, by simp; omega, by omega, rfl, HD.out⟩
  case round =>
    obtain ⟨j, rfl, hj, hwr, hd⟩ := hrel
    subst hwr
    have HS := hide hd
    clear hd
    by_cases h9 : j < 9
    · have hb1 := bitK_range xs ((9 * c + j : Nat) : Int)
      have hb2 := bitK_range ys ((9 * c + j : Nat) : Int)
      have ec : ((9 * c + j : Nat) : Int) = 9 * (c : Int) + (j : Int) := by omega
      rw [ec] at hb1 hb2
      by_cases hq : bitK xs ((9 * c + j : Nat) : Int) = bitK ys ((9 * c + j : Nat) : Int)
      · have hS : differK xs ys = scanD xs ys (9 - (j + 1)) (9 * c + (j + 1)) := by
          rw [HS.out, show 9 - j = (9 - (j + 1)) + 1 from by omega, scanD_step _ _ _ _ hq]; rfl
        have HT := hide hS
        rw [ec] at hq
        have hq' : (bitK xs (9 * (c : Int) + (j : Int)) != bitK ys (9 * (c : Int) + (j : Int))) = false := by simp [hq]
        clear hS hq ec
        go_wp2_with fail
        refine (HBA.out n _ (by omega) (by omega)).mono ?_
        rintro e w' ⟨rfl, rfl⟩
        go_wp2_with fail
        refine (HBB.out n _ (by omega) (by omega)).mono ?_
        rintro e w' ⟨rfl, rfl⟩
        go_wp2
        go_roundw
        case rel => exact ⟨j + 1, by go_num, by omega, by first | rfl | trivial, HT.out⟩
        case measure => simp [intOf]; omega
      · have hS : differK xs ys = ((9 * c + j : Nat) : Int) := by
          rw [HS.out, show 9 - j = (9 - (j + 1)) + 1 from by omega, scanD_stop _ _ _ _ hq]
        have HT := hide hS
        rw [ec] at hq
        have hq' : (bitK xs (9 * (c : Int) + (j : Int)) != bitK ys (9 * (c : Int) + (j : Int))) = true := by simp [hq]
        clear hS hq ec
        go_wp2_with fail
        refine (HBA.out n _ (by omega) (by omega)).mono ?_
        rintro e w' ⟨rfl, rfl⟩
        go_wp2_with fail
        refine (HBB.out n _ (by omega) (by omega)).mono ?_
        rintro e w' ⟨rfl, rfl⟩
        go_wp2
        go_ret
        exact ⟨ret_int (by rw [HT.out]; go_num), n, rfl⟩
    · have h9' : j = 9 := by omega
      have HT : Hid (differK xs ys = -1) := by rw [HS.out, h9']; rfl
      clear h9'
      go_wp2
      go_ret
      exact ⟨ret_int HT.out.symm, n, rfl⟩

set_option maxHeartbeats 400000 in
theorem same_any (a b : Option Addr) (xs ys : List Int) (ca cb : Nat) (w : World) (ha : Rd w a xs) (hb : Rd w b ys) :
    Calls Try.prog 14 #[.slice a xs.length ca, .slice b ys.length cb] w fun e w' => e = .returned (.bool (decide (xs = ys))) ∧ ∃ n, w' = w.drewN n := by
  obtain ⟨hxb, hxl, hxc⟩ := ha
  obtain ⟨hyb, hyl, hyc⟩ := hb
  unfold maxLen at hxl hyl
  by_cases hl : xs.length = ys.length
  · have hl' : ((xs.length : Int) != (ys.length : Int)) = false := by simp [hl]
    have HL := hide hl
    have hle : xs.length ≤ ys.length := by omega
    clear hl
    go_enter Try.func14, Try.ntmps14
    go_wp2
    go_loopw [5] (fun v wr => ∃ k q : Nat, v = .int .i64 k ∧ k ≤ xs.length ∧ wr = w.drewN q ∧ ∀ i, i < k → xs.getD i 0 = ys.getD i 0) (fun v _ => xs.length - (intOf v).toNat)
    case atStart => exact ⟨0, 0, rfl, by omega, rfl, fun i hi => by omega⟩
    case round =>
      obtain ⟨k, q, rfl, hk1, hwr, hall⟩ := hrel
      have HA : Hid (∀ i, i < k → xs.getD i 0 = ys.getD i 0) := hall
      clear hall
      by_cases h1 : k < xs.length
      · have h2 : k < ys.length := by omega
        rcases hxc with rfl | ⟨bx, ox, rfl, hxc⟩
        · simp at h1
        rcases hyc with rfl | ⟨by', oy, rfl, hyc⟩
        · simp at h2
        have c1 : wr.cell? ⟨bx, ox + k, none⟩ = some (.int .u8 (xs.getD k 0)) := by rw [hwr]; exact hxc k h1
        have c2 : wr.cell? ⟨by', oy + k, none⟩ = some (.int .u8 (ys.getD k 0)) := by rw [hwr]; exact hyc k h2
        have HW : Hid (wr = w.drewN q) := hwr
        clear hwr hxc hyc
        generalize hx : xs.getD k 0 = x at *
        generalize hy : ys.getD k 0 = y at *
        have HX := hide hx
        have HY := hide hy
        clear hx hy
        by_cases h3 : x = y
        · have h4 : (x != y) = false := by simpa using h3
          have H3 := hide h3
          clear h3
          go_wp2
          go_quiet (fail)
          go_wp2
          go_roundw
          case rel =>
            refine ⟨k + 1, q + nq, by go_num, by omega, by rw [HW.out]; simp, fun i hi => ?_⟩
            by_cases e : i = k
            · subst e; rw [HX.out, HY.out]; exact H3.out
            · exact HA.out i (by omega)
          case measure => simp [intOf]; omega
        · have h4 : (x != y) = true := by simpa using h3
          have H3 := hide h3
          clear h3
          go_wp2
          go_quiet (fail)
          go_wp2
          go_ret
          refine ⟨ret_bool ?_, q + nq, by rw [HW.out]; simp⟩
          symm
          simp only [decide_eq_false_iff_not]
          intro e
          exact H3.out (by rw [← HX.out, ← HY.out, e])
      · have HW : Hid (wr = w.drewN q) := hwr
        clear hwr hxc hyc
        go_wp2
        go_ret
        refine ⟨ret_bool ?_, q, by rw [HW.out]⟩
        symm
        simp only [decide_eq_true_eq]
        exact getD_eq_of xs ys HL.out (fun i hi => HA.out i (by omega))
  · have hl' : ((xs.length : Int) != (ys.length : Int)) = true := by simp; omega
    have HL := hide hl
    clear hl hxc hyc
    go_enter Try.func14, Try.ntmps14
    go_wp2
    go_ret
    refine ⟨ret_bool ?_, 0, rfl⟩
    symm
    simp only [decide_eq_false_iff_not]
    intro e
    exact HL.out (by rw [e])

end Go.Proofs.Ytinogmjmmccfmaa
