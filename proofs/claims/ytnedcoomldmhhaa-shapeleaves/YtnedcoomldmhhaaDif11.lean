/- Contracts: Bit, Differ, Begins, and the document's. -/
import Derived.Test.YtnedcoomldmhhaaKey11
namespace Go.Proofs.Ytnedcoomldmhhaa
set_option maxRecDepth 20000
open Go.RowKit
set_option linter.unusedVariables false

set_option maxHeartbeats 400000 in
theorem bit_any (a : Option Addr) (xs : List Int) (ca : Nat) (i : Int) (w : World) (ha : Rd w a xs) (hi : i ≤ 9223372036854775807) (hi0 : -9223372036854775808 ≤ i) :
    Calls Try.prog 83 #[.slice a xs.length ca, .int .i64 i] w fun e w' => e = .returned (.int .i64 (bitK xs i)) ∧ w' = w := by
  obtain ⟨hxb, hxl, hxc⟩ := ha
  unfold maxLen at hxl
  by_cases h0 : i < 0
  · have hv : bitK xs i = 0 := by unfold bitK; rw [if_pos (.inl h0)]
    have HV := hide hv
    clear hv hxc
    go_enter Try.func83, Try.ntmps83
    go_wp2
    go_ret
    exact ⟨ret_int HV.out.symm, rfl⟩
  · by_cases h1 : (xs.length : Int) ≤ i / 9
    · have hv : bitK xs i = 0 := by unfold bitK; rw [if_pos (.inr h1)]
      have HV := hide hv
      clear hv hxc
      go_enter Try.func83, Try.ntmps83
      go_wp2
      go_ret
      exact ⟨ret_int HV.out.symm, rfl⟩
    · have hlt : i / 9 < (xs.length : Int) := by omega
      have h00 : 0 ≤ i := by omega
      rcases hxc with rfl | ⟨b, o, rfl, hxc⟩
      · simp at hlt; omega
      by_cases h2 : i % 9 = 0
      · have hv : bitK xs i = 1 := by unfold bitK; rw [if_neg (by omega), if_pos h2]
        have e2 : (i % 9 == 0) = true := by simpa using h2
        have HV := hide hv
        clear hv hxc h2 h0 h1
        go_enter Try.func83, Try.ntmps83
        go_wp2
        go_ret
        exact ⟨ret_int HV.out.symm, rfl⟩
      · have hv : bitK xs i = xs.getD (i / 9).toNat 0 / 2 ^ (8 - i % 9).toNat % 2 := by unfold bitK; rw [if_neg (by omega), if_neg h2]
        have e2 : (i % 9 == 0) = false := by simpa using h2
        have c1 := hxc (i / 9).toNat (by omega)
        have hx := hxb.getD (i / 9).toNat
        generalize xs.getD (i / 9).toNat 0 = x at *
        have HV := hide hv
        clear hv hxc h2 h0 h1
        go_enter Try.func83, Try.ntmps83
        go_wp2
        go_ret
        exact ⟨ret_int (by rw [HV.out]; exact bit_low _ _ hx), rfl⟩

set_option maxHeartbeats 400000 in
theorem rbit_any (a : Option Addr) (xs : List Int) (ca : Nat) (i : Int) (w : World) (ha : Rd w a xs) (hi : i ≤ 9223372036854775807) (hi0 : -9223372036854775808 ≤ i) :
    Calls Try.prog 32 #[.slice a xs.length ca, .int .i64 i] w fun e w' => e = .returned (.int .i64 (bitK xs i)) ∧ w' = w := by
  obtain ⟨hxb, hxl, hxc⟩ := ha
  unfold maxLen at hxl
  by_cases h0 : i < 0
  · have hv : bitK xs i = 0 := by unfold bitK; rw [if_pos (.inl h0)]
    have HV := hide hv
    clear hv hxc
    go_enter Try.func32, Try.ntmps32
    go_wp2
    go_ret
    exact ⟨ret_int HV.out.symm, rfl⟩
  · by_cases h1 : (xs.length : Int) ≤ i / 9
    · have hv : bitK xs i = 0 := by unfold bitK; rw [if_pos (.inr h1)]
      have HV := hide hv
      clear hv hxc
      go_enter Try.func32, Try.ntmps32
      go_wp2
      go_ret
      exact ⟨ret_int HV.out.symm, rfl⟩
    · have hlt : i / 9 < (xs.length : Int) := by omega
      have h00 : 0 ≤ i := by omega
      rcases hxc with rfl | ⟨b, o, rfl, hxc⟩
      · simp at hlt; omega
      by_cases h2 : i % 9 = 0
      · have hv : bitK xs i = 1 := by unfold bitK; rw [if_neg (by omega), if_pos h2]
        have e2 : (i % 9 == 0) = true := by simpa using h2
        have HV := hide hv
        clear hv hxc h2 h0 h1
        go_enter Try.func32, Try.ntmps32
        go_wp2
        go_ret
        exact ⟨ret_int HV.out.symm, rfl⟩
      · have hv : bitK xs i = xs.getD (i / 9).toNat 0 / 2 ^ (8 - i % 9).toNat % 2 := by unfold bitK; rw [if_neg (by omega), if_neg h2]
        have e2 : (i % 9 == 0) = false := by simpa using h2
        have c1 := hxc (i / 9).toNat (by omega)
        have hx := hxb.getD (i / 9).toNat
        generalize xs.getD (i / 9).toNat 0 = x at *
        have HV := hide hv
        clear hv hxc h2 h0 h1
        go_enter Try.func32, Try.ntmps32
        go_wp2
        go_ret
        exact ⟨ret_int (by rw [HV.out]; exact bit_low8 _ _ hx), rfl⟩

set_option maxHeartbeats 400000 in
theorem begins_any (a b : Option Addr) (xs ys : List Int) (ca cb : Nat) (w : World) (ha : Rd w a xs) (hb : Rd w b ys) :
    Calls Try.prog 84 #[.slice a xs.length ca, .slice b ys.length cb] w fun e w' => e = .returned (.bool ((common xs ys : Int) == (ys.length : Int))) ∧ ∃ n, w' = w.drewN n := by
  have HC := hide (common_any a b xs ys ca cb w ha hb)
  have hle := common_le xs ys
  have hl1 := ha.2.1
  have hl2 := hb.2.1
  clear ha hb
  unfold maxLen at hl1 hl2
  go_enter Try.func84, Try.ntmps84
  go_wp2_with fail
  refine HC.out.mono ?_
  rintro e w' ⟨rfl, n, rfl⟩
  go_wp2
  go_ret
  exact ⟨rfl, n, rfl⟩

set_option maxHeartbeats 400000 in
theorem differ_any (a b : Option Addr) (xs ys : List Int) (ca cb : Nat) (w : World) (ha : Rd w a xs) (hb : Rd w b ys) (hs : xs.length ≤ 1000000) :
    Calls Try.prog 82 #[.slice a xs.length ca, .slice b ys.length cb] w fun e w' => e = .returned (.int .i64 (differK xs ys)) ∧ ∃ n, w' = w.drewN n := by
  have HC := hide (common_any a b xs ys ca cb w ha hb)
  have hle := common_le xs ys
  have BA := fun n i h1 h2 => bit_any a xs ca i (w.drewN n) (ha.drewN n) h1 h2
  have BB := fun n i h1 h2 => bit_any b ys cb i (w.drewN n) (hb.drewN n) h1 h2
  have HBA := hide BA
  have HBB := hide BB
  have hd : differK xs ys = scanD xs ys 9 (9 * common xs ys) := rfl
  have HD := hide hd
  clear ha hb BA BB hd
  generalize common xs ys = c at *
  go_enter Try.func82, Try.ntmps82
  go_wp2_with fail
  refine HC.out.mono ?_
  rintro e w' ⟨rfl, n, rfl⟩
  go_wp2_with fail
  go_loopw [6] (fun v wr => ∃ j : Nat, v = .int .i64 ((9 * c + j : Nat) : Int) ∧ j ≤ 9 ∧ wr = w.drewN n ∧ differK xs ys = scanD xs ys (9 - j) (9 * c + j)) (fun v _ => 9 * c + 9 - (intOf v).toNat)
  case atStart => exact ⟨0, by simp; omega, by omega, rfl, HD.out⟩
  case round =>
    obtain ⟨j, rfl, hj, hwr, hd⟩ := hrel
    subst hwr
    have HS := hide hd
    clear hd
    by_cases h9 : j < 9
    · have hb1 := bitK_range xs ((9 * c + j : Nat) : Int)
      have hb2 := bitK_range ys ((9 * c + j : Nat) : Int)
      have ec : ((9 * c + j : Nat) : Int) = 9 * (c : Int) + (j : Int) := by omega
      rw [ec] at hb1 hb2
      by_cases hq : bitK xs ((9 * c + j : Nat) : Int) = bitK ys ((9 * c + j : Nat) : Int)
      · have hS : differK xs ys = scanD xs ys (9 - (j + 1)) (9 * c + (j + 1)) := by
          rw [HS.out, show 9 - j = (9 - (j + 1)) + 1 from by omega, scanD_step _ _ _ _ hq]; rfl
        have HT := hide hS
        rw [ec] at hq
        have hq' : (bitK xs (9 * (c : Int) + (j : Int)) != bitK ys (9 * (c : Int) + (j : Int))) = false := by simp [hq]
        clear hS hq ec
        go_wp2_with fail
        refine (HBA.out n _ (by omega) (by omega)).mono ?_
        rintro e w' ⟨rfl, rfl⟩
        go_wp2_with fail
        refine (HBB.out n _ (by omega) (by omega)).mono ?_
        rintro e w' ⟨rfl, rfl⟩
        go_wp2
        go_roundw
        case rel => exact ⟨j + 1, by go_num, by omega, by first | rfl | trivial, HT.out⟩
        case measure => simp [intOf]; omega
      · have hS : differK xs ys = ((9 * c + j : Nat) : Int) := by
          rw [HS.out, show 9 - j = (9 - (j + 1)) + 1 from by omega, scanD_stop _ _ _ _ hq]
        have HT := hide hS
        rw [ec] at hq
        have hq' : (bitK xs (9 * (c : Int) + (j : Int)) != bitK ys (9 * (c : Int) + (j : Int))) = true := by simp [hq]
        clear hS hq ec
        go_wp2_with fail
        refine (HBA.out n _ (by omega) (by omega)).mono ?_
        rintro e w' ⟨rfl, rfl⟩
        go_wp2_with fail
        refine (HBB.out n _ (by omega) (by omega)).mono ?_
        rintro e w' ⟨rfl, rfl⟩
        go_wp2
        go_ret
        exact ⟨ret_int (by rw [HT.out]; go_num), n, rfl⟩
    · have h9' : j = 9 := by omega
      have HT : Hid (differK xs ys = -1) := by rw [HS.out, h9']; rfl
      clear h9'
      go_wp2
      go_ret
      exact ⟨ret_int HT.out.symm, n, rfl⟩

set_option maxHeartbeats 400000 in
theorem rdiffer_any (a b : Option Addr) (xs ys : List Int) (ca cb : Nat) (w : World) (ha : Rd w a xs) (hb : Rd w b ys) (hs : xs.length ≤ 1000000) :
    Calls Try.prog 31 #[.slice a xs.length ca, .slice b ys.length cb] w fun e w' => e = .returned (.int .i64 (differK xs ys)) ∧ ∃ n, w' = w.drewN n := by
  have k1 := conv_str (P := Try.prog) (src := 38) (dst := 9) Try.underlying38 Try.underlying5 Try.underlying9 ha ca
  have k2 := conv_str (P := Try.prog) (src := 38) (dst := 9) Try.underlying38 Try.underlying5 Try.underlying9 hb cb
  have l2 := strs_eq xs ys ha.1 hb.1
  have hsp := differK_spec xs ys ha.1 hb.1
  rw [← strNums_toList, ← strNums_toList] at l2
  generalize strOfNums xs = s at *
  generalize strOfNums ys = t at *
  rcases hsp with ⟨he, hd⟩ | ⟨j, he, hd, hj1, hj2, hj3, _, hj5⟩
  · rw [decide_eq_true he] at l2
    have HV := hide hd
    clear hd ha hb he
    go_enter Try.func31, Try.ntmps31
    go_wp2
    go_ret
    exact ⟨ret_int HV.out.symm, 0, rfl⟩
  · rw [decide_eq_false he] at l2
    have HC := hide (rcommon_any a b xs ys ca cb w ha hb)
    have hle := common_le xs ys
    have HBA := hide fun n i h1 h2 => rbit_any a xs ca i (w.drewN n) (ha.drewN n) h1 h2
    have HBB := hide fun n i h1 h2 => rbit_any b ys cb i (w.drewN n) (hb.drewN n) h1 h2
    have HD := hide hd
    have H3 := hide hj3
    have H5 := hide hj5
    clear ha hb hd hj3 hj5 he
    generalize common xs ys = c at *
    go_enter Try.func31, Try.ntmps31
    go_wp2_with fail
    refine HC.out.mono ?_
    rintro e w' ⟨rfl, n, rfl⟩
    go_wp2_with fail
    go_loopw [5] (fun v wr => ∃ k : Nat, v = .int .i64 (k : Int) ∧ k ≤ j ∧ wr = w.drewN n) (fun v _ => j - (intOf v).toNat)
    case atStart => exact ⟨9 * c, by simp, by omega, rfl⟩
    case round =>
      obtain ⟨k, rfl, hk, hwr⟩ := hrel
      subst hwr
      have hb1 := bitK_range xs (k : Int)
      have hb2 := bitK_range ys (k : Int)
      by_cases h9 : k < j
      · have hq : (bitK xs (k : Int) == bitK ys (k : Int)) = true := by simp [H3.out k h9]
        go_wp2_with fail
        refine (HBA.out n _ (by omega) (by omega)).mono ?_
        rintro e w' ⟨rfl, rfl⟩
        go_wp2_with fail
        refine (HBB.out n _ (by omega) (by omega)).mono ?_
        rintro e w' ⟨rfl, rfl⟩
        go_wp2
        go_roundw
        case rel => exact ⟨k + 1, by go_num, by omega, by first | rfl | trivial⟩
        case measure => simp [intOf]; omega
      · obtain rfl : k = j := by omega
        have hq : (bitK xs (k : Int) == bitK ys (k : Int)) = false := by simpa using H5.out
        go_wp2_with fail
        refine (HBA.out n _ (by omega) (by omega)).mono ?_
        rintro e w' ⟨rfl, rfl⟩
        go_wp2_with fail
        refine (HBB.out n _ (by omega) (by omega)).mono ?_
        rintro e w' ⟨rfl, rfl⟩
        go_wp2
        go_ret
        exact ⟨ret_int HD.out.symm, n, rfl⟩

end Go.Proofs.Ytnedcoomldmhhaa
