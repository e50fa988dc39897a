/- Contracts of the document's own Compare and Differ. -/
import Derived.Test.YtinogmjmmccfmaaDiffer
import Derived.Test.YtinogmjmmccfmaaStrs
namespace Go.Proofs.Ytinogmjmmccfmaa
open Go.RowKit
set_option linter.unusedVariables false

set_option maxHeartbeats 400000 in
theorem rcompare_any (a b : Option Addr) (xs ys : List Int) (ca cb : Nat) (w : World) (ha : Rd w a xs) (hb : Rd w b ys) :
    Calls Try.prog 17 #[.slice a xs.length ca, .slice b ys.length cb] w fun e w' => e = .returned (.int .i64 (cmpK xs ys)) ∧ w' = w := by
  have k1 := conv_str (P := Try.prog) (src := 22) (dst := 9) Try.underlying22 Try.underlying5 Try.underlying9 ha ca
  have k2 := conv_str (P := Try.prog) (src := 22) (dst := 9) Try.underlying22 Try.underlying5 Try.underlying9 hb cb
  have l1 := less_cmp xs ys ha.1 hb.1
  have l2 := strs_eq xs ys ha.1 hb.1
  have hr := cmpK_range xs ys
  have hz := cmpK_zero xs ys
  rw [← strNums_toList, ← strNums_toList] at l1 l2
  generalize strOfNums xs = s at *
  generalize strOfNums ys = t at *
  clear ha hb
  rcases hr with h | h | h
  · rw [h] at l1
    simp at l1
    have HV := hide h
    clear h hz l2
    go_enter Try.func17, Try.ntmps17
    go_wp2
    go_ret
    exact ⟨ret_int HV.out.symm, rfl⟩
  · rw [h] at l1
    simp at l1
    have e := hz.1 h
    rw [decide_eq_true e] at l2
    have HV := hide h
    clear h hz e
    go_enter Try.func17, Try.ntmps17
    go_wp2
    go_ret
    exact ⟨ret_int HV.out.symm, rfl⟩
  · rw [h] at l1
    simp at l1
    have e : ¬ xs = ys := fun e => by have := hz.2 e; omega
    rw [decide_eq_false e] at l2
    have HV := hide h
    clear h hz e
    go_enter Try.func17, Try.ntmps17
    go_wp2
    go_ret
    exact ⟨ret_int HV.out.symm, rfl⟩

set_option maxHeartbeats 400000 in
theorem rdiffer_any (a b : Option Addr) (xs ys : List Int) (ca cb : Nat) (w : World) (ha : Rd w a xs) (hb : Rd w b ys) (hs : xs.length ≤ 1000000) :
    Calls Try.prog 23 #[.slice a xs.length ca, .slice b ys.length cb] w fun e w' => e = .returned (.int .i64 (differK xs ys)) ∧ ∃ n, w' = w.drewN n := by
  have k1 := conv_str (P := Try.prog) (src := 22) (dst := 9) Try.underlying22 Try.underlying5 Try.underlying9 ha ca
  have k2 := conv_str (P := Try.prog) (src := 22) (dst := 9) Try.underlying22 Try.underlying5 Try.underlying9 hb cb
  have l2 := strs_eq xs ys ha.1 hb.1
  have hsp := differK_spec xs ys ha.1 hb.1
  rw [← strNums_toList, ← strNums_toList] at l2
  generalize strOfNums xs = s at *
  generalize strOfNums ys = t at *
  rcases hsp with ⟨he, hd⟩ | ⟨j, he, hd, hj1, hj2, hj3, _, hj5⟩
  · rw [decide_eq_true he] at l2
    have HV := hide hd
    clear hd ha hb he
    go_enter Try.func23, Try.ntmps23
    go_wp2
    go_ret
    exact ⟨ret_int HV.out.symm, 0, rfl⟩
  · rw [decide_eq_false he] at l2
    have HC := hide (rcommon_any a b xs ys ca cb w ha hb)
    have hle := common_le xs ys
    have HBA := hide fun n i h1 h2 => rbit_any a xs ca i (w.drewN n) (ha.drewN n) h1 h2
    have HBB := hide fun n i h1 h2 => rbit_any b ys cb i (w.drewN n) (hb.drewN n) h1 h2
    have HD := hide hd
    have H3 := hide hj3
    have H5 := hide hj5
    clear ha hb hd hj3 hj5 he
    generalize common xs ys = c at *
    go_enter Try.func23, Try.ntmps23
    go_wp2_with fail
    refine HC.out.mono ?_
    rintro e w' ⟨rfl, n, rfl⟩
    go_wp2_with fail
    go_loopw [5] (fun v wr => ∃ k : Nat, v = .int .i64 (k : Int) ∧ k ≤ j ∧ wr = w.drewN n) (fun v _ => j - (intOf v).toNat)
    case atStart => exact ⟨9 * c, by simp, by omega, rfl⟩
    case round =>
      obtain ⟨k, rfl, hk, hwr⟩ := hrel
      subst hwr
      have hb1 := bitK_range xs (k : Int)
      have hb2 := bitK_range ys (k : Int)
      by_cases h9 : k < j
      · have hq : (bitK xs (k : Int) == bitK ys (k : Int)) = true := by simp [H3.out k h9]
        go_wp2_with fail
        refine (HBA.out n _ (by omega) (by omega)).mono ?_
        rintro e w' ⟨rfl, rfl⟩
        go_wp2_with fail
        refine (HBB.out n _ (by omega) (by omega)).mono ?_
        rintro e w' ⟨rfl, rfl⟩
        go_wp2
        go_roundw
        case rel => exact ⟨k + 1, by go_num, by omega, by first | rfl | trivial⟩
        case measure => simp [intOf]; omega
      · obtain rfl : k = j := by omega
        have hq : (bitK xs (k : Int) == bitK ys (k : Int)) = false := by simpa using H5.out
        go_wp2_with fail
        refine (HBA.out n _ (by omega) (by omega)).mono ?_
        rintro e w' ⟨rfl, rfl⟩
        go_wp2_with fail
        refine (HBB.out n _ (by omega) (by omega)).mono ?_
        rintro e w' ⟨rfl, rfl⟩
        go_wp2
        go_ret
        exact ⟨ret_int HD.out.symm, n, rfl⟩

end Go.Proofs.Ytinogmjmmccfmaa
