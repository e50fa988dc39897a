/- Contracts of what is read of keys: key.Common, Compare, May and the document's Common, Begins, May. -/
import Derived.Test.YtnedcoomldmhhaaKey7
import Derived.Test.YtnedcoomldmhhaaByCalls
namespace Go.Proofs.Ytnedcoomldmhhaa
set_option maxRecDepth 20000
open Go.RowKit
set_option linter.unusedVariables false

set_option maxHeartbeats 400000 in
theorem common_any (a b : Option Addr) (xs ys : List Int) (ca cb : Nat) (w : World) (ha : Rd w a xs) (hb : Rd w b ys) :
    Calls Try.prog 88 #[.slice a xs.length ca, .slice b ys.length cb] w fun e w' => e = .returned (.int .i64 (common xs ys)) ∧ ∃ n, w' = w.drewN n := by
  obtain ⟨hxb, hxl, hxc⟩ := ha
  obtain ⟨hyb, hyl, hyc⟩ := hb
  unfold maxLen at hxl hyl
  go_enter Try.func88, Try.ntmps88
  go_wp2
  go_loopw [5] (fun v wr => ∃ k q : Nat, v = .int .i64 k ∧ k ≤ xs.length ∧ k ≤ ys.length ∧ wr = w.drewN q ∧ ∀ i, i < k → xs.getD i 0 = ys.getD i 0) (fun v _ => xs.length - (intOf v).toNat)
  case atStart => exact ⟨0, 0, rfl, by omega, by omega, rfl, fun i hi => by omega⟩
  case round =>
    obtain ⟨k, q, rfl, hk1, hk2, hwr, hall⟩ := hrel
    have HA : Hid (∀ i, i < k → xs.getD i 0 = ys.getD i 0) := hall
    clear hall
    by_cases h1 : k < xs.length
    · by_cases h2 : k < ys.length
      · rcases hxc with rfl | ⟨bx, ox, rfl, hxc⟩
        · simp at h1
        rcases hyc with rfl | ⟨by', oy, rfl, hyc⟩
        · simp at h2
        have c1 : wr.cell? ⟨bx, ox + k, none⟩ = some (.int .u8 (xs.getD k 0)) := by rw [hwr]; exact hxc k h1
        have c2 : wr.cell? ⟨by', oy + k, none⟩ = some (.int .u8 (ys.getD k 0)) := by rw [hwr]; exact hyc k h2
        have HW : Hid (wr = w.drewN q) := hwr
        clear hwr hxc hyc
        generalize hx : xs.getD k 0 = x at *
        generalize hy : ys.getD k 0 = y at *
        have HX := hide hx
        have HY := hide hy
        clear hx hy
        by_cases h3 : x = y
        · have h4 : (x == y) = true := by simpa using h3
          have H3 := hide h3
          clear h3
          go_wp2
          go_quiet (fail)
          go_wp2
          go_roundw
          case rel =>
            refine ⟨k + 1, q + nq, by go_num, by omega, by omega, by rw [HW.out]; simp, fun i hi => ?_⟩
            by_cases e : i = k
            · subst e; rw [HX.out, HY.out]; exact H3.out
            · exact HA.out i (by omega)
          case measure => simp [intOf]; omega
        · have h4 : (x == y) = false := by simpa using h3
          have H3 := hide h3
          clear h3
          go_wp2
          go_quiet (fail)
          go_wp2
          go_ret
          refine ⟨ret_int (by rw [common_of xs ys k hk1 hk2 HA.out (.inr (.inr (by rw [HX.out, HY.out]; exact H3.out)))]), q + nq, by rw [HW.out]; simp⟩
      · have hd1 : decide ((k : Int) < (xs.length : Int)) = true := by simp; omega
        have hd : decide ((k : Int) < (ys.length : Int)) = false := by simp; omega
        have HW : Hid (wr = w.drewN q) := hwr
        clear hwr hxc hyc
        go_wp2
        go_quiet (fail)
        go_wp2
        go_ret
        refine ⟨ret_int (by rw [common_of xs ys k hk1 hk2 HA.out (by omega)]), q + nq, by rw [HW.out]; simp⟩
    · have hd : decide ((k : Int) < (xs.length : Int)) = false := by simp; omega
      have HW : Hid (wr = w.drewN q) := hwr
      clear hwr hxc hyc
      go_wp2
      go_quiet (fail)
      go_wp2
      go_ret
      refine ⟨ret_int (by rw [common_of xs ys k hk1 hk2 HA.out (by omega)]), q + nq, by rw [HW.out]; simp⟩

set_option maxHeartbeats 400000 in
theorem compare_any (a b : Option Addr) (xs ys : List Int) (ca cb : Nat) (w : World) (ha : Rd w a xs) (hb : Rd w b ys) :
    Calls Try.prog 92 #[.slice a xs.length ca, .slice b ys.length cb] w fun e w' => e = .returned (.int .i64 (cmpK xs ys)) ∧ ∃ n, w' = w.drewN n := by
  have hle := common_le xs ys
  have CA := fun w' (n : Nat) (h : w' = w.drewN n) => common_any a b xs ys ca cb w' (by rw [h]; exact ha.drewN n) (by rw [h]; exact hb.drewN n)
  have hC := common_any a b xs ys ca cb w ha hb
  have HC := hide hC
  clear CA hC
  have hdef : Hid (cmpK xs ys = cmpK xs ys) := rfl
  obtain ⟨hxb, hxl, hxc⟩ := ha
  obtain ⟨hyb, hyl, hyc⟩ := hb
  unfold maxLen at hxl hyl
  by_cases h1 : common xs ys = xs.length
  · by_cases h2 : common xs ys = ys.length
    · have hv : cmpK xs ys = 0 := by unfold cmpK; rw [if_pos h1, if_pos h2]
      generalize hc : common xs ys = c at *
      have e1 : ((c : Int) == (xs.length : Int)) = true := by simp; omega
      have e2 : ((c : Int) == (ys.length : Int)) = true := by simp; omega
      have HV := hide hv
      clear hv h1 h2 hc hxc hyc
      go_enter Try.func92, Try.ntmps92
      go_wp2_with fail
      refine HC.out.mono ?_
      rintro e w' ⟨rfl, n, rfl⟩
      go_wp2
      go_ret
      exact ⟨ret_int HV.out.symm, n, rfl⟩
    · have hv : cmpK xs ys = -1 := by unfold cmpK; rw [if_pos h1, if_neg h2]
      generalize hc : common xs ys = c at *
      have e1 : ((c : Int) == (xs.length : Int)) = true := by simp; omega
      have e2 : ((c : Int) == (ys.length : Int)) = false := by simp; omega
      have HV := hide hv
      clear hv h1 h2 hc hxc hyc
      go_enter Try.func92, Try.ntmps92
      go_wp2_with fail
      refine HC.out.mono ?_
      rintro e w' ⟨rfl, n, rfl⟩
      go_wp2
      go_ret
      exact ⟨ret_int HV.out.symm, n, rfl⟩
  · by_cases h2 : common xs ys = ys.length
    · have hv : cmpK xs ys = 1 := by unfold cmpK; rw [if_neg h1, if_pos h2]
      generalize hc : common xs ys = c at *
      have e1 : ((c : Int) == (xs.length : Int)) = false := by simp; omega
      have e2 : ((c : Int) == (ys.length : Int)) = true := by simp; omega
      have HV := hide hv
      clear hv h1 h2 hc hxc hyc
      go_enter Try.func92, Try.ntmps92
      go_wp2_with fail
      refine HC.out.mono ?_
      rintro e w' ⟨rfl, n, rfl⟩
      go_wp2
      go_ret
      exact ⟨ret_int HV.out.symm, n, rfl⟩
    · rcases hxc with rfl | ⟨bx, ox, rfl, hxc⟩
      · simp [common] at h1
      rcases hyc with rfl | ⟨by', oy, rfl, hyc⟩
      · simp [common_comm xs [], common] at h2
      have c1 := hxc (common xs ys) (by omega)
      have c2 := hyc (common xs ys) (by omega)
      have hv : cmpK xs ys = if xs.getD (common xs ys) 0 < ys.getD (common xs ys) 0 then -1 else 1 := by unfold cmpK; rw [if_neg h1, if_neg h2]
      have l1 : common xs ys < xs.length := by omega
      have l2 : common xs ys < ys.length := by omega
      generalize hc : common xs ys = c at *
      generalize xs.getD c 0 = x at *
      generalize ys.getD c 0 = y at *
      have e1 : ((c : Int) == (xs.length : Int)) = false := by simp; omega
      have e2 : ((c : Int) == (ys.length : Int)) = false := by simp; omega
      have HV := hide hv
      clear hv h1 h2 hc hxc hyc
      by_cases h3 : x < y
      · go_enter Try.func92, Try.ntmps92
        go_wp2_with fail
        refine HC.out.mono ?_
        rintro e w' ⟨rfl, n, rfl⟩
        go_wp2
        go_quiet (fail)
        go_wp2
        go_ret
        exact ⟨ret_int (by rw [HV.out, if_pos h3]), n + nq, by simp⟩
      · go_enter Try.func92, Try.ntmps92
        go_wp2_with fail
        refine HC.out.mono ?_
        rintro e w' ⟨rfl, n, rfl⟩
        go_wp2
        go_quiet (fail)
        go_wp2
        go_ret
        exact ⟨ret_int (by rw [HV.out, if_neg (by omega)]), n + nq, by simp⟩

set_option maxHeartbeats 400000 in
theorem rcommon_any (a b : Option Addr) (xs ys : List Int) (ca cb : Nat) (w : World) (ha : Rd w a xs) (hb : Rd w b ys) :
    Calls Try.prog 41 #[.slice a xs.length ca, .slice b ys.length cb] w fun e w' => e = .returned (.int .i64 (common xs ys)) ∧ ∃ n, w' = w.drewN n := by
  obtain ⟨hxb, hxl, hxc⟩ := ha
  obtain ⟨hyb, hyl, hyc⟩ := hb
  unfold maxLen at hxl hyl
  go_enter Try.func41, Try.ntmps41
  go_wp2
  go_loopw [5] (fun v wr => ∃ k q : Nat, v = .int .i64 k ∧ k ≤ xs.length ∧ k ≤ ys.length ∧ wr = w.drewN q ∧ ∀ i, i < k → xs.getD i 0 = ys.getD i 0) (fun v _ => xs.length - (intOf v).toNat)
  case atStart => exact ⟨0, 0, rfl, by omega, by omega, rfl, fun i hi => by omega⟩
  case round =>
    obtain ⟨k, q, rfl, hk1, hk2, hwr, hall⟩ := hrel
    have HA : Hid (∀ i, i < k → xs.getD i 0 = ys.getD i 0) := hall
    clear hall
    by_cases h1 : k < xs.length
    · by_cases h2 : k < ys.length
      · rcases hxc with rfl | ⟨bx, ox, rfl, hxc⟩
        · simp at h1
        rcases hyc with rfl | ⟨by', oy, rfl, hyc⟩
        · simp at h2
        have c1 : wr.cell? ⟨bx, ox + k, none⟩ = some (.int .u8 (xs.getD k 0)) := by rw [hwr]; exact hxc k h1
        have c2 : wr.cell? ⟨by', oy + k, none⟩ = some (.int .u8 (ys.getD k 0)) := by rw [hwr]; exact hyc k h2
        have HW : Hid (wr = w.drewN q) := hwr
        clear hwr hxc hyc
        generalize hx : xs.getD k 0 = x at *
        generalize hy : ys.getD k 0 = y at *
        have HX := hide hx
        have HY := hide hy
        clear hx hy
        by_cases h3 : x = y
        · have h4 : (x == y) = true := by simpa using h3
          have H3 := hide h3
          clear h3
          go_wp2
          go_quiet (fail)
          go_wp2
          go_roundw
          case rel =>
            refine ⟨k + 1, q + nq, by go_num, by omega, by omega, by rw [HW.out]; simp, fun i hi => ?_⟩
            by_cases e : i = k
            · subst e; rw [HX.out, HY.out]; exact H3.out
            · exact HA.out i (by omega)
          case measure => simp [intOf]; omega
        · have h4 : (x == y) = false := by simpa using h3
          have H3 := hide h3
          clear h3
          go_wp2
          go_quiet (fail)
          go_wp2
          go_ret
          refine ⟨ret_int (by rw [common_of xs ys k hk1 hk2 HA.out (.inr (.inr (by rw [HX.out, HY.out]; exact H3.out)))]), q + nq, by rw [HW.out]; simp⟩
      · have hd1 : decide ((k : Int) < (xs.length : Int)) = true := by simp; omega
        have hd : decide ((k : Int) < (ys.length : Int)) = false := by simp; omega
        have HW : Hid (wr = w.drewN q) := hwr
        clear hwr hxc hyc
        go_wp2
        go_quiet (fail)
        go_wp2
        go_ret
        refine ⟨ret_int (by rw [common_of xs ys k hk1 hk2 HA.out (by omega)]), q + nq, by rw [HW.out]; simp⟩
    · have hd : decide ((k : Int) < (xs.length : Int)) = false := by simp; omega
      have HW : Hid (wr = w.drewN q) := hwr
      clear hwr hxc hyc
      go_wp2
      go_quiet (fail)
      go_wp2
      go_ret
      refine ⟨ret_int (by rw [common_of xs ys k hk1 hk2 HA.out (by omega)]), q + nq, by rw [HW.out]; simp⟩

set_option maxHeartbeats 400000 in
theorem rbegins_any (a b : Option Addr) (xs ys : List Int) (ca cb : Nat) (w : World) (ha : Rd w a xs) (hb : Rd w b ys) :
    Calls Try.prog 57 #[.slice a xs.length ca, .slice b ys.length cb] w fun e w' => e = .returned (.bool ((common xs ys : Int) == (ys.length : Int))) ∧ ∃ n, w' = w.drewN n := by
  have HC := hide (rcommon_any a b xs ys ca cb w ha hb)
  have hle := common_le xs ys
  have hl1 := ha.2.1
  have hl2 := hb.2.1
  clear ha hb
  unfold maxLen at hl1 hl2
  go_enter Try.func57, Try.ntmps57
  go_wp2_with fail
  refine HC.out.mono ?_
  rintro e w' ⟨rfl, n, rfl⟩
  go_wp2
  go_ret
  exact ⟨rfl, n, rfl⟩

set_option maxHeartbeats 400000 in
theorem may_any (a : Option Addr) (n c : Nat) (w : World) (hn : n ≤ maxLen) :
    Calls Try.prog 73 #[.slice a n c] w fun e w' => e = .returned (.bool (decide ((n : Int) ≤ 65535))) ∧ w' = w := by
  unfold maxLen at hn
  go_enter Try.func73, Try.ntmps73
  go_wp2
  go_ret
  exact ⟨rfl, rfl⟩

set_option maxHeartbeats 400000 in
theorem rmay_any (a : Option Addr) (n c : Nat) (w : World) (hn : n ≤ maxLen) :
    Calls Try.prog 38 #[.slice a n c] w fun e w' => e = .returned (.bool (decide ((n : Int) ≤ 65535))) ∧ w' = w := by
  unfold maxLen at hn
  go_enter Try.func38, Try.ntmps38
  go_wp2
  go_ret
  exact ⟨rfl, rfl⟩

end Go.Proofs.Ytnedcoomldmhhaa
