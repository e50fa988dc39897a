/- The document's own meter (brambleref3). -/
import Derived.Test.YtkofnjpjfnedpaaLongs
namespace Go.Proofs.Ytkofnjpjfnedpaa
open Go.RowKit
set_option linter.unusedVariables false

abbrev Rt (w : World) (h : Nat) (cs : List Int) : Prop := Blk w h 29 (i64s cs)
/-- Numbers that an int64 holds. -/
def Rng (cs : List Int) : Prop := ∀ x ∈ cs, -9223372036854775808 ≤ x ∧ x ≤ 9223372036854775807
theorem Rng.at {cs : List Int} (h : Rng cs) (k : Nat) (hk : k < cs.length) : -9223372036854775808 ≤ cAt cs k ∧ cAt cs k ≤ 9223372036854775807 := h _ (by simp [cAt, hk])
theorem Rng.set {cs : List Int} (h : Rng cs) (k : Nat) (v : Int) (hv : -9223372036854775808 ≤ v ∧ v ≤ 9223372036854775807) : Rng (cs.set k v) := by
  intro x hx
  rcases List.mem_or_eq_of_mem_set hx with h' | h'
  · exact h x h'
  · rw [h']; exact hv
theorem wrap64_rng (x : Int) : -9223372036854775808 ≤ wrap64 x ∧ wrap64 x ≤ 9223372036854775807 := by unfold wrap64; omega
theorem i64s_put (cs : List Int) (k : Nat) (v : Int) : (i64s cs).set k (.int .i64 v) = i64s (cs.set k v) := by simp [i64s, List.map_set]

theorem there_any (i : Int) (w : World) : Calls Try.prog 25 #[.int .i64 i] w fun e w' => e = .returned (.bool (decide (0 ≤ i) && decide (i < 12))) ∧ w' = w := by
  go_enter Try.func25, Try.ntmps25
  go_wp2
  all_goals go_ret
  · exact ⟨ret_bool (by simp_all), rfl⟩
  · exact ⟨ret_bool (by simp; omega), rfl⟩

set_option maxHeartbeats 800000 in
theorem radd_in (h k : Nat) (n : Int) (cs : List Int) (w : World) (hb : Rt w h cs) (hl : cs.length = 12) (hk : k < 12) :
    Calls Try.prog 10 #[.pointer (some ⟨h, 0, none⟩), .int .i64 k, .int .i64 n] w fun e w' =>
      e = .returned (.int .i64 (wrap64 (cAt cs k + n))) ∧ Rt w' h (cs.set k (wrap64 (cAt cs k + n))) ∧ Only h w w' := by
  have hki : (k : Int) < 12 := by omega
  have hh : (decide ((0 : Int) ≤ k) && decide ((k : Int) < 12)) = true := by simp; omega
  have c1 : w.cell? ⟨h, k, none⟩ = some (.int .i64 (cAt cs k)) := (hb.cell k).trans (i64s_get _ k (by omega))
  have f1 := hb.frozen k
  have s1 := hb.set k (.int .i64 (wrap64 (cAt cs k + n)))
  rw [i64s_put] at s1
  have S1 := hide s1
  have O1 := hide ((Only.refl h w).setCell k (.int .i64 (wrap64 (cAt cs k + n))))
  clear s1 hb
  go_enter Try.func10, Try.ntmps10
  go_wp2_with (go_at_call 25; refine (there_any _ _).mono ?_; rintro e w' ⟨rfl, rfl⟩; rw [hh])
  go_region
  all_goals (
    go_wp2
    go_ret
    exact ⟨rfl, S1.out, O1.out.drew⟩)
theorem radd_out (p : Addr) (i n : Int) (w : World) (hi : ¬ (0 ≤ i ∧ i < 12)) :
    Calls Try.prog 10 #[.pointer (some p), .int .i64 i, .int .i64 n] w fun e w' => e = .returned (.int .i64 0) ∧ w' = w := by
  have hh : (decide (0 ≤ i) && decide (i < 12)) = false := by simp; omega
  go_enter Try.func10, Try.ntmps10
  go_wp2_with (go_at_call 25; refine (there_any _ _).mono ?_; rintro e w' ⟨rfl, rfl⟩; rw [hh])
  go_ret
  exact ⟨rfl, rfl⟩
theorem rget_in (h k : Nat) (cs : List Int) (w : World) (hb : Rt w h cs) (hl : cs.length = 12) (hr : Rng cs) (hk : k < 12) :
    Calls Try.prog 8 #[.pointer (some ⟨h, 0, none⟩), .int .i64 k] w fun e w' =>
      e = .returned (.int .i64 (cAt cs k)) ∧ Rt w' h cs ∧ Only h w w' := by
  have hw : wrap64 (cAt cs k + 0) = cAt cs k := by rw [Int.add_zero]; exact wrap64_in _ (hr.at k (by omega))
  have R := radd_in h k 0 cs w hb hl hk
  rw [hw, set_same cs k (by omega)] at R
  have RR := hide R
  clear R hb
  go_enter Try.func8, Try.ntmps8
  go_wp2_with fail
  refine RR.out.mono ?_
  rintro e w1 ⟨rfl, h1, o1⟩
  have H1 := hide h1
  have O1 := hide o1
  clear h1 o1
  go_wp2
  go_ret
  exact ⟨rfl, H1.out, O1.out⟩
theorem rget_out (p : Addr) (i : Int) (w : World) (hi : ¬ (0 ≤ i ∧ i < 12)) :
    Calls Try.prog 8 #[.pointer (some p), .int .i64 i] w fun e w' => e = .returned (.int .i64 0) ∧ w' = w := by
  go_enter Try.func8, Try.ntmps8
  go_wp2_with (go_at_call 10; refine (radd_out _ _ _ _ hi).mono ?_; rintro e w' ⟨rfl, rfl⟩)
  go_ret
  exact ⟨rfl, rfl⟩
set_option maxHeartbeats 800000 in
theorem rmost_in (h k : Nat) (n : Int) (cs : List Int) (w : World) (hb : Rt w h cs) (hl : cs.length = 12) (hr : Rng cs) (hn : -9223372036854775808 ≤ n ∧ n ≤ 9223372036854775807) (hk : k < 12) :
    Calls Try.prog 12 #[.pointer (some ⟨h, 0, none⟩), .int .i64 k, .int .i64 n] w fun e w' =>
      e = .returned (.int .i64 (mostIs cs k n)) ∧ Rt w' h (cs.set k (mostIs cs k n)) ∧ Only h w w' := by
  have hki : (k : Int) < 12 := by omega
  have hh : (decide ((0 : Int) ≤ k) && decide ((k : Int) < 12)) = true := by simp; omega
  have c1 : w.cell? ⟨h, k, none⟩ = some (.int .i64 (cAt cs k)) := (hb.cell k).trans (i64s_get _ k (by omega))
  have f1 := hb.frozen k
  by_cases hx : n ≤ cAt cs k
  · have hm : mostIs cs k n = cAt cs k := by rw [mostIs, if_pos hx]
    rw [hm, set_same cs k (by omega)]
    have B := hide hb
    have R := hide hr
    clear hb hr hm
    have hd : decide (cAt cs k < n) = false := by simp; omega
    go_enter Try.func12, Try.ntmps12
    go_wp2_with (go_at_call 25; refine (there_any _ _).mono ?_; rintro e w' ⟨rfl, rfl⟩; rw [hh])
    refine (rget_in h k cs _ B.out hl R.out hk).mono ?_
    rintro e w1 ⟨rfl, h1, o1⟩
    have H1 := hide h1
    have O1 := hide o1
    clear h1 o1
    go_wp2
    go_ret
    exact ⟨rfl, H1.out, O1.out⟩
  · have hm : mostIs cs k n = n := by rw [mostIs, if_neg hx]
    rw [hm]
    have s1 := hb.set k (.int .i64 n)
    rw [i64s_put] at s1
    have S1 := hide s1
    have O1 := hide ((Only.refl h w).setCell k (.int .i64 n))
    have R := hide (hr.set k n hn)
    have HA : Hid (cAt (cs.set k n) k = n) := by simp [Hid, cAt, hl, hk]
    have hl2 : (cs.set k n).length = 12 := by simp [hl]
    clear s1 hb hr hm
    have hd : decide (cAt cs k < n) = true := by simp; omega
    go_enter Try.func12, Try.ntmps12
    go_wp2_with (go_at_call 25; refine (there_any _ _).mono ?_; rintro e w' ⟨rfl, rfl⟩; rw [hh])
    refine (rget_in h k (cs.set k n) _ S1.out hl2 R.out hk).mono ?_
    rintro e w1 ⟨rfl, h1, o1⟩
    have H1 := hide h1
    have O2 := hide (O1.out.trans o1)
    rw [HA.out]
    clear h1 o1
    go_wp2
    go_ret
    exact ⟨rfl, H1.out, O2.out⟩
theorem rmost_out (p : Addr) (i n : Int) (w : World) (hi : ¬ (0 ≤ i ∧ i < 12)) :
    Calls Try.prog 12 #[.pointer (some p), .int .i64 i, .int .i64 n] w fun e w' => e = .returned (.int .i64 0) ∧ w' = w := by
  have hh : (decide (0 ≤ i) && decide (i < 12)) = false := by simp; omega
  go_enter Try.func12, Try.ntmps12
  go_wp2_with (first
    | (go_at_call 25; refine (there_any _ _).mono ?_; rintro e w' ⟨rfl, rfl⟩; rw [hh])
    | (go_at_call 8; refine (rget_out _ _ _ hi).mono ?_; rintro e w' ⟨rfl, rfl⟩))
  go_ret
  exact ⟨rfl, rfl⟩
set_option maxHeartbeats 800000 in
theorem rswap_in (h k : Nat) (old n : Int) (cs : List Int) (w : World) (hb : Rt w h cs) (hl : cs.length = 12) (hk : k < 12) :
    Calls Try.prog 14 #[.pointer (some ⟨h, 0, none⟩), .int .i64 k, .int .i64 old, .int .i64 n] w fun e w' =>
      e = .returned (.bool (isAt cs k old)) ∧ Rt w' h (swapped cs k old n) ∧ Only h w w' := by
  have hki : (k : Int) < 12 := by omega
  have hh : (decide ((0 : Int) ≤ k) && decide ((k : Int) < 12)) = true := by simp; omega
  have c1 : w.cell? ⟨h, k, none⟩ = some (.int .i64 (cAt cs k)) := (hb.cell k).trans (i64s_get _ k (by omega))
  have f1 := hb.frozen k
  by_cases hx : cAt cs k = old
  · have e1 : isAt cs k old = true := by simp [isAt, hx]
    have e2 : swapped cs k old n = cs.set k n := by rw [swapped, if_pos hx]
    rw [e1, e2]
    have hd : (cAt cs k != old) = false := by simp [hx]
    have s1 := hb.set k (.int .i64 n)
    rw [i64s_put] at s1
    have S1 := hide s1
    have O1 := hide ((Only.refl h w).setCell k (.int .i64 n))
    clear s1 hb hx e1 e2
    go_enter Try.func14, Try.ntmps14
    go_wp2_with (go_at_call 25; refine (there_any _ _).mono ?_; rintro e w' ⟨rfl, rfl⟩; rw [hh])
    go_ret
    exact ⟨rfl, S1.out, O1.out⟩
  · have e1 : isAt cs k old = false := by simp [isAt, hx]
    have e2 : swapped cs k old n = cs := by rw [swapped, if_neg hx]
    rw [e1, e2]
    have hd : (cAt cs k != old) = true := by simp [hx]
    have B := hide hb
    clear hb hx e1 e2
    go_enter Try.func14, Try.ntmps14
    go_wp2_with (go_at_call 25; refine (there_any _ _).mono ?_; rintro e w' ⟨rfl, rfl⟩; rw [hh])
    go_ret
    exact ⟨rfl, B.out, Only.refl _ _⟩
theorem rswap_out (p : Addr) (i old n : Int) (w : World) (hi : ¬ (0 ≤ i ∧ i < 12)) :
    Calls Try.prog 14 #[.pointer (some p), .int .i64 i, .int .i64 old, .int .i64 n] w fun e w' => e = .returned (.bool false) ∧ w' = w := by
  have hh : (decide (0 ≤ i) && decide (i < 12)) = false := by simp; omega
  go_enter Try.func14, Try.ntmps14
  go_wp2_with (go_at_call 25; refine (there_any _ _).mono ?_; rintro e w' ⟨rfl, rfl⟩; rw [hh])
  go_ret
  exact ⟨rfl, rfl⟩
end Go.Proofs.Ytkofnjpjfnedpaa
