/- The walk of KeyBits: for every two keys the law returns true and turns nothing that was there. -/
import Derived.Test.YtinogmjmmccfmaaAwake
namespace Go.Proofs.Ytinogmjmmccfmaa
open Go.RowKit
set_option linter.unusedVariables false

/-- A slice of bytes that came in, in the words of the walks. -/
theorem isRow_rd {w : World} {a : Option Addr} {len cap : Nat} {zs : List Int} (h : (a = none ∧ len = 0 ∧ cap = 0 ∧ zs = []) ∨
  ∃ x, a = some x ∧ len ≤ cap ∧ cap ≤ maxLen ∧ zs.length = cap ∧ (∀ i, i < zs.length → w.cell? (x.add i) = some (.int .u8 (zs.getD i 0))) ∧ ∀ n ∈ zs, (Lit.int .u8 n).wf = true) :
    ∃ xs : List Int, len = xs.length ∧ Rd w a xs ∧ xs.length ≤ cap ∧ cap ≤ maxLen := by
  rcases h with ⟨rfl, rfl, rfl, rfl⟩ | ⟨x, rfl, hl, hm, hz, hc, hw⟩
  · exact ⟨[], rfl, Rd.nil _ _, Nat.le_refl _, Nat.zero_le _⟩
  · have hlen : (zs.take len).length = len := by simp; omega
    refine ⟨zs.take len, hlen.symm, ⟨fun y hy => ?_, by omega, ?_⟩, by omega, hm⟩
    · have := hw y (List.mem_of_mem_take hy)
      have e1 : IntKind.u8.min = 0 := by decide
      have e2 : IntKind.u8.max = 255 := by decide
      simp [Lit.wf, e1, e2] at this
      omega
    · by_cases h0 : len = 0
      · exact .inl (List.eq_nil_of_length_eq_zero (by omega))
      · obtain ⟨b, off, spot⟩ := x
        have hs : spot = none := by simpa [Addr.add] using World.cell?_spot (hc 0 (by omega))
        subst hs
        refine .inr ⟨b, off, rfl, fun i hi => ?_⟩
        have := hc i (by omega)
        simp only [List.getD_eq_getElem?_getD, List.getElem?_take, show i < len by omega, if_true] at this ⊢
        have hplain : (⟨b, off, none⟩ : Addr).add i = ⟨b, off + i, none⟩ := by unfold Addr.add; split <;> simp_all
        rwa [hplain] at this

set_option maxHeartbeats 1000000 in
theorem keyBits_walk (a b : Option Addr) (xs ys : List Int) (ca cb : Nat) (w : World) (ha : Rd w a xs) (hb : Rd w b ys) :
    Calls Try.prog 4 #[.slice a xs.length ca, .slice b ys.length cb] w fun e w' => e = .returned (.bool true) ∧ Below w.heap.size w w' := by
  have hl1 := ha.2.1
  have hl2 := hb.2.1
  unfold maxLen at hl1 hl2
  have F := start w
  have HA := hide ha
  have HB := hide hb
  by_cases hlen : xs.length ≤ 40 ∧ ys.length ≤ 40
  · obtain ⟨h1, h2⟩ := hlen
    have hle := common_le xs ys
    have hcr := cmpK_range xs ys
    rcases differK_spec xs ys ha.1 hb.1 with ⟨he, hd⟩ | ⟨j, hne, hd, hj1, hj2, hj3, hj4, hj5⟩
    · have hc0 : cmpK xs ys = 0 := (cmpK_zero xs ys).2 he
      have D := fun w' h1 h2 h3 => differ_b a b xs ys ca cb w' h1 h2 h3
      have C := fun w' h1 h2 => compare_b a b xs ys ca cb w' h1 h2
      have S := fun w' h1 h2 => same_b a b xs ys ca cb w' h1 h2
      rw [hd] at D
      rw [hc0] at C
      rw [decide_eq_true he] at S
      have HD := hide D
      have HC := hide C
      have HS := hide S
      clear D C S hd hc0 he hcr hle ha hb
      go_enter Try.func4, Try.ntmps4
      go_wp2_with fail
      refine (HD.out _ (Rd.now HA F) (Rd.now HB F) (by omega)).mono ?_
      rintro e w1 ⟨rfl, k⟩
      replace F := step F k
      clear k
      go_wp2_with fail
      refine (HC.out _ (Rd.now HA F) (Rd.now HB F)).mono ?_
      rintro e w2 ⟨rfl, k⟩
      replace F := step F k
      clear k
      go_wp2_with fail
      refine (HS.out _ (Rd.now HA F) (Rd.now HB F)).mono ?_
      rintro e w3 ⟨rfl, k⟩
      replace F := step F k
      clear k
      go_wp2_with fail
      refine (awake_any _).mono ?_
      rintro e w4 ⟨rfl, k⟩
      replace F := step F k
      clear k
      go_wp2
      go_ret
      exact ⟨rfl, F.out⟩
    · have HJ3 := hide hj3
      have HD := hide fun w' h1 h2 h3 => (by have D := differ_b a b xs ys ca cb w' h1 h2 h3; rwa [hd] at D)
      have HD2 := hide fun w' h1 h2 h3 => (by have D := differ_b b a ys xs cb ca w' h1 h2 h3; rwa [differK_comm ys xs, hd] at D)
      have HC := hide fun w' h1 h2 => compare_b a b xs ys ca cb w' h1 h2
      have HC2 := hide fun w' h1 h2 => (by have D := compare_b b a ys xs cb ca w' h1 h2; rwa [cmpK_swap xs ys] at D)
      have hb1 := bitK_range xs (j : Int)
      have hb2 := bitK_range ys (j : Int)
      have hq : (bitK xs (j : Int) - bitK ys (j : Int) == cmpK xs ys) = true := by simpa using hj4
      clear hd hj3 hj4 hj5 hne ha hb
      have hcb : -1 ≤ cmpK xs ys ∧ cmpK xs ys ≤ 1 := by omega
      clear hcr
      generalize cmpK xs ys = c at *
      go_enter Try.func4, Try.ntmps4
      go_wp2_with fail
      refine (HD.out _ (Rd.now HA F) (Rd.now HB F) (by omega)).mono ?_
      rintro e w1 ⟨rfl, k⟩
      replace F := step F k
      clear k
      go_wp2_with fail
      refine (HC.out _ (Rd.now HA F) (Rd.now HB F)).mono ?_
      rintro e w2 ⟨rfl, k⟩
      replace F := step F k
      clear k
      go_wp2_with fail
      go_loopw [7] (fun v wr => ∃ t : Nat, v = .int .i64 t ∧ t ≤ j ∧ Below w.heap.size w wr) (fun v _ => j - (intOf v).toNat)
      case atStart => exact ⟨0, rfl, by omega, F.out⟩
      case round =>
        obtain ⟨t, rfl, ht, hbl⟩ := hrel
        replace F := hide hbl
        clear hbl
        by_cases htj : t < j
        · have hq2 : (bitK xs (t : Int) != bitK ys (t : Int)) = false := by simp [HJ3.out t htj]
          have hx1 := bitK_range xs (t : Int)
          have hx2 := bitK_range ys (t : Int)
          go_wp2_with fail
          refine (bit_b a xs ca _ _ (Rd.now HA F) (by omega) (by omega)).mono ?_
          rintro e w3 ⟨rfl, k⟩
          replace F := step F k
          clear k
          go_wp2_with fail
          refine (bit_b b ys cb _ _ (Rd.now HB F) (by omega) (by omega)).mono ?_
          rintro e w4 ⟨rfl, k⟩
          replace F := step F k
          clear k
          go_wp2
          go_roundw
          case rel => exact ⟨t + 1, by go_num, by omega, F.out⟩
          case measure => simp [intOf]; omega
        · go_wp2_with fail
          refine (bit_b a xs ca _ _ (Rd.now HA F) (by omega) (by omega)).mono ?_
          rintro e w3 ⟨rfl, k⟩
          replace F := step F k
          clear k
          go_wp2_with fail
          refine (bit_b b ys cb _ _ (Rd.now HB F) (by omega) (by omega)).mono ?_
          rintro e w4 ⟨rfl, k⟩
          replace F := step F k
          clear k
          go_wp2_with fail
          refine (HC2.out _ (Rd.now HB F) (Rd.now HA F)).mono ?_
          rintro e w5 ⟨rfl, k⟩
          replace F := step F k
          clear k
          go_wp2_with fail
          refine (HD2.out _ (Rd.now HB F) (Rd.now HA F) (by omega)).mono ?_
          rintro e w6 ⟨rfl, k⟩
          replace F := step F k
          clear k
          go_wp2_with fail
          refine (awake_any _).mono ?_
          rintro e w7 ⟨rfl, k⟩
          replace F := step F k
          clear k
          go_wp2
          go_ret
          exact ⟨rfl, F.out⟩
  · have hor : 40 < xs.length ∨ 40 < ys.length := by omega
    clear hlen ha hb
    by_cases h1 : 40 < xs.length
    · go_enter Try.func4, Try.ntmps4
      go_wp2_with fail
      refine (awake_any _).mono ?_
      rintro e w7 ⟨rfl, k⟩
      replace F := step F k
      clear k
      go_wp2
      go_ret
      exact ⟨rfl, F.out⟩
    · have h2 : 40 < ys.length := by omega
      go_enter Try.func4, Try.ntmps4
      go_wp2_with fail
      refine (awake_any _).mono ?_
      rintro e w7 ⟨rfl, k⟩
      replace F := step F k
      clear k
      go_wp2
      go_ret
      exact ⟨rfl, F.out⟩

end Go.Proofs.Ytinogmjmmccfmaa
