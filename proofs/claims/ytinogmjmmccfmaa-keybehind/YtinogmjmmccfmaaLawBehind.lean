/- The walk of KeyBehind. -/
import Derived.Test.YtinogmjmmccfmaaLawThree
import Derived.Test.YtinogmjmmccfmaaVals
namespace Go.Proofs.Ytinogmjmmccfmaa
open Go.RowKit
set_option linter.unusedVariables false

set_option maxHeartbeats 1000000 in
theorem keyBehind_n_a (a b c : Option Addr) (ps ms ks : List Int) (ca cb cc : Nat) (w : World) (ha : Rd w a ps) (hb : Rd w b ms) (hc : Rd w c ks) (h1 : ps.length ≤ 30) (h2 : ms.length ≤ 30) (h3 : ks.length ≤ 30)
    (hok : stripN ps ps.length = 0) (hkp : cmpK ks ps = -1) :
    Calls Try.prog 5 #[.slice a ps.length ca, .slice b ms.length cb, .slice c ks.length cc] w fun e w' => e = .returned (.bool true) ∧ Below w.heap.size w w' := by
  have F := start w
  obtain ⟨v1, w1, r1, o1, g1, b1, _⟩ := append_u8 w 22 22 w.heap.size (.slice none 0 0) 0 [] (World.ownsRow_nil w _ _ _) _ _ _ (ha.src Try.underlying22 ca) (by omega) (Nat.le_refl _)
  have f1 : Below w.heap.size w w1 := (Below.refl _ _).grown g1 (Nat.le_refl _) (fun k hk => by cases hk)
  have hs1 := f1.size
  obtain ⟨v2, w2, r2, o2, g2, b2, _⟩ := append_u8 w1 22 22 w.heap.size v1 _ _ o1 _ _ _ ((hb.below f1 (Nat.le_refl _)).src Try.underlying22 cb) (by omega) hs1
  have f2 : Below w.heap.size w w2 := f1.grown g2 hs1 (fun k hk => (o1.lt k hk).1)
  simp only [List.nil_append, ← u8s_append] at o2
  have hall : IsBytes (ps ++ ms) := fun x hm => by
    simp only [List.mem_append] at hm
    rcases hm with hm | hm
    · exact ha.1 x hm
    · exact hb.1 x hm
  obtain ⟨aa, cA, rfl, ral, hn⟩ := owns_rd o2 hall
  replace F : Hid (Below w.heap.size w w2) := f2
  have RP := hide (ha.below f2 (Nat.le_refl _))
  have RK := hide (hc.below f2 (Nat.le_refl _))
  have RALL := hide ral
  have hbi := begins_iff ks ps hc.1 ha.1
  have hbi2 := begins_iff (ps ++ ms) ps hall ha.1
  have hcm : common (ps ++ ms) ps = ps.length := by
    have h := common_append ps ms []
    rw [List.append_nil] at h
    rw [h]
    cases ms <;> simp [common]
  have hbeh := beh_is ps
  rw [if_pos hok] at hbeh
  have Q := hide fun w' (h : Rd w' a ps) => (behind_any a ps ca w' h (by omega)).mono (R' := fun e w'' => e = .returned (.tuple #[.slice none 0 0, .bool false]) ∧ Below w'.heap.size w' w'') (by
    rintro e w'' (⟨_, he, hw⟩ | ⟨h0, _⟩)
    · exact ⟨he, by rw [hw]; exact Below.refl _ _⟩
    · omega)
  have q1 := (hbi2.1 hcm).1
  have hbg : ¬ common ks ps = ps.length := fun h => by have := (hbi.1 h).1; omega
  have hbg' : ((common ks ps : Int) == (ps.length : Int)) = false := by simp; omega
  have hcm' : ((common (ps ++ ms) ps : Int) == (ps.length : Int)) = true := by simp [hcm]
  have hln := least_next ks ps hc.1
  obtain ⟨d1, hd1⟩ : ∃ d, cmpK (ps ++ ms) ps = d := ⟨_, rfl⟩
  have C1 := hide fun a' b' ca' cb' w' => compare_v (ps ++ ms) ps d1 hd1 a' b' ca' cb' w'
  have hr1 : -1 ≤ d1 ∧ d1 ≤ 1 := by have := cmpK_range (ps ++ ms) ps; omega
  have hq1 : 0 ≤ d1 := by omega
  have C1' := hide fun a' b' ca' w' => C1.out a' b' ca' ca w'
  have B1 := hide (begins_v (ps ++ ms) ps _ hcm')
  have C3 := hide (compare_v ks ps _ hkp)
  have L := hide (least_v a ps ca ha.1 (by omega))
  have B2 := hide (begins_v ks ps _ hbg')
  have C5 := hide (compare_v (ps ++ [0]) ps _ (least_behind ps))
  have hla : (ps ++ ms).length ≤ 60 := by simp; omega
  have hln' : (ps ++ [0]).length ≤ 31 := by simp; omega
  have hlb : (behindK ps).length ≤ 31 := by have := stripN_le ps ps.length; simp [behindK]; omega
  clear hbi hbi2 hcm hbeh hbg hbg' hcm' hln hkp hd1 q1 o1 o2 g1 g2 f1 f2 hs1 b1 b2 ha hb hc hall ral C1' hok

  generalize ps ++ ms = als at *
  generalize ps ++ [0] = ns at *
  generalize behindK ps = bs at *
  go_enter Try.func5, Try.ntmps5
  go_wp2_with (first | (at_builtin; refine wpList_append_run rfl _ _ _ _ rfl _ _ _ _ rfl rfl r1 ?_) | (at_builtin; refine wpList_append_run rfl _ _ _ _ rfl _ _ _ _ rfl rfl r2 ?_))
  go_wp2_with fail
  refine (Q.out _ RP.out).mono ?_
  rintro e w1 ⟨rfl, k⟩
  replace F := step F k
  replace RP := hide (RP.out.below k (Nat.le_refl _))
  replace RK := hide (RK.out.below k (Nat.le_refl _))
  replace RALL := hide (RALL.out.below k (Nat.le_refl _))
  clear k
  go_wp2_with fail
  refine (C1.out _ _ _ _ _ RALL.out RP.out).mono ?_
  rintro e w2 ⟨rfl, k⟩
  replace F := step F k
  replace RP := hide (RP.out.below k (Nat.le_refl _))
  replace RK := hide (RK.out.below k (Nat.le_refl _))
  replace RALL := hide (RALL.out.below k (Nat.le_refl _))
  clear k
  go_wp2_with fail
  refine (B1.out _ _ _ _ _ RALL.out RP.out).mono ?_
  rintro e w4 ⟨rfl, k⟩
  replace F := step F k
  replace RP := hide (RP.out.below k (Nat.le_refl _))
  replace RK := hide (RK.out.below k (Nat.le_refl _))
  replace RALL := hide (RALL.out.below k (Nat.le_refl _))
  clear k
  go_wp2_with fail
  refine (C3.out _ _ _ _ _ RK.out RP.out).mono ?_
  rintro e w5 ⟨rfl, k⟩
  replace F := step F k
  replace RP := hide (RP.out.below k (Nat.le_refl _))
  replace RK := hide (RK.out.below k (Nat.le_refl _))
  replace RALL := hide (RALL.out.below k (Nat.le_refl _))
  clear k
  go_wp2_with fail
  refine (L.out _ RP.out).mono ?_
  rintro e w7 ⟨rfl, rn, k⟩
  replace F := step F k
  replace RP := hide (RP.out.below k (Nat.le_refl _))
  replace RK := hide (RK.out.below k (Nat.le_refl _))
  replace RALL := hide (RALL.out.below k (Nat.le_refl _))
  have RN := hide rn
  clear k rn
  go_wp2_with fail
  refine (B2.out _ _ _ _ _ RK.out RP.out).mono ?_
  rintro e w8 ⟨rfl, k⟩
  replace F := step F k
  replace RP := hide (RP.out.below k (Nat.le_refl _))
  replace RK := hide (RK.out.below k (Nat.le_refl _))
  replace RALL := hide (RALL.out.below k (Nat.le_refl _))
  replace RN := hide (RN.out.below k (Nat.le_refl _))
  clear k
  go_wp2_with fail
  refine (C5.out _ _ _ _ _ RN.out RP.out).mono ?_
  rintro e w9 ⟨rfl, k⟩
  replace F := step F k
  replace RP := hide (RP.out.below k (Nat.le_refl _))
  replace RK := hide (RK.out.below k (Nat.le_refl _))
  replace RALL := hide (RALL.out.below k (Nat.le_refl _))
  replace RN := hide (RN.out.below k (Nat.le_refl _))
  clear k
  go_wp2_with fail
  refine (C3.out _ _ _ _ _ RK.out RP.out).mono ?_
  rintro e w10 ⟨rfl, k⟩
  replace F := step F k
  replace RP := hide (RP.out.below k (Nat.le_refl _))
  replace RK := hide (RK.out.below k (Nat.le_refl _))
  replace RALL := hide (RALL.out.below k (Nat.le_refl _))
  replace RN := hide (RN.out.below k (Nat.le_refl _))
  clear k
  go_wp2_with fail
  refine (awake_any _).mono ?_
  rintro e w12 ⟨rfl, k⟩
  replace F := step F k
  clear k
  go_wp2
  go_ret
  exact ⟨rfl, F.out⟩

set_option maxHeartbeats 1000000 in
theorem keyBehind_n_b (a b c : Option Addr) (ps ms ks : List Int) (ca cb cc : Nat) (w : World) (ha : Rd w a ps) (hb : Rd w b ms) (hc : Rd w c ks) (h1 : ps.length ≤ 30) (h2 : ms.length ≤ 30) (h3 : ks.length ≤ 30)
    (hok : stripN ps ps.length = 0) (hkp : cmpK ks ps = 0) :
    Calls Try.prog 5 #[.slice a ps.length ca, .slice b ms.length cb, .slice c ks.length cc] w fun e w' => e = .returned (.bool true) ∧ Below w.heap.size w w' := by
  have F := start w
  obtain ⟨v1, w1, r1, o1, g1, b1, _⟩ := append_u8 w 22 22 w.heap.size (.slice none 0 0) 0 [] (World.ownsRow_nil w _ _ _) _ _ _ (ha.src Try.underlying22 ca) (by omega) (Nat.le_refl _)
  have f1 : Below w.heap.size w w1 := (Below.refl _ _).grown g1 (Nat.le_refl _) (fun k hk => by cases hk)
  have hs1 := f1.size
  obtain ⟨v2, w2, r2, o2, g2, b2, _⟩ := append_u8 w1 22 22 w.heap.size v1 _ _ o1 _ _ _ ((hb.below f1 (Nat.le_refl _)).src Try.underlying22 cb) (by omega) hs1
  have f2 : Below w.heap.size w w2 := f1.grown g2 hs1 (fun k hk => (o1.lt k hk).1)
  simp only [List.nil_append, ← u8s_append] at o2
  have hall : IsBytes (ps ++ ms) := fun x hm => by
    simp only [List.mem_append] at hm
    rcases hm with hm | hm
    · exact ha.1 x hm
    · exact hb.1 x hm
  obtain ⟨aa, cA, rfl, ral, hn⟩ := owns_rd o2 hall
  replace F : Hid (Below w.heap.size w w2) := f2
  have RP := hide (ha.below f2 (Nat.le_refl _))
  have RK := hide (hc.below f2 (Nat.le_refl _))
  have RALL := hide ral
  have hbi := begins_iff ks ps hc.1 ha.1
  have hbi2 := begins_iff (ps ++ ms) ps hall ha.1
  have hcm : common (ps ++ ms) ps = ps.length := by
    have h := common_append ps ms []
    rw [List.append_nil] at h
    rw [h]
    cases ms <;> simp [common]
  have hbeh := beh_is ps
  rw [if_pos hok] at hbeh
  have Q := hide fun w' (h : Rd w' a ps) => (behind_any a ps ca w' h (by omega)).mono (R' := fun e w'' => e = .returned (.tuple #[.slice none 0 0, .bool false]) ∧ Below w'.heap.size w' w'') (by
    rintro e w'' (⟨_, he, hw⟩ | ⟨h0, _⟩)
    · exact ⟨he, by rw [hw]; exact Below.refl _ _⟩
    · omega)
  have q1 := (hbi2.1 hcm).1
  have hbg : common ks ps = ps.length := hbi.2 ⟨by omega, fun b' hb' => by rw [hbeh] at hb'; cases hb'⟩
  have hbg' : ((common ks ps : Int) == (ps.length : Int)) = true := by simp [hbg]
  have hcm' : ((common (ps ++ ms) ps : Int) == (ps.length : Int)) = true := by simp [hcm]
  have hln := least_next ks ps hc.1
  obtain ⟨d1, hd1⟩ : ∃ d, cmpK (ps ++ ms) ps = d := ⟨_, rfl⟩
  have C1 := hide fun a' b' ca' cb' w' => compare_v (ps ++ ms) ps d1 hd1 a' b' ca' cb' w'
  have hr1 : -1 ≤ d1 ∧ d1 ≤ 1 := by have := cmpK_range (ps ++ ms) ps; omega
  have hq1 : 0 ≤ d1 := by omega
  have C1' := hide fun a' b' ca' w' => C1.out a' b' ca' ca w'
  have B1 := hide (begins_v (ps ++ ms) ps _ hcm')
  have C3 := hide (compare_v ks ps _ hkp)
  have L := hide (least_v a ps ca ha.1 (by omega))
  have B2 := hide (begins_v ks ps _ hbg')
  have C5 := hide (compare_v (ps ++ [0]) ps _ (least_behind ps))
  have hla : (ps ++ ms).length ≤ 60 := by simp; omega
  have hln' : (ps ++ [0]).length ≤ 31 := by simp; omega
  have hlb : (behindK ps).length ≤ 31 := by have := stripN_le ps ps.length; simp [behindK]; omega
  clear hbi hbi2 hcm hbeh hbg hbg' hcm' hln hkp hd1 q1 o1 o2 g1 g2 f1 f2 hs1 b1 b2 ha hb hc hall ral C1' hok

  generalize ps ++ ms = als at *
  generalize ps ++ [0] = ns at *
  generalize behindK ps = bs at *
  go_enter Try.func5, Try.ntmps5
  go_wp2_with (first | (at_builtin; refine wpList_append_run rfl _ _ _ _ rfl _ _ _ _ rfl rfl r1 ?_) | (at_builtin; refine wpList_append_run rfl _ _ _ _ rfl _ _ _ _ rfl rfl r2 ?_))
  go_wp2_with fail
  refine (Q.out _ RP.out).mono ?_
  rintro e w1 ⟨rfl, k⟩
  replace F := step F k
  replace RP := hide (RP.out.below k (Nat.le_refl _))
  replace RK := hide (RK.out.below k (Nat.le_refl _))
  replace RALL := hide (RALL.out.below k (Nat.le_refl _))
  clear k
  go_wp2_with fail
  refine (C1.out _ _ _ _ _ RALL.out RP.out).mono ?_
  rintro e w2 ⟨rfl, k⟩
  replace F := step F k
  replace RP := hide (RP.out.below k (Nat.le_refl _))
  replace RK := hide (RK.out.below k (Nat.le_refl _))
  replace RALL := hide (RALL.out.below k (Nat.le_refl _))
  clear k
  go_wp2_with fail
  refine (B1.out _ _ _ _ _ RALL.out RP.out).mono ?_
  rintro e w4 ⟨rfl, k⟩
  replace F := step F k
  replace RP := hide (RP.out.below k (Nat.le_refl _))
  replace RK := hide (RK.out.below k (Nat.le_refl _))
  replace RALL := hide (RALL.out.below k (Nat.le_refl _))
  clear k
  go_wp2_with fail
  refine (C3.out _ _ _ _ _ RK.out RP.out).mono ?_
  rintro e w5 ⟨rfl, k⟩
  replace F := step F k
  replace RP := hide (RP.out.below k (Nat.le_refl _))
  replace RK := hide (RK.out.below k (Nat.le_refl _))
  replace RALL := hide (RALL.out.below k (Nat.le_refl _))
  clear k
  go_wp2_with fail
  refine (L.out _ RP.out).mono ?_
  rintro e w7 ⟨rfl, rn, k⟩
  replace F := step F k
  replace RP := hide (RP.out.below k (Nat.le_refl _))
  replace RK := hide (RK.out.below k (Nat.le_refl _))
  replace RALL := hide (RALL.out.below k (Nat.le_refl _))
  have RN := hide rn
  clear k rn
  go_wp2_with fail
  refine (B2.out _ _ _ _ _ RK.out RP.out).mono ?_
  rintro e w8 ⟨rfl, k⟩
  replace F := step F k
  replace RP := hide (RP.out.below k (Nat.le_refl _))
  replace RK := hide (RK.out.below k (Nat.le_refl _))
  replace RALL := hide (RALL.out.below k (Nat.le_refl _))
  replace RN := hide (RN.out.below k (Nat.le_refl _))
  clear k
  go_wp2_with fail
  refine (C5.out _ _ _ _ _ RN.out RP.out).mono ?_
  rintro e w9 ⟨rfl, k⟩
  replace F := step F k
  replace RP := hide (RP.out.below k (Nat.le_refl _))
  replace RK := hide (RK.out.below k (Nat.le_refl _))
  replace RALL := hide (RALL.out.below k (Nat.le_refl _))
  replace RN := hide (RN.out.below k (Nat.le_refl _))
  clear k
  go_wp2_with fail
  refine (C3.out _ _ _ _ _ RK.out RP.out).mono ?_
  rintro e w10 ⟨rfl, k⟩
  replace F := step F k
  replace RP := hide (RP.out.below k (Nat.le_refl _))
  replace RK := hide (RK.out.below k (Nat.le_refl _))
  replace RALL := hide (RALL.out.below k (Nat.le_refl _))
  replace RN := hide (RN.out.below k (Nat.le_refl _))
  clear k
  go_wp2_with fail
  refine (awake_any _).mono ?_
  rintro e w12 ⟨rfl, k⟩
  replace F := step F k
  clear k
  go_wp2
  go_ret
  exact ⟨rfl, F.out⟩

set_option maxHeartbeats 1000000 in
theorem keyBehind_n_c (a b c : Option Addr) (ps ms ks : List Int) (ca cb cc : Nat) (w : World) (ha : Rd w a ps) (hb : Rd w b ms) (hc : Rd w c ks) (h1 : ps.length ≤ 30) (h2 : ms.length ≤ 30) (h3 : ks.length ≤ 30)
    (hok : stripN ps ps.length = 0) (hkp : cmpK ks ps = 1) :
    Calls Try.prog 5 #[.slice a ps.length ca, .slice b ms.length cb, .slice c ks.length cc] w fun e w' => e = .returned (.bool true) ∧ Below w.heap.size w w' := by
  have F := start w
  obtain ⟨v1, w1, r1, o1, g1, b1, _⟩ := append_u8 w 22 22 w.heap.size (.slice none 0 0) 0 [] (World.ownsRow_nil w _ _ _) _ _ _ (ha.src Try.underlying22 ca) (by omega) (Nat.le_refl _)
  have f1 : Below w.heap.size w w1 := (Below.refl _ _).grown g1 (Nat.le_refl _) (fun k hk => by cases hk)
  have hs1 := f1.size
  obtain ⟨v2, w2, r2, o2, g2, b2, _⟩ := append_u8 w1 22 22 w.heap.size v1 _ _ o1 _ _ _ ((hb.below f1 (Nat.le_refl _)).src Try.underlying22 cb) (by omega) hs1
  have f2 : Below w.heap.size w w2 := f1.grown g2 hs1 (fun k hk => (o1.lt k hk).1)
  simp only [List.nil_append, ← u8s_append] at o2
  have hall : IsBytes (ps ++ ms) := fun x hm => by
    simp only [List.mem_append] at hm
    rcases hm with hm | hm
    · exact ha.1 x hm
    · exact hb.1 x hm
  obtain ⟨aa, cA, rfl, ral, hn⟩ := owns_rd o2 hall
  replace F : Hid (Below w.heap.size w w2) := f2
  have RP := hide (ha.below f2 (Nat.le_refl _))
  have RK := hide (hc.below f2 (Nat.le_refl _))
  have RALL := hide ral
  have hbi := begins_iff ks ps hc.1 ha.1
  have hbi2 := begins_iff (ps ++ ms) ps hall ha.1
  have hcm : common (ps ++ ms) ps = ps.length := by
    have h := common_append ps ms []
    rw [List.append_nil] at h
    rw [h]
    cases ms <;> simp [common]
  have hbeh := beh_is ps
  rw [if_pos hok] at hbeh
  have Q := hide fun w' (h : Rd w' a ps) => (behind_any a ps ca w' h (by omega)).mono (R' := fun e w'' => e = .returned (.tuple #[.slice none 0 0, .bool false]) ∧ Below w'.heap.size w' w'') (by
    rintro e w'' (⟨_, he, hw⟩ | ⟨h0, _⟩)
    · exact ⟨he, by rw [hw]; exact Below.refl _ _⟩
    · omega)
  have q1 := (hbi2.1 hcm).1
  have hbg : common ks ps = ps.length := hbi.2 ⟨by omega, fun b' hb' => by rw [hbeh] at hb'; cases hb'⟩
  have hbg' : ((common ks ps : Int) == (ps.length : Int)) = true := by simp [hbg]
  have hcm' : ((common (ps ++ ms) ps : Int) == (ps.length : Int)) = true := by simp [hcm]
  have hln := least_next ks ps hc.1
  obtain ⟨d1, hd1⟩ : ∃ d, cmpK (ps ++ ms) ps = d := ⟨_, rfl⟩
  have C1 := hide fun a' b' ca' cb' w' => compare_v (ps ++ ms) ps d1 hd1 a' b' ca' cb' w'
  have hr1 : -1 ≤ d1 ∧ d1 ≤ 1 := by have := cmpK_range (ps ++ ms) ps; omega
  have hq1 : 0 ≤ d1 := by omega
  have C1' := hide fun a' b' ca' w' => C1.out a' b' ca' ca w'
  have B1 := hide (begins_v (ps ++ ms) ps _ hcm')
  have C3 := hide (compare_v ks ps _ hkp)
  have L := hide (least_v a ps ca ha.1 (by omega))
  have B2 := hide (begins_v ks ps _ hbg')
  have C5 := hide (compare_v (ps ++ [0]) ps _ (least_behind ps))
  obtain ⟨d6, hd6⟩ : ∃ d, cmpK ks (ps ++ [0]) = d := ⟨_, rfl⟩
  have hr6 : -1 ≤ d6 ∧ d6 ≤ 1 := by have := cmpK_range ks (ps ++ [0]); omega
  have hq6 : 0 ≤ d6 := by omega
  have C6 := hide (compare_v ks (ps ++ [0]) d6 hd6)
  have hla : (ps ++ ms).length ≤ 60 := by simp; omega
  have hln' : (ps ++ [0]).length ≤ 31 := by simp; omega
  have hlb : (behindK ps).length ≤ 31 := by have := stripN_le ps ps.length; simp [behindK]; omega
  clear hbi hbi2 hcm hbeh hbg hbg' hcm' hln hkp hd1 q1 o1 o2 g1 g2 f1 f2 hs1 b1 b2 ha hb hc hall ral C1' hok hd6

  generalize ps ++ ms = als at *
  generalize ps ++ [0] = ns at *
  generalize behindK ps = bs at *
  go_enter Try.func5, Try.ntmps5
  go_wp2_with (first | (at_builtin; refine wpList_append_run rfl _ _ _ _ rfl _ _ _ _ rfl rfl r1 ?_) | (at_builtin; refine wpList_append_run rfl _ _ _ _ rfl _ _ _ _ rfl rfl r2 ?_))
  go_wp2_with fail
  refine (Q.out _ RP.out).mono ?_
  rintro e w1 ⟨rfl, k⟩
  replace F := step F k
  replace RP := hide (RP.out.below k (Nat.le_refl _))
  replace RK := hide (RK.out.below k (Nat.le_refl _))
  replace RALL := hide (RALL.out.below k (Nat.le_refl _))
  clear k
  go_wp2_with fail
  refine (C1.out _ _ _ _ _ RALL.out RP.out).mono ?_
  rintro e w2 ⟨rfl, k⟩
  replace F := step F k
  replace RP := hide (RP.out.below k (Nat.le_refl _))
  replace RK := hide (RK.out.below k (Nat.le_refl _))
  replace RALL := hide (RALL.out.below k (Nat.le_refl _))
  clear k
  go_wp2_with fail
  refine (B1.out _ _ _ _ _ RALL.out RP.out).mono ?_
  rintro e w4 ⟨rfl, k⟩
  replace F := step F k
  replace RP := hide (RP.out.below k (Nat.le_refl _))
  replace RK := hide (RK.out.below k (Nat.le_refl _))
  replace RALL := hide (RALL.out.below k (Nat.le_refl _))
  clear k
  go_wp2_with fail
  refine (C3.out _ _ _ _ _ RK.out RP.out).mono ?_
  rintro e w5 ⟨rfl, k⟩
  replace F := step F k
  replace RP := hide (RP.out.below k (Nat.le_refl _))
  replace RK := hide (RK.out.below k (Nat.le_refl _))
  replace RALL := hide (RALL.out.below k (Nat.le_refl _))
  clear k
  go_wp2_with fail
  refine (L.out _ RP.out).mono ?_
  rintro e w7 ⟨rfl, rn, k⟩
  replace F := step F k
  replace RP := hide (RP.out.below k (Nat.le_refl _))
  replace RK := hide (RK.out.below k (Nat.le_refl _))
  replace RALL := hide (RALL.out.below k (Nat.le_refl _))
  have RN := hide rn
  clear k rn
  go_wp2_with fail
  refine (B2.out _ _ _ _ _ RK.out RP.out).mono ?_
  rintro e w8 ⟨rfl, k⟩
  replace F := step F k
  replace RP := hide (RP.out.below k (Nat.le_refl _))
  replace RK := hide (RK.out.below k (Nat.le_refl _))
  replace RALL := hide (RALL.out.below k (Nat.le_refl _))
  replace RN := hide (RN.out.below k (Nat.le_refl _))
  clear k
  go_wp2_with fail
  refine (C5.out _ _ _ _ _ RN.out RP.out).mono ?_
  rintro e w9 ⟨rfl, k⟩
  replace F := step F k
  replace RP := hide (RP.out.below k (Nat.le_refl _))
  replace RK := hide (RK.out.below k (Nat.le_refl _))
  replace RALL := hide (RALL.out.below k (Nat.le_refl _))
  replace RN := hide (RN.out.below k (Nat.le_refl _))
  clear k
  go_wp2_with fail
  refine (C3.out _ _ _ _ _ RK.out RP.out).mono ?_
  rintro e w10 ⟨rfl, k⟩
  replace F := step F k
  replace RP := hide (RP.out.below k (Nat.le_refl _))
  replace RK := hide (RK.out.below k (Nat.le_refl _))
  replace RALL := hide (RALL.out.below k (Nat.le_refl _))
  replace RN := hide (RN.out.below k (Nat.le_refl _))
  clear k
  go_wp2_with fail
  refine (C6.out _ _ _ _ _ RK.out RN.out).mono ?_
  rintro e w11 ⟨rfl, k⟩
  replace F := step F k
  replace RP := hide (RP.out.below k (Nat.le_refl _))
  replace RK := hide (RK.out.below k (Nat.le_refl _))
  replace RALL := hide (RALL.out.below k (Nat.le_refl _))
  replace RN := hide (RN.out.below k (Nat.le_refl _))
  clear k
  go_wp2_with fail
  refine (awake_any _).mono ?_
  rintro e w12 ⟨rfl, k⟩
  replace F := step F k
  clear k
  go_wp2
  go_ret
  exact ⟨rfl, F.out⟩

set_option maxHeartbeats 1000000 in
theorem keyBehind_y_a (a b c : Option Addr) (ps ms ks : List Int) (ca cb cc : Nat) (w : World) (ha : Rd w a ps) (hb : Rd w b ms) (hc : Rd w c ks) (h1 : ps.length ≤ 30) (h2 : ms.length ≤ 30) (h3 : ks.length ≤ 30)
    (hok : 0 < stripN ps ps.length) (hkp : cmpK ks ps = -1) :
    Calls Try.prog 5 #[.slice a ps.length ca, .slice b ms.length cb, .slice c ks.length cc] w fun e w' => e = .returned (.bool true) ∧ Below w.heap.size w w' := by
  have F := start w
  obtain ⟨v1, w1, r1, o1, g1, b1, _⟩ := append_u8 w 22 22 w.heap.size (.slice none 0 0) 0 [] (World.ownsRow_nil w _ _ _) _ _ _ (ha.src Try.underlying22 ca) (by omega) (Nat.le_refl _)
  have f1 : Below w.heap.size w w1 := (Below.refl _ _).grown g1 (Nat.le_refl _) (fun k hk => by cases hk)
  have hs1 := f1.size
  obtain ⟨v2, w2, r2, o2, g2, b2, _⟩ := append_u8 w1 22 22 w.heap.size v1 _ _ o1 _ _ _ ((hb.below f1 (Nat.le_refl _)).src Try.underlying22 cb) (by omega) hs1
  have f2 : Below w.heap.size w w2 := f1.grown g2 hs1 (fun k hk => (o1.lt k hk).1)
  simp only [List.nil_append, ← u8s_append] at o2
  have hall : IsBytes (ps ++ ms) := fun x hm => by
    simp only [List.mem_append] at hm
    rcases hm with hm | hm
    · exact ha.1 x hm
    · exact hb.1 x hm
  obtain ⟨aa, cA, rfl, ral, hn⟩ := owns_rd o2 hall
  replace F : Hid (Below w.heap.size w w2) := f2
  have RP := hide (ha.below f2 (Nat.le_refl _))
  have RK := hide (hc.below f2 (Nat.le_refl _))
  have RALL := hide ral
  have hbi := begins_iff ks ps hc.1 ha.1
  have hbi2 := begins_iff (ps ++ ms) ps hall ha.1
  have hcm : common (ps ++ ms) ps = ps.length := by
    have h := common_append ps ms []
    rw [List.append_nil] at h
    rw [h]
    cases ms <;> simp [common]
  have hbeh := beh_is ps
  rw [if_neg (by omega)] at hbeh
  have q2 := (hbi2.1 hcm).2 _ hbeh
  have hbb := behindK_bytes ha.1 hok
  have hbl := behindK_length (xs := ps) hok
  have hsl := stripN_le ps ps.length
  have Q := hide fun w' (h : Rd w' a ps) => (behind_any a ps ca w' h (by omega)).mono (R' := fun e w'' => e = .returned (.tuple #[.slice (some ⟨w'.heap.size, 0, none⟩) (behindK ps).length (behindK ps).length, .bool true]) ∧ Rd w'' (some ⟨w'.heap.size, 0, none⟩) (behindK ps) ∧ Below w'.heap.size w' w'') (by
    rintro e w'' (⟨h0, _⟩ | ⟨_, he, hbk, hf, _⟩)
    · omega
    · exact ⟨he, blk_rd hbk hbb (by unfold maxLen; omega), hf⟩)
  have C2 := hide fun r hr a' b' => compare_v (ps ++ ms) (behindK ps) r hr a' b'
  have C2 := hide (C2.out _ rfl)
  have q1 := (hbi2.1 hcm).1
  have hbg : ¬ common ks ps = ps.length := fun h => by have := (hbi.1 h).1; omega
  have hbg' : ((common ks ps : Int) == (ps.length : Int)) = false := by simp; omega
  have hcm' : ((common (ps ++ ms) ps : Int) == (ps.length : Int)) = true := by simp [hcm]
  have hln := least_next ks ps hc.1
  obtain ⟨d1, hd1⟩ : ∃ d, cmpK (ps ++ ms) ps = d := ⟨_, rfl⟩
  have C1 := hide fun a' b' ca' cb' w' => compare_v (ps ++ ms) ps d1 hd1 a' b' ca' cb' w'
  have hr1 : -1 ≤ d1 ∧ d1 ≤ 1 := by have := cmpK_range (ps ++ ms) ps; omega
  have hq1 : 0 ≤ d1 := by omega
  have C1' := hide fun a' b' ca' w' => C1.out a' b' ca' ca w'
  obtain ⟨d2, hd2⟩ : ∃ d, cmpK (ps ++ ms) (behindK ps) = d := ⟨_, rfl⟩
  have hr2 : -1 ≤ d2 ∧ d2 ≤ 1 := by have := cmpK_range (ps ++ ms) (behindK ps); omega
  have hq2 : d2 < 0 := by omega
  have C2 := hide (compare_v (ps ++ ms) (behindK ps) d2 hd2)
  have B1 := hide (begins_v (ps ++ ms) ps _ hcm')
  have C3 := hide (compare_v ks ps _ hkp)
  have L := hide (least_v a ps ca ha.1 (by omega))
  have B2 := hide (begins_v ks ps _ hbg')
  have C5 := hide (compare_v (ps ++ [0]) ps _ (least_behind ps))
  have hla : (ps ++ ms).length ≤ 60 := by simp; omega
  have hln' : (ps ++ [0]).length ≤ 31 := by simp; omega
  have hlb : (behindK ps).length ≤ 31 := by have := stripN_le ps ps.length; simp [behindK]; omega
  clear hbi hbi2 hcm hbeh hbg hbg' hcm' hln hkp hd1 q1 o1 o2 g1 g2 f1 f2 hs1 b1 b2 ha hb hc hall ral C1' hok q2 hbb hbl hd2 hsl

  generalize ps ++ ms = als at *
  generalize ps ++ [0] = ns at *
  generalize behindK ps = bs at *
  go_enter Try.func5, Try.ntmps5
  go_wp2_with (first | (at_builtin; refine wpList_append_run rfl _ _ _ _ rfl _ _ _ _ rfl rfl r1 ?_) | (at_builtin; refine wpList_append_run rfl _ _ _ _ rfl _ _ _ _ rfl rfl r2 ?_))
  go_wp2_with fail
  refine (Q.out _ RP.out).mono ?_
  rintro e w1 ⟨rfl, rb, k⟩
  replace F := step F k
  replace RP := hide (RP.out.below k (Nat.le_refl _))
  replace RK := hide (RK.out.below k (Nat.le_refl _))
  replace RALL := hide (RALL.out.below k (Nat.le_refl _))
  have RB := hide rb
  clear k rb
  go_wp2_with fail
  refine (C1.out _ _ _ _ _ RALL.out RP.out).mono ?_
  rintro e w2 ⟨rfl, k⟩
  replace F := step F k
  replace RP := hide (RP.out.below k (Nat.le_refl _))
  replace RK := hide (RK.out.below k (Nat.le_refl _))
  replace RALL := hide (RALL.out.below k (Nat.le_refl _))
  replace RB := hide (RB.out.below k (Nat.le_refl _))
  clear k
  go_wp2_with fail
  refine (C2.out _ _ _ _ _ RALL.out RB.out).mono ?_
  rintro e w3 ⟨rfl, k⟩
  replace F := step F k
  replace RP := hide (RP.out.below k (Nat.le_refl _))
  replace RK := hide (RK.out.below k (Nat.le_refl _))
  replace RALL := hide (RALL.out.below k (Nat.le_refl _))
  replace RB := hide (RB.out.below k (Nat.le_refl _))
  clear k
  go_wp2_with fail
  refine (B1.out _ _ _ _ _ RALL.out RP.out).mono ?_
  rintro e w4 ⟨rfl, k⟩
  replace F := step F k
  replace RP := hide (RP.out.below k (Nat.le_refl _))
  replace RK := hide (RK.out.below k (Nat.le_refl _))
  replace RALL := hide (RALL.out.below k (Nat.le_refl _))
  replace RB := hide (RB.out.below k (Nat.le_refl _))
  clear k
  go_wp2_with fail
  refine (C3.out _ _ _ _ _ RK.out RP.out).mono ?_
  rintro e w5 ⟨rfl, k⟩
  replace F := step F k
  replace RP := hide (RP.out.below k (Nat.le_refl _))
  replace RK := hide (RK.out.below k (Nat.le_refl _))
  replace RALL := hide (RALL.out.below k (Nat.le_refl _))
  replace RB := hide (RB.out.below k (Nat.le_refl _))
  clear k
  go_wp2_with fail
  refine (L.out _ RP.out).mono ?_
  rintro e w7 ⟨rfl, rn, k⟩
  replace F := step F k
  replace RP := hide (RP.out.below k (Nat.le_refl _))
  replace RK := hide (RK.out.below k (Nat.le_refl _))
  replace RALL := hide (RALL.out.below k (Nat.le_refl _))
  replace RB := hide (RB.out.below k (Nat.le_refl _))
  have RN := hide rn
  clear k rn
  go_wp2_with fail
  refine (B2.out _ _ _ _ _ RK.out RP.out).mono ?_
  rintro e w8 ⟨rfl, k⟩
  replace F := step F k
  replace RP := hide (RP.out.below k (Nat.le_refl _))
  replace RK := hide (RK.out.below k (Nat.le_refl _))
  replace RALL := hide (RALL.out.below k (Nat.le_refl _))
  replace RB := hide (RB.out.below k (Nat.le_refl _))
  replace RN := hide (RN.out.below k (Nat.le_refl _))
  clear k
  go_wp2_with fail
  refine (C5.out _ _ _ _ _ RN.out RP.out).mono ?_
  rintro e w9 ⟨rfl, k⟩
  replace F := step F k
  replace RP := hide (RP.out.below k (Nat.le_refl _))
  replace RK := hide (RK.out.below k (Nat.le_refl _))
  replace RALL := hide (RALL.out.below k (Nat.le_refl _))
  replace RB := hide (RB.out.below k (Nat.le_refl _))
  replace RN := hide (RN.out.below k (Nat.le_refl _))
  clear k
  go_wp2_with fail
  refine (C3.out _ _ _ _ _ RK.out RP.out).mono ?_
  rintro e w10 ⟨rfl, k⟩
  replace F := step F k
  replace RP := hide (RP.out.below k (Nat.le_refl _))
  replace RK := hide (RK.out.below k (Nat.le_refl _))
  replace RALL := hide (RALL.out.below k (Nat.le_refl _))
  replace RB := hide (RB.out.below k (Nat.le_refl _))
  replace RN := hide (RN.out.below k (Nat.le_refl _))
  clear k
  go_wp2_with fail
  refine (awake_any _).mono ?_
  rintro e w12 ⟨rfl, k⟩
  replace F := step F k
  clear k
  go_wp2
  go_ret
  exact ⟨rfl, F.out⟩

set_option maxHeartbeats 1000000 in
theorem keyBehind_y_b_lt (a b c : Option Addr) (ps ms ks : List Int) (ca cb cc : Nat) (w : World) (ha : Rd w a ps) (hb : Rd w b ms) (hc : Rd w c ks) (h1 : ps.length ≤ 30) (h2 : ms.length ≤ 30) (h3 : ks.length ≤ 30)
    (hok : 0 < stripN ps ps.length) (hkp : cmpK ks ps = 0) (hkb : cmpK ks (behindK ps) < 0) :
    Calls Try.prog 5 #[.slice a ps.length ca, .slice b ms.length cb, .slice c ks.length cc] w fun e w' => e = .returned (.bool true) ∧ Below w.heap.size w w' := by
  have F := start w
  obtain ⟨v1, w1, r1, o1, g1, b1, _⟩ := append_u8 w 22 22 w.heap.size (.slice none 0 0) 0 [] (World.ownsRow_nil w _ _ _) _ _ _ (ha.src Try.underlying22 ca) (by omega) (Nat.le_refl _)
  have f1 : Below w.heap.size w w1 := (Below.refl _ _).grown g1 (Nat.le_refl _) (fun k hk => by cases hk)
  have hs1 := f1.size
  obtain ⟨v2, w2, r2, o2, g2, b2, _⟩ := append_u8 w1 22 22 w.heap.size v1 _ _ o1 _ _ _ ((hb.below f1 (Nat.le_refl _)).src Try.underlying22 cb) (by omega) hs1
  have f2 : Below w.heap.size w w2 := f1.grown g2 hs1 (fun k hk => (o1.lt k hk).1)
  simp only [List.nil_append, ← u8s_append] at o2
  have hall : IsBytes (ps ++ ms) := fun x hm => by
    simp only [List.mem_append] at hm
    rcases hm with hm | hm
    · exact ha.1 x hm
    · exact hb.1 x hm
  obtain ⟨aa, cA, rfl, ral, hn⟩ := owns_rd o2 hall
  replace F : Hid (Below w.heap.size w w2) := f2
  have RP := hide (ha.below f2 (Nat.le_refl _))
  have RK := hide (hc.below f2 (Nat.le_refl _))
  have RALL := hide ral
  have hbi := begins_iff ks ps hc.1 ha.1
  have hbi2 := begins_iff (ps ++ ms) ps hall ha.1
  have hcm : common (ps ++ ms) ps = ps.length := by
    have h := common_append ps ms []
    rw [List.append_nil] at h
    rw [h]
    cases ms <;> simp [common]
  have hbeh := beh_is ps
  rw [if_neg (by omega)] at hbeh
  have q2 := (hbi2.1 hcm).2 _ hbeh
  have hbb := behindK_bytes ha.1 hok
  have hbl := behindK_length (xs := ps) hok
  have hsl := stripN_le ps ps.length
  have Q := hide fun w' (h : Rd w' a ps) => (behind_any a ps ca w' h (by omega)).mono (R' := fun e w'' => e = .returned (.tuple #[.slice (some ⟨w'.heap.size, 0, none⟩) (behindK ps).length (behindK ps).length, .bool true]) ∧ Rd w'' (some ⟨w'.heap.size, 0, none⟩) (behindK ps) ∧ Below w'.heap.size w' w'') (by
    rintro e w'' (⟨h0, _⟩ | ⟨_, he, hbk, hf, _⟩)
    · omega
    · exact ⟨he, blk_rd hbk hbb (by unfold maxLen; omega), hf⟩)
  have C2 := hide fun r hr a' b' => compare_v (ps ++ ms) (behindK ps) r hr a' b'
  have C2 := hide (C2.out _ rfl)
  have q1 := (hbi2.1 hcm).1
  have hbg : common ks ps = ps.length := hbi.2 ⟨by omega, fun b' hb' => by rw [hbeh] at hb'; cases hb'; exact hkb⟩
  have hbg' : ((common ks ps : Int) == (ps.length : Int)) = true := by simp [hbg]
  have hcm' : ((common (ps ++ ms) ps : Int) == (ps.length : Int)) = true := by simp [hcm]
  have hln := least_next ks ps hc.1
  obtain ⟨d1, hd1⟩ : ∃ d, cmpK (ps ++ ms) ps = d := ⟨_, rfl⟩
  have C1 := hide fun a' b' ca' cb' w' => compare_v (ps ++ ms) ps d1 hd1 a' b' ca' cb' w'
  have hr1 : -1 ≤ d1 ∧ d1 ≤ 1 := by have := cmpK_range (ps ++ ms) ps; omega
  have hq1 : 0 ≤ d1 := by omega
  have C1' := hide fun a' b' ca' w' => C1.out a' b' ca' ca w'
  obtain ⟨d2, hd2⟩ : ∃ d, cmpK (ps ++ ms) (behindK ps) = d := ⟨_, rfl⟩
  have hr2 : -1 ≤ d2 ∧ d2 ≤ 1 := by have := cmpK_range (ps ++ ms) (behindK ps); omega
  have hq2 : d2 < 0 := by omega
  have C2 := hide (compare_v (ps ++ ms) (behindK ps) d2 hd2)
  obtain ⟨d4, hd4⟩ : ∃ d, cmpK ks (behindK ps) = d := ⟨_, rfl⟩
  have hr4 : -1 ≤ d4 ∧ d4 ≤ 1 := by have := cmpK_range ks (behindK ps); omega
  have hq4 : d4 < 0 := by omega
  have C4 := hide (compare_v ks (behindK ps) d4 hd4)
  have B1 := hide (begins_v (ps ++ ms) ps _ hcm')
  have C3 := hide (compare_v ks ps _ hkp)
  have L := hide (least_v a ps ca ha.1 (by omega))
  have B2 := hide (begins_v ks ps _ hbg')
  have C5 := hide (compare_v (ps ++ [0]) ps _ (least_behind ps))
  have hla : (ps ++ ms).length ≤ 60 := by simp; omega
  have hln' : (ps ++ [0]).length ≤ 31 := by simp; omega
  have hlb : (behindK ps).length ≤ 31 := by have := stripN_le ps ps.length; simp [behindK]; omega
  clear hbi hbi2 hcm hbeh hbg hbg' hcm' hln hkp hd1 q1 o1 o2 g1 g2 f1 f2 hs1 b1 b2 ha hb hc hall ral C1' hok q2 hbb hbl hd2 hsl hd4 hkb

  generalize ps ++ ms = als at *
  generalize ps ++ [0] = ns at *
  generalize behindK ps = bs at *
  go_enter Try.func5, Try.ntmps5
  go_wp2_with (first | (at_builtin; refine wpList_append_run rfl _ _ _ _ rfl _ _ _ _ rfl rfl r1 ?_) | (at_builtin; refine wpList_append_run rfl _ _ _ _ rfl _ _ _ _ rfl rfl r2 ?_))
  go_wp2_with fail
  refine (Q.out _ RP.out).mono ?_
  rintro e w1 ⟨rfl, rb, k⟩
  replace F := step F k
  replace RP := hide (RP.out.below k (Nat.le_refl _))
  replace RK := hide (RK.out.below k (Nat.le_refl _))
  replace RALL := hide (RALL.out.below k (Nat.le_refl _))
  have RB := hide rb
  clear k rb
  go_wp2_with fail
  refine (C1.out _ _ _ _ _ RALL.out RP.out).mono ?_
  rintro e w2 ⟨rfl, k⟩
  replace F := step F k
  replace RP := hide (RP.out.below k (Nat.le_refl _))
  replace RK := hide (RK.out.below k (Nat.le_refl _))
  replace RALL := hide (RALL.out.below k (Nat.le_refl _))
  replace RB := hide (RB.out.below k (Nat.le_refl _))
  clear k
  go_wp2_with fail
  refine (C2.out _ _ _ _ _ RALL.out RB.out).mono ?_
  rintro e w3 ⟨rfl, k⟩
  replace F := step F k
  replace RP := hide (RP.out.below k (Nat.le_refl _))
  replace RK := hide (RK.out.below k (Nat.le_refl _))
  replace RALL := hide (RALL.out.below k (Nat.le_refl _))
  replace RB := hide (RB.out.below k (Nat.le_refl _))
  clear k
  go_wp2_with fail
  refine (B1.out _ _ _ _ _ RALL.out RP.out).mono ?_
  rintro e w4 ⟨rfl, k⟩
  replace F := step F k
  replace RP := hide (RP.out.below k (Nat.le_refl _))
  replace RK := hide (RK.out.below k (Nat.le_refl _))
  replace RALL := hide (RALL.out.below k (Nat.le_refl _))
  replace RB := hide (RB.out.below k (Nat.le_refl _))
  clear k
  go_wp2_with fail
  refine (C3.out _ _ _ _ _ RK.out RP.out).mono ?_
  rintro e w5 ⟨rfl, k⟩
  replace F := step F k
  replace RP := hide (RP.out.below k (Nat.le_refl _))
  replace RK := hide (RK.out.below k (Nat.le_refl _))
  replace RALL := hide (RALL.out.below k (Nat.le_refl _))
  replace RB := hide (RB.out.below k (Nat.le_refl _))
  clear k
  go_wp2_with fail
  refine (C4.out _ _ _ _ _ RK.out RB.out).mono ?_
  rintro e w6 ⟨rfl, k⟩
  replace F := step F k
  replace RP := hide (RP.out.below k (Nat.le_refl _))
  replace RK := hide (RK.out.below k (Nat.le_refl _))
  replace RALL := hide (RALL.out.below k (Nat.le_refl _))
  replace RB := hide (RB.out.below k (Nat.le_refl _))
  clear k
  go_wp2_with fail
  refine (L.out _ RP.out).mono ?_
  rintro e w7 ⟨rfl, rn, k⟩
  replace F := step F k
  replace RP := hide (RP.out.below k (Nat.le_refl _))
  replace RK := hide (RK.out.below k (Nat.le_refl _))
  replace RALL := hide (RALL.out.below k (Nat.le_refl _))
  replace RB := hide (RB.out.below k (Nat.le_refl _))
  have RN := hide rn
  clear k rn
  go_wp2_with fail
  refine (B2.out _ _ _ _ _ RK.out RP.out).mono ?_
  rintro e w8 ⟨rfl, k⟩
  replace F := step F k
  replace RP := hide (RP.out.below k (Nat.le_refl _))
  replace RK := hide (RK.out.below k (Nat.le_refl _))
  replace RALL := hide (RALL.out.below k (Nat.le_refl _))
  replace RB := hide (RB.out.below k (Nat.le_refl _))
  replace RN := hide (RN.out.below k (Nat.le_refl _))
  clear k
  go_wp2_with fail
  refine (C5.out _ _ _ _ _ RN.out RP.out).mono ?_
  rintro e w9 ⟨rfl, k⟩
  replace F := step F k
  replace RP := hide (RP.out.below k (Nat.le_refl _))
  replace RK := hide (RK.out.below k (Nat.le_refl _))
  replace RALL := hide (RALL.out.below k (Nat.le_refl _))
  replace RB := hide (RB.out.below k (Nat.le_refl _))
  replace RN := hide (RN.out.below k (Nat.le_refl _))
  clear k
  go_wp2_with fail
  refine (C3.out _ _ _ _ _ RK.out RP.out).mono ?_
  rintro e w10 ⟨rfl, k⟩
  replace F := step F k
  replace RP := hide (RP.out.below k (Nat.le_refl _))
  replace RK := hide (RK.out.below k (Nat.le_refl _))
  replace RALL := hide (RALL.out.below k (Nat.le_refl _))
  replace RB := hide (RB.out.below k (Nat.le_refl _))
  replace RN := hide (RN.out.below k (Nat.le_refl _))
  clear k
  go_wp2_with fail
  refine (awake_any _).mono ?_
  rintro e w12 ⟨rfl, k⟩
  replace F := step F k
  clear k
  go_wp2
  go_ret
  exact ⟨rfl, F.out⟩

set_option maxHeartbeats 1000000 in
theorem keyBehind_y_b_ge (a b c : Option Addr) (ps ms ks : List Int) (ca cb cc : Nat) (w : World) (ha : Rd w a ps) (hb : Rd w b ms) (hc : Rd w c ks) (h1 : ps.length ≤ 30) (h2 : ms.length ≤ 30) (h3 : ks.length ≤ 30)
    (hok : 0 < stripN ps ps.length) (hkp : cmpK ks ps = 0) (hkb : cmpK ks (behindK ps) ≥ 0) :
    Calls Try.prog 5 #[.slice a ps.length ca, .slice b ms.length cb, .slice c ks.length cc] w fun e w' => e = .returned (.bool true) ∧ Below w.heap.size w w' := by
  have F := start w
  obtain ⟨v1, w1, r1, o1, g1, b1, _⟩ := append_u8 w 22 22 w.heap.size (.slice none 0 0) 0 [] (World.ownsRow_nil w _ _ _) _ _ _ (ha.src Try.underlying22 ca) (by omega) (Nat.le_refl _)
  have f1 : Below w.heap.size w w1 := (Below.refl _ _).grown g1 (Nat.le_refl _) (fun k hk => by cases hk)
  have hs1 := f1.size
  obtain ⟨v2, w2, r2, o2, g2, b2, _⟩ := append_u8 w1 22 22 w.heap.size v1 _ _ o1 _ _ _ ((hb.below f1 (Nat.le_refl _)).src Try.underlying22 cb) (by omega) hs1
  have f2 : Below w.heap.size w w2 := f1.grown g2 hs1 (fun k hk => (o1.lt k hk).1)
  simp only [List.nil_append, ← u8s_append] at o2
  have hall : IsBytes (ps ++ ms) := fun x hm => by
    simp only [List.mem_append] at hm
    rcases hm with hm | hm
    · exact ha.1 x hm
    · exact hb.1 x hm
  obtain ⟨aa, cA, rfl, ral, hn⟩ := owns_rd o2 hall
  replace F : Hid (Below w.heap.size w w2) := f2
  have RP := hide (ha.below f2 (Nat.le_refl _))
  have RK := hide (hc.below f2 (Nat.le_refl _))
  have RALL := hide ral
  have hbi := begins_iff ks ps hc.1 ha.1
  have hbi2 := begins_iff (ps ++ ms) ps hall ha.1
  have hcm : common (ps ++ ms) ps = ps.length := by
    have h := common_append ps ms []
    rw [List.append_nil] at h
    rw [h]
    cases ms <;> simp [common]
  have hbeh := beh_is ps
  rw [if_neg (by omega)] at hbeh
  have q2 := (hbi2.1 hcm).2 _ hbeh
  have hbb := behindK_bytes ha.1 hok
  have hbl := behindK_length (xs := ps) hok
  have hsl := stripN_le ps ps.length
  have Q := hide fun w' (h : Rd w' a ps) => (behind_any a ps ca w' h (by omega)).mono (R' := fun e w'' => e = .returned (.tuple #[.slice (some ⟨w'.heap.size, 0, none⟩) (behindK ps).length (behindK ps).length, .bool true]) ∧ Rd w'' (some ⟨w'.heap.size, 0, none⟩) (behindK ps) ∧ Below w'.heap.size w' w'') (by
    rintro e w'' (⟨h0, _⟩ | ⟨_, he, hbk, hf, _⟩)
    · omega
    · exact ⟨he, blk_rd hbk hbb (by unfold maxLen; omega), hf⟩)
  have C2 := hide fun r hr a' b' => compare_v (ps ++ ms) (behindK ps) r hr a' b'
  have C2 := hide (C2.out _ rfl)
  have q1 := (hbi2.1 hcm).1
  have hbg : ¬ common ks ps = ps.length := fun h => by have := (hbi.1 h).2 _ hbeh; omega
  have hbg' : ((common ks ps : Int) == (ps.length : Int)) = false := by simp; omega
  have hcm' : ((common (ps ++ ms) ps : Int) == (ps.length : Int)) = true := by simp [hcm]
  have hln := least_next ks ps hc.1
  obtain ⟨d1, hd1⟩ : ∃ d, cmpK (ps ++ ms) ps = d := ⟨_, rfl⟩
  have C1 := hide fun a' b' ca' cb' w' => compare_v (ps ++ ms) ps d1 hd1 a' b' ca' cb' w'
  have hr1 : -1 ≤ d1 ∧ d1 ≤ 1 := by have := cmpK_range (ps ++ ms) ps; omega
  have hq1 : 0 ≤ d1 := by omega
  have C1' := hide fun a' b' ca' w' => C1.out a' b' ca' ca w'
  obtain ⟨d2, hd2⟩ : ∃ d, cmpK (ps ++ ms) (behindK ps) = d := ⟨_, rfl⟩
  have hr2 : -1 ≤ d2 ∧ d2 ≤ 1 := by have := cmpK_range (ps ++ ms) (behindK ps); omega
  have hq2 : d2 < 0 := by omega
  have C2 := hide (compare_v (ps ++ ms) (behindK ps) d2 hd2)
  obtain ⟨d4, hd4⟩ : ∃ d, cmpK ks (behindK ps) = d := ⟨_, rfl⟩
  have hr4 : -1 ≤ d4 ∧ d4 ≤ 1 := by have := cmpK_range ks (behindK ps); omega
  have hq4 : 0 ≤ d4 := by omega
  have C4 := hide (compare_v ks (behindK ps) d4 hd4)
  have B1 := hide (begins_v (ps ++ ms) ps _ hcm')
  have C3 := hide (compare_v ks ps _ hkp)
  have L := hide (least_v a ps ca ha.1 (by omega))
  have B2 := hide (begins_v ks ps _ hbg')
  have C5 := hide (compare_v (ps ++ [0]) ps _ (least_behind ps))
  have hla : (ps ++ ms).length ≤ 60 := by simp; omega
  have hln' : (ps ++ [0]).length ≤ 31 := by simp; omega
  have hlb : (behindK ps).length ≤ 31 := by have := stripN_le ps ps.length; simp [behindK]; omega
  clear hbi hbi2 hcm hbeh hbg hbg' hcm' hln hkp hd1 q1 o1 o2 g1 g2 f1 f2 hs1 b1 b2 ha hb hc hall ral C1' hok q2 hbb hbl hd2 hsl hd4 hkb

  generalize ps ++ ms = als at *
  generalize ps ++ [0] = ns at *
  generalize behindK ps = bs at *
  go_enter Try.func5, Try.ntmps5
  go_wp2_with (first | (at_builtin; refine wpList_append_run rfl _ _ _ _ rfl _ _ _ _ rfl rfl r1 ?_) | (at_builtin; refine wpList_append_run rfl _ _ _ _ rfl _ _ _ _ rfl rfl r2 ?_))
  go_wp2_with fail
  refine (Q.out _ RP.out).mono ?_
  rintro e w1 ⟨rfl, rb, k⟩
  replace F := step F k
  replace RP := hide (RP.out.below k (Nat.le_refl _))
  replace RK := hide (RK.out.below k (Nat.le_refl _))
  replace RALL := hide (RALL.out.below k (Nat.le_refl _))
  have RB := hide rb
  clear k rb
  go_wp2_with fail
  refine (C1.out _ _ _ _ _ RALL.out RP.out).mono ?_
  rintro e w2 ⟨rfl, k⟩
  replace F := step F k
  replace RP := hide (RP.out.below k (Nat.le_refl _))
  replace RK := hide (RK.out.below k (Nat.le_refl _))
  replace RALL := hide (RALL.out.below k (Nat.le_refl _))
  replace RB := hide (RB.out.below k (Nat.le_refl _))
  clear k
  go_wp2_with fail
  refine (C2.out _ _ _ _ _ RALL.out RB.out).mono ?_
  rintro e w3 ⟨rfl, k⟩
  replace F := step F k
  replace RP := hide (RP.out.below k (Nat.le_refl _))
  replace RK := hide (RK.out.below k (Nat.le_refl _))
  replace RALL := hide (RALL.out.below k (Nat.le_refl _))
  replace RB := hide (RB.out.below k (Nat.le_refl _))
  clear k
  go_wp2_with fail
  refine (B1.out _ _ _ _ _ RALL.out RP.out).mono ?_
  rintro e w4 ⟨rfl, k⟩
  replace F := step F k
  replace RP := hide (RP.out.below k (Nat.le_refl _))
  replace RK := hide (RK.out.below k (Nat.le_refl _))
  replace RALL := hide (RALL.out.below k (Nat.le_refl _))
  replace RB := hide (RB.out.below k (Nat.le_refl _))
  clear k
  go_wp2_with fail
  refine (C3.out _ _ _ _ _ RK.out RP.out).mono ?_
  rintro e w5 ⟨rfl, k⟩
  replace F := step F k
  replace RP := hide (RP.out.below k (Nat.le_refl _))
  replace RK := hide (RK.out.below k (Nat.le_refl _))
  replace RALL := hide (RALL.out.below k (Nat.le_refl _))
  replace RB := hide (RB.out.below k (Nat.le_refl _))
  clear k
  go_wp2_with fail
  refine (C4.out _ _ _ _ _ RK.out RB.out).mono ?_
  rintro e w6 ⟨rfl, k⟩
  replace F := step F k
  replace RP := hide (RP.out.below k (Nat.le_refl _))
  replace RK := hide (RK.out.below k (Nat.le_refl _))
  replace RALL := hide (RALL.out.below k (Nat.le_refl _))
  replace RB := hide (RB.out.below k (Nat.le_refl _))
  clear k
  go_wp2_with fail
  refine (L.out _ RP.out).mono ?_
  rintro e w7 ⟨rfl, rn, k⟩
  replace F := step F k
  replace RP := hide (RP.out.below k (Nat.le_refl _))
  replace RK := hide (RK.out.below k (Nat.le_refl _))
  replace RALL := hide (RALL.out.below k (Nat.le_refl _))
  replace RB := hide (RB.out.below k (Nat.le_refl _))
  have RN := hide rn
  clear k rn
  go_wp2_with fail
  refine (B2.out _ _ _ _ _ RK.out RP.out).mono ?_
  rintro e w8 ⟨rfl, k⟩
  replace F := step F k
  replace RP := hide (RP.out.below k (Nat.le_refl _))
  replace RK := hide (RK.out.below k (Nat.le_refl _))
  replace RALL := hide (RALL.out.below k (Nat.le_refl _))
  replace RB := hide (RB.out.below k (Nat.le_refl _))
  replace RN := hide (RN.out.below k (Nat.le_refl _))
  clear k
  go_wp2_with fail
  refine (C5.out _ _ _ _ _ RN.out RP.out).mono ?_
  rintro e w9 ⟨rfl, k⟩
  replace F := step F k
  replace RP := hide (RP.out.below k (Nat.le_refl _))
  replace RK := hide (RK.out.below k (Nat.le_refl _))
  replace RALL := hide (RALL.out.below k (Nat.le_refl _))
  replace RB := hide (RB.out.below k (Nat.le_refl _))
  replace RN := hide (RN.out.below k (Nat.le_refl _))
  clear k
  go_wp2_with fail
  refine (C3.out _ _ _ _ _ RK.out RP.out).mono ?_
  rintro e w10 ⟨rfl, k⟩
  replace F := step F k
  replace RP := hide (RP.out.below k (Nat.le_refl _))
  replace RK := hide (RK.out.below k (Nat.le_refl _))
  replace RALL := hide (RALL.out.below k (Nat.le_refl _))
  replace RB := hide (RB.out.below k (Nat.le_refl _))
  replace RN := hide (RN.out.below k (Nat.le_refl _))
  clear k
  go_wp2_with fail
  refine (awake_any _).mono ?_
  rintro e w12 ⟨rfl, k⟩
  replace F := step F k
  clear k
  go_wp2
  go_ret
  exact ⟨ret_bool (by simp; omega), F.out⟩

set_option maxHeartbeats 1000000 in
theorem keyBehind_y_c_lt (a b c : Option Addr) (ps ms ks : List Int) (ca cb cc : Nat) (w : World) (ha : Rd w a ps) (hb : Rd w b ms) (hc : Rd w c ks) (h1 : ps.length ≤ 30) (h2 : ms.length ≤ 30) (h3 : ks.length ≤ 30)
    (hok : 0 < stripN ps ps.length) (hkp : cmpK ks ps = 1) (hkb : cmpK ks (behindK ps) < 0) :
    Calls Try.prog 5 #[.slice a ps.length ca, .slice b ms.length cb, .slice c ks.length cc] w fun e w' => e = .returned (.bool true) ∧ Below w.heap.size w w' := by
  have F := start w
  obtain ⟨v1, w1, r1, o1, g1, b1, _⟩ := append_u8 w 22 22 w.heap.size (.slice none 0 0) 0 [] (World.ownsRow_nil w _ _ _) _ _ _ (ha.src Try.underlying22 ca) (by omega) (Nat.le_refl _)
  have f1 : Below w.heap.size w w1 := (Below.refl _ _).grown g1 (Nat.le_refl _) (fun k hk => by cases hk)
  have hs1 := f1.size
  obtain ⟨v2, w2, r2, o2, g2, b2, _⟩ := append_u8 w1 22 22 w.heap.size v1 _ _ o1 _ _ _ ((hb.below f1 (Nat.le_refl _)).src Try.underlying22 cb) (by omega) hs1
  have f2 : Below w.heap.size w w2 := f1.grown g2 hs1 (fun k hk => (o1.lt k hk).1)
  simp only [List.nil_append, ← u8s_append] at o2
  have hall : IsBytes (ps ++ ms) := fun x hm => by
    simp only [List.mem_append] at hm
    rcases hm with hm | hm
    · exact ha.1 x hm
    · exact hb.1 x hm
  obtain ⟨aa, cA, rfl, ral, hn⟩ := owns_rd o2 hall
  replace F : Hid (Below w.heap.size w w2) := f2
  have RP := hide (ha.below f2 (Nat.le_refl _))
  have RK := hide (hc.below f2 (Nat.le_refl _))
  have RALL := hide ral
  have hbi := begins_iff ks ps hc.1 ha.1
  have hbi2 := begins_iff (ps ++ ms) ps hall ha.1
  have hcm : common (ps ++ ms) ps = ps.length := by
    have h := common_append ps ms []
    rw [List.append_nil] at h
    rw [h]
    cases ms <;> simp [common]
  have hbeh := beh_is ps
  rw [if_neg (by omega)] at hbeh
  have q2 := (hbi2.1 hcm).2 _ hbeh
  have hbb := behindK_bytes ha.1 hok
  have hbl := behindK_length (xs := ps) hok
  have hsl := stripN_le ps ps.length
  have Q := hide fun w' (h : Rd w' a ps) => (behind_any a ps ca w' h (by omega)).mono (R' := fun e w'' => e = .returned (.tuple #[.slice (some ⟨w'.heap.size, 0, none⟩) (behindK ps).length (behindK ps).length, .bool true]) ∧ Rd w'' (some ⟨w'.heap.size, 0, none⟩) (behindK ps) ∧ Below w'.heap.size w' w'') (by
    rintro e w'' (⟨h0, _⟩ | ⟨_, he, hbk, hf, _⟩)
    · omega
    · exact ⟨he, blk_rd hbk hbb (by unfold maxLen; omega), hf⟩)
  have C2 := hide fun r hr a' b' => compare_v (ps ++ ms) (behindK ps) r hr a' b'
  have C2 := hide (C2.out _ rfl)
  have q1 := (hbi2.1 hcm).1
  have hbg : common ks ps = ps.length := hbi.2 ⟨by omega, fun b' hb' => by rw [hbeh] at hb'; cases hb'; exact hkb⟩
  have hbg' : ((common ks ps : Int) == (ps.length : Int)) = true := by simp [hbg]
  have hcm' : ((common (ps ++ ms) ps : Int) == (ps.length : Int)) = true := by simp [hcm]
  have hln := least_next ks ps hc.1
  obtain ⟨d1, hd1⟩ : ∃ d, cmpK (ps ++ ms) ps = d := ⟨_, rfl⟩
  have C1 := hide fun a' b' ca' cb' w' => compare_v (ps ++ ms) ps d1 hd1 a' b' ca' cb' w'
  have hr1 : -1 ≤ d1 ∧ d1 ≤ 1 := by have := cmpK_range (ps ++ ms) ps; omega
  have hq1 : 0 ≤ d1 := by omega
  have C1' := hide fun a' b' ca' w' => C1.out a' b' ca' ca w'
  obtain ⟨d2, hd2⟩ : ∃ d, cmpK (ps ++ ms) (behindK ps) = d := ⟨_, rfl⟩
  have hr2 : -1 ≤ d2 ∧ d2 ≤ 1 := by have := cmpK_range (ps ++ ms) (behindK ps); omega
  have hq2 : d2 < 0 := by omega
  have C2 := hide (compare_v (ps ++ ms) (behindK ps) d2 hd2)
  obtain ⟨d4, hd4⟩ : ∃ d, cmpK ks (behindK ps) = d := ⟨_, rfl⟩
  have hr4 : -1 ≤ d4 ∧ d4 ≤ 1 := by have := cmpK_range ks (behindK ps); omega
  have hq4 : d4 < 0 := by omega
  have C4 := hide (compare_v ks (behindK ps) d4 hd4)
  have B1 := hide (begins_v (ps ++ ms) ps _ hcm')
  have C3 := hide (compare_v ks ps _ hkp)
  have L := hide (least_v a ps ca ha.1 (by omega))
  have B2 := hide (begins_v ks ps _ hbg')
  have C5 := hide (compare_v (ps ++ [0]) ps _ (least_behind ps))
  obtain ⟨d6, hd6⟩ : ∃ d, cmpK ks (ps ++ [0]) = d := ⟨_, rfl⟩
  have hr6 : -1 ≤ d6 ∧ d6 ≤ 1 := by have := cmpK_range ks (ps ++ [0]); omega
  have hq6 : 0 ≤ d6 := by omega
  have C6 := hide (compare_v ks (ps ++ [0]) d6 hd6)
  have hla : (ps ++ ms).length ≤ 60 := by simp; omega
  have hln' : (ps ++ [0]).length ≤ 31 := by simp; omega
  have hlb : (behindK ps).length ≤ 31 := by have := stripN_le ps ps.length; simp [behindK]; omega
  clear hbi hbi2 hcm hbeh hbg hbg' hcm' hln hkp hd1 q1 o1 o2 g1 g2 f1 f2 hs1 b1 b2 ha hb hc hall ral C1' hok q2 hbb hbl hd2 hsl hd4 hkb hd6

  generalize ps ++ ms = als at *
  generalize ps ++ [0] = ns at *
  generalize behindK ps = bs at *
  go_enter Try.func5, Try.ntmps5
  go_wp2_with (first | (at_builtin; refine wpList_append_run rfl _ _ _ _ rfl _ _ _ _ rfl rfl r1 ?_) | (at_builtin; refine wpList_append_run rfl _ _ _ _ rfl _ _ _ _ rfl rfl r2 ?_))
  go_wp2_with fail
  refine (Q.out _ RP.out).mono ?_
  rintro e w1 ⟨rfl, rb, k⟩
  replace F := step F k
  replace RP := hide (RP.out.below k (Nat.le_refl _))
  replace RK := hide (RK.out.below k (Nat.le_refl _))
  replace RALL := hide (RALL.out.below k (Nat.le_refl _))
  have RB := hide rb
  clear k rb
  go_wp2_with fail
  refine (C1.out _ _ _ _ _ RALL.out RP.out).mono ?_
  rintro e w2 ⟨rfl, k⟩
  replace F := step F k
  replace RP := hide (RP.out.below k (Nat.le_refl _))
  replace RK := hide (RK.out.below k (Nat.le_refl _))
  replace RALL := hide (RALL.out.below k (Nat.le_refl _))
  replace RB := hide (RB.out.below k (Nat.le_refl _))
  clear k
  go_wp2_with fail
  refine (C2.out _ _ _ _ _ RALL.out RB.out).mono ?_
  rintro e w3 ⟨rfl, k⟩
  replace F := step F k
  replace RP := hide (RP.out.below k (Nat.le_refl _))
  replace RK := hide (RK.out.below k (Nat.le_refl _))
  replace RALL := hide (RALL.out.below k (Nat.le_refl _))
  replace RB := hide (RB.out.below k (Nat.le_refl _))
  clear k
  go_wp2_with fail
  refine (B1.out _ _ _ _ _ RALL.out RP.out).mono ?_
  rintro e w4 ⟨rfl, k⟩
  replace F := step F k
  replace RP := hide (RP.out.below k (Nat.le_refl _))
  replace RK := hide (RK.out.below k (Nat.le_refl _))
  replace RALL := hide (RALL.out.below k (Nat.le_refl _))
  replace RB := hide (RB.out.below k (Nat.le_refl _))
  clear k
  go_wp2_with fail
  refine (C3.out _ _ _ _ _ RK.out RP.out).mono ?_
  rintro e w5 ⟨rfl, k⟩
  replace F := step F k
  replace RP := hide (RP.out.below k (Nat.le_refl _))
  replace RK := hide (RK.out.below k (Nat.le_refl _))
  replace RALL := hide (RALL.out.below k (Nat.le_refl _))
  replace RB := hide (RB.out.below k (Nat.le_refl _))
  clear k
  go_wp2_with fail
  refine (C4.out _ _ _ _ _ RK.out RB.out).mono ?_
  rintro e w6 ⟨rfl, k⟩
  replace F := step F k
  replace RP := hide (RP.out.below k (Nat.le_refl _))
  replace RK := hide (RK.out.below k (Nat.le_refl _))
  replace RALL := hide (RALL.out.below k (Nat.le_refl _))
  replace RB := hide (RB.out.below k (Nat.le_refl _))
  clear k
  go_wp2_with fail
  refine (L.out _ RP.out).mono ?_
  rintro e w7 ⟨rfl, rn, k⟩
  replace F := step F k
  replace RP := hide (RP.out.below k (Nat.le_refl _))
  replace RK := hide (RK.out.below k (Nat.le_refl _))
  replace RALL := hide (RALL.out.below k (Nat.le_refl _))
  replace RB := hide (RB.out.below k (Nat.le_refl _))
  have RN := hide rn
  clear k rn
  go_wp2_with fail
  refine (B2.out _ _ _ _ _ RK.out RP.out).mono ?_
  rintro e w8 ⟨rfl, k⟩
  replace F := step F k
  replace RP := hide (RP.out.below k (Nat.le_refl _))
  replace RK := hide (RK.out.below k (Nat.le_refl _))
  replace RALL := hide (RALL.out.below k (Nat.le_refl _))
  replace RB := hide (RB.out.below k (Nat.le_refl _))
  replace RN := hide (RN.out.below k (Nat.le_refl _))
  clear k
  go_wp2_with fail
  refine (C5.out _ _ _ _ _ RN.out RP.out).mono ?_
  rintro e w9 ⟨rfl, k⟩
  replace F := step F k
  replace RP := hide (RP.out.below k (Nat.le_refl _))
  replace RK := hide (RK.out.below k (Nat.le_refl _))
  replace RALL := hide (RALL.out.below k (Nat.le_refl _))
  replace RB := hide (RB.out.below k (Nat.le_refl _))
  replace RN := hide (RN.out.below k (Nat.le_refl _))
  clear k
  go_wp2_with fail
  refine (C3.out _ _ _ _ _ RK.out RP.out).mono ?_
  rintro e w10 ⟨rfl, k⟩
  replace F := step F k
  replace RP := hide (RP.out.below k (Nat.le_refl _))
  replace RK := hide (RK.out.below k (Nat.le_refl _))
  replace RALL := hide (RALL.out.below k (Nat.le_refl _))
  replace RB := hide (RB.out.below k (Nat.le_refl _))
  replace RN := hide (RN.out.below k (Nat.le_refl _))
  clear k
  go_wp2_with fail
  refine (C6.out _ _ _ _ _ RK.out RN.out).mono ?_
  rintro e w11 ⟨rfl, k⟩
  replace F := step F k
  replace RP := hide (RP.out.below k (Nat.le_refl _))
  replace RK := hide (RK.out.below k (Nat.le_refl _))
  replace RALL := hide (RALL.out.below k (Nat.le_refl _))
  replace RB := hide (RB.out.below k (Nat.le_refl _))
  replace RN := hide (RN.out.below k (Nat.le_refl _))
  clear k
  go_wp2_with fail
  refine (awake_any _).mono ?_
  rintro e w12 ⟨rfl, k⟩
  replace F := step F k
  clear k
  go_wp2
  go_ret
  exact ⟨rfl, F.out⟩

set_option maxHeartbeats 1000000 in
theorem keyBehind_y_c_ge (a b c : Option Addr) (ps ms ks : List Int) (ca cb cc : Nat) (w : World) (ha : Rd w a ps) (hb : Rd w b ms) (hc : Rd w c ks) (h1 : ps.length ≤ 30) (h2 : ms.length ≤ 30) (h3 : ks.length ≤ 30)
    (hok : 0 < stripN ps ps.length) (hkp : cmpK ks ps = 1) (hkb : cmpK ks (behindK ps) ≥ 0) :
    Calls Try.prog 5 #[.slice a ps.length ca, .slice b ms.length cb, .slice c ks.length cc] w fun e w' => e = .returned (.bool true) ∧ Below w.heap.size w w' := by
  have F := start w
  obtain ⟨v1, w1, r1, o1, g1, b1, _⟩ := append_u8 w 22 22 w.heap.size (.slice none 0 0) 0 [] (World.ownsRow_nil w _ _ _) _ _ _ (ha.src Try.underlying22 ca) (by omega) (Nat.le_refl _)
  have f1 : Below w.heap.size w w1 := (Below.refl _ _).grown g1 (Nat.le_refl _) (fun k hk => by cases hk)
  have hs1 := f1.size
  obtain ⟨v2, w2, r2, o2, g2, b2, _⟩ := append_u8 w1 22 22 w.heap.size v1 _ _ o1 _ _ _ ((hb.below f1 (Nat.le_refl _)).src Try.underlying22 cb) (by omega) hs1
  have f2 : Below w.heap.size w w2 := f1.grown g2 hs1 (fun k hk => (o1.lt k hk).1)
  simp only [List.nil_append, ← u8s_append] at o2
  have hall : IsBytes (ps ++ ms) := fun x hm => by
    simp only [List.mem_append] at hm
    rcases hm with hm | hm
    · exact ha.1 x hm
    · exact hb.1 x hm
  obtain ⟨aa, cA, rfl, ral, hn⟩ := owns_rd o2 hall
  replace F : Hid (Below w.heap.size w w2) := f2
  have RP := hide (ha.below f2 (Nat.le_refl _))
  have RK := hide (hc.below f2 (Nat.le_refl _))
  have RALL := hide ral
  have hbi := begins_iff ks ps hc.1 ha.1
  have hbi2 := begins_iff (ps ++ ms) ps hall ha.1
  have hcm : common (ps ++ ms) ps = ps.length := by
    have h := common_append ps ms []
    rw [List.append_nil] at h
    rw [h]
    cases ms <;> simp [common]
  have hbeh := beh_is ps
  rw [if_neg (by omega)] at hbeh
  have q2 := (hbi2.1 hcm).2 _ hbeh
  have hbb := behindK_bytes ha.1 hok
  have hbl := behindK_length (xs := ps) hok
  have hsl := stripN_le ps ps.length
  have Q := hide fun w' (h : Rd w' a ps) => (behind_any a ps ca w' h (by omega)).mono (R' := fun e w'' => e = .returned (.tuple #[.slice (some ⟨w'.heap.size, 0, none⟩) (behindK ps).length (behindK ps).length, .bool true]) ∧ Rd w'' (some ⟨w'.heap.size, 0, none⟩) (behindK ps) ∧ Below w'.heap.size w' w'') (by
    rintro e w'' (⟨h0, _⟩ | ⟨_, he, hbk, hf, _⟩)
    · omega
    · exact ⟨he, blk_rd hbk hbb (by unfold maxLen; omega), hf⟩)
  have C2 := hide fun r hr a' b' => compare_v (ps ++ ms) (behindK ps) r hr a' b'
  have C2 := hide (C2.out _ rfl)
  have q1 := (hbi2.1 hcm).1
  have hbg : ¬ common ks ps = ps.length := fun h => by have := (hbi.1 h).2 _ hbeh; omega
  have hbg' : ((common ks ps : Int) == (ps.length : Int)) = false := by simp; omega
  have hcm' : ((common (ps ++ ms) ps : Int) == (ps.length : Int)) = true := by simp [hcm]
  have hln := least_next ks ps hc.1
  obtain ⟨d1, hd1⟩ : ∃ d, cmpK (ps ++ ms) ps = d := ⟨_, rfl⟩
  have C1 := hide fun a' b' ca' cb' w' => compare_v (ps ++ ms) ps d1 hd1 a' b' ca' cb' w'
  have hr1 : -1 ≤ d1 ∧ d1 ≤ 1 := by have := cmpK_range (ps ++ ms) ps; omega
  have hq1 : 0 ≤ d1 := by omega
  have C1' := hide fun a' b' ca' w' => C1.out a' b' ca' ca w'
  obtain ⟨d2, hd2⟩ : ∃ d, cmpK (ps ++ ms) (behindK ps) = d := ⟨_, rfl⟩
  have hr2 : -1 ≤ d2 ∧ d2 ≤ 1 := by have := cmpK_range (ps ++ ms) (behindK ps); omega
  have hq2 : d2 < 0 := by omega
  have C2 := hide (compare_v (ps ++ ms) (behindK ps) d2 hd2)
  obtain ⟨d4, hd4⟩ : ∃ d, cmpK ks (behindK ps) = d := ⟨_, rfl⟩
  have hr4 : -1 ≤ d4 ∧ d4 ≤ 1 := by have := cmpK_range ks (behindK ps); omega
  have hq4 : 0 ≤ d4 := by omega
  have C4 := hide (compare_v ks (behindK ps) d4 hd4)
  have B1 := hide (begins_v (ps ++ ms) ps _ hcm')
  have C3 := hide (compare_v ks ps _ hkp)
  have L := hide (least_v a ps ca ha.1 (by omega))
  have B2 := hide (begins_v ks ps _ hbg')
  have C5 := hide (compare_v (ps ++ [0]) ps _ (least_behind ps))
  obtain ⟨d6, hd6⟩ : ∃ d, cmpK ks (ps ++ [0]) = d := ⟨_, rfl⟩
  have hr6 : -1 ≤ d6 ∧ d6 ≤ 1 := by have := cmpK_range ks (ps ++ [0]); omega
  have hq6 : 0 ≤ d6 := by omega
  have C6 := hide (compare_v ks (ps ++ [0]) d6 hd6)
  have hla : (ps ++ ms).length ≤ 60 := by simp; omega
  have hln' : (ps ++ [0]).length ≤ 31 := by simp; omega
  have hlb : (behindK ps).length ≤ 31 := by have := stripN_le ps ps.length; simp [behindK]; omega
  clear hbi hbi2 hcm hbeh hbg hbg' hcm' hln hkp hd1 q1 o1 o2 g1 g2 f1 f2 hs1 b1 b2 ha hb hc hall ral C1' hok q2 hbb hbl hd2 hsl hd4 hkb hd6

  generalize ps ++ ms = als at *
  generalize ps ++ [0] = ns at *
  generalize behindK ps = bs at *
  go_enter Try.func5, Try.ntmps5
  go_wp2_with (first | (at_builtin; refine wpList_append_run rfl _ _ _ _ rfl _ _ _ _ rfl rfl r1 ?_) | (at_builtin; refine wpList_append_run rfl _ _ _ _ rfl _ _ _ _ rfl rfl r2 ?_))
  go_wp2_with fail
  refine (Q.out _ RP.out).mono ?_
  rintro e w1 ⟨rfl, rb, k⟩
  replace F := step F k
  replace RP := hide (RP.out.below k (Nat.le_refl _))
  replace RK := hide (RK.out.below k (Nat.le_refl _))
  replace RALL := hide (RALL.out.below k (Nat.le_refl _))
  have RB := hide rb
  clear k rb
  go_wp2_with fail
  refine (C1.out _ _ _ _ _ RALL.out RP.out).mono ?_
  rintro e w2 ⟨rfl, k⟩
  replace F := step F k
  replace RP := hide (RP.out.below k (Nat.le_refl _))
  replace RK := hide (RK.out.below k (Nat.le_refl _))
  replace RALL := hide (RALL.out.below k (Nat.le_refl _))
  replace RB := hide (RB.out.below k (Nat.le_refl _))
  clear k
  go_wp2_with fail
  refine (C2.out _ _ _ _ _ RALL.out RB.out).mono ?_
  rintro e w3 ⟨rfl, k⟩
  replace F := step F k
  replace RP := hide (RP.out.below k (Nat.le_refl _))
  replace RK := hide (RK.out.below k (Nat.le_refl _))
  replace RALL := hide (RALL.out.below k (Nat.le_refl _))
  replace RB := hide (RB.out.below k (Nat.le_refl _))
  clear k
  go_wp2_with fail
  refine (B1.out _ _ _ _ _ RALL.out RP.out).mono ?_
  rintro e w4 ⟨rfl, k⟩
  replace F := step F k
  replace RP := hide (RP.out.below k (Nat.le_refl _))
  replace RK := hide (RK.out.below k (Nat.le_refl _))
  replace RALL := hide (RALL.out.below k (Nat.le_refl _))
  replace RB := hide (RB.out.below k (Nat.le_refl _))
  clear k
  go_wp2_with fail
  refine (C3.out _ _ _ _ _ RK.out RP.out).mono ?_
  rintro e w5 ⟨rfl, k⟩
  replace F := step F k
  replace RP := hide (RP.out.below k (Nat.le_refl _))
  replace RK := hide (RK.out.below k (Nat.le_refl _))
  replace RALL := hide (RALL.out.below k (Nat.le_refl _))
  replace RB := hide (RB.out.below k (Nat.le_refl _))
  clear k
  go_wp2_with fail
  refine (C4.out _ _ _ _ _ RK.out RB.out).mono ?_
  rintro e w6 ⟨rfl, k⟩
  replace F := step F k
  replace RP := hide (RP.out.below k (Nat.le_refl _))
  replace RK := hide (RK.out.below k (Nat.le_refl _))
  replace RALL := hide (RALL.out.below k (Nat.le_refl _))
  replace RB := hide (RB.out.below k (Nat.le_refl _))
  clear k
  go_wp2_with fail
  refine (L.out _ RP.out).mono ?_
  rintro e w7 ⟨rfl, rn, k⟩
  replace F := step F k
  replace RP := hide (RP.out.below k (Nat.le_refl _))
  replace RK := hide (RK.out.below k (Nat.le_refl _))
  replace RALL := hide (RALL.out.below k (Nat.le_refl _))
  replace RB := hide (RB.out.below k (Nat.le_refl _))
  have RN := hide rn
  clear k rn
  go_wp2_with fail
  refine (B2.out _ _ _ _ _ RK.out RP.out).mono ?_
  rintro e w8 ⟨rfl, k⟩
  replace F := step F k
  replace RP := hide (RP.out.below k (Nat.le_refl _))
  replace RK := hide (RK.out.below k (Nat.le_refl _))
  replace RALL := hide (RALL.out.below k (Nat.le_refl _))
  replace RB := hide (RB.out.below k (Nat.le_refl _))
  replace RN := hide (RN.out.below k (Nat.le_refl _))
  clear k
  go_wp2_with fail
  refine (C5.out _ _ _ _ _ RN.out RP.out).mono ?_
  rintro e w9 ⟨rfl, k⟩
  replace F := step F k
  replace RP := hide (RP.out.below k (Nat.le_refl _))
  replace RK := hide (RK.out.below k (Nat.le_refl _))
  replace RALL := hide (RALL.out.below k (Nat.le_refl _))
  replace RB := hide (RB.out.below k (Nat.le_refl _))
  replace RN := hide (RN.out.below k (Nat.le_refl _))
  clear k
  go_wp2_with fail
  refine (C3.out _ _ _ _ _ RK.out RP.out).mono ?_
  rintro e w10 ⟨rfl, k⟩
  replace F := step F k
  replace RP := hide (RP.out.below k (Nat.le_refl _))
  replace RK := hide (RK.out.below k (Nat.le_refl _))
  replace RALL := hide (RALL.out.below k (Nat.le_refl _))
  replace RB := hide (RB.out.below k (Nat.le_refl _))
  replace RN := hide (RN.out.below k (Nat.le_refl _))
  clear k
  go_wp2_with fail
  refine (C6.out _ _ _ _ _ RK.out RN.out).mono ?_
  rintro e w11 ⟨rfl, k⟩
  replace F := step F k
  replace RP := hide (RP.out.below k (Nat.le_refl _))
  replace RK := hide (RK.out.below k (Nat.le_refl _))
  replace RALL := hide (RALL.out.below k (Nat.le_refl _))
  replace RB := hide (RB.out.below k (Nat.le_refl _))
  replace RN := hide (RN.out.below k (Nat.le_refl _))
  clear k
  go_wp2_with fail
  refine (awake_any _).mono ?_
  rintro e w12 ⟨rfl, k⟩
  replace F := step F k
  clear k
  go_wp2
  go_ret
  exact ⟨ret_bool (by simp; omega), F.out⟩

set_option maxHeartbeats 1000000 in
theorem keyBehind_walk (a b c : Option Addr) (ps ms ks : List Int) (ca cb cc : Nat) (w : World) (ha : Rd w a ps) (hb : Rd w b ms) (hc : Rd w c ks) :
    Calls Try.prog 5 #[.slice a ps.length ca, .slice b ms.length cb, .slice c ks.length cc] w fun e w' => e = .returned (.bool true) ∧ Below w.heap.size w w' := by
  have hl1 := ha.2.1
  have hl2 := hb.2.1
  have hl3 := hc.2.1
  unfold maxLen at hl1 hl2 hl3
  by_cases h1 : ps.length ≤ 30
  · by_cases h2 : ms.length ≤ 30
    · by_cases h3 : ks.length ≤ 30
      · by_cases hok : stripN ps ps.length = 0
        · rcases cmpK_range ks ps with h | h | h
          · exact keyBehind_n_a a b c ps ms ks ca cb cc w ha hb hc h1 h2 h3 hok h
          · exact keyBehind_n_b a b c ps ms ks ca cb cc w ha hb hc h1 h2 h3 hok h
          · exact keyBehind_n_c a b c ps ms ks ca cb cc w ha hb hc h1 h2 h3 hok h
        · have hok' : 0 < stripN ps ps.length := by omega
          rcases cmpK_range ks ps with h | h | h
          · exact keyBehind_y_a a b c ps ms ks ca cb cc w ha hb hc h1 h2 h3 hok' h
          · by_cases hk : cmpK ks (behindK ps) < 0
            · exact keyBehind_y_b_lt a b c ps ms ks ca cb cc w ha hb hc h1 h2 h3 hok' h hk
            · exact keyBehind_y_b_ge a b c ps ms ks ca cb cc w ha hb hc h1 h2 h3 hok' h (by omega)
          · by_cases hk : cmpK ks (behindK ps) < 0
            · exact keyBehind_y_c_lt a b c ps ms ks ca cb cc w ha hb hc h1 h2 h3 hok' h hk
            · exact keyBehind_y_c_ge a b c ps ms ks ca cb cc w ha hb hc h1 h2 h3 hok' h (by omega)
      · have F := start w
        clear ha hb hc
        go_enter Try.func5, Try.ntmps5
        go_wp2_with fail
        refine (awake_any _).mono ?_
        rintro e w7 ⟨rfl, k⟩
        replace F := step F k
        clear k
        go_wp2
        go_ret
        exact ⟨rfl, F.out⟩
    · have F := start w
      clear ha hb hc
      go_enter Try.func5, Try.ntmps5
      go_wp2_with fail
      refine (awake_any _).mono ?_
      rintro e w7 ⟨rfl, k⟩
      replace F := step F k
      clear k
      go_wp2
      go_ret
      exact ⟨rfl, F.out⟩
  · have F := start w
    clear ha hb hc
    go_enter Try.func5, Try.ntmps5
    go_wp2_with fail
    refine (awake_any _).mono ?_
    rintro e w7 ⟨rfl, k⟩
    replace F := step F k
    clear k
    go_wp2
    go_ret
    exact ⟨rfl, F.out⟩

end Go.Proofs.Ytinogmjmmccfmaa
