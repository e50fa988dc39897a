/- The walk of KeyTells: how any two keys compare is the document's. -/
import Derived.Test.YtinogmjmmccfmaaLawThree
import Derived.Test.YtinogmjmmccfmaaRefMakes
namespace Go.Proofs.Ytinogmjmmccfmaa
open Go.RowKit
set_option linter.unusedVariables false

theorem rcompare_b (a b : Option Addr) (xs ys : List Int) (ca cb : Nat) (w : World) (ha : Rd w a xs) (hb : Rd w b ys) :
    Calls Try.prog 17 #[.slice a xs.length ca, .slice b ys.length cb] w fun e w' => e = .returned (.int .i64 (cmpK xs ys)) ∧ Below w.heap.size w w' :=
  (rcompare_any a b xs ys ca cb w ha hb).mono fun e w' h => ⟨h.1, by rw [h.2]; exact Below.refl _ _⟩
theorem rcommon_b (a b : Option Addr) (xs ys : List Int) (ca cb : Nat) (w : World) (ha : Rd w a xs) (hb : Rd w b ys) :
    Calls Try.prog 19 #[.slice a xs.length ca, .slice b ys.length cb] w fun e w' => e = .returned (.int .i64 (common xs ys)) ∧ Below w.heap.size w w' :=
  (rcommon_any a b xs ys ca cb w ha hb).mono fun e w' h => ⟨h.1, quiet_below h.2⟩
theorem rbit_b (a : Option Addr) (xs : List Int) (ca : Nat) (i : Int) (w : World) (ha : Rd w a xs) (hi : i ≤ 9223372036854775807) (hi0 : -9223372036854775808 ≤ i) :
    Calls Try.prog 21 #[.slice a xs.length ca, .int .i64 i] w fun e w' => e = .returned (.int .i64 (bitK xs i)) ∧ Below w.heap.size w w' :=
  (rbit_any a xs ca i w ha hi hi0).mono fun e w' h => ⟨h.1, by rw [h.2]; exact Below.refl _ _⟩
theorem rdiffer_b (a b : Option Addr) (xs ys : List Int) (ca cb : Nat) (w : World) (ha : Rd w a xs) (hb : Rd w b ys) (hs : xs.length ≤ 1000000) :
    Calls Try.prog 23 #[.slice a xs.length ca, .slice b ys.length cb] w fun e w' => e = .returned (.int .i64 (differK xs ys)) ∧ Below w.heap.size w w' :=
  (rdiffer_any a b xs ys ca cb w ha hb hs).mono fun e w' h => ⟨h.1, quiet_below h.2⟩
theorem rbegins_b (a b : Option Addr) (xs ys : List Int) (ca cb : Nat) (w : World) (ha : Rd w a xs) (hb : Rd w b ys) :
    Calls Try.prog 25 #[.slice a xs.length ca, .slice b ys.length cb] w fun e w' => e = .returned (.bool ((common xs ys : Int) == (ys.length : Int))) ∧ Below w.heap.size w w' :=
  (rbegins_any a b xs ys ca cb w ha hb).mono fun e w' h => ⟨h.1, quiet_below h.2⟩
theorem same_yes (xs : List Int) (a b : Option Addr) (ca cb : Nat) (w : World) (ha : Rd w a xs) (hb : Rd w b xs) :
    Calls Try.prog 14 #[.slice a xs.length ca, .slice b xs.length cb] w fun e w' => e = .returned (.bool true) ∧ Below w.heap.size w w' := by
  have h := same_b a b xs xs ca cb w ha hb
  rwa [decide_eq_true rfl] at h

/-- What is lent reads as the bytes. -/
theorem lent_rd {w : World} {g : Nat} {xs : List Int} (hb : w.heap[g]? = some (.cells (u8s (lentK xs 3)).toArray 5 (0, 0))) (hx : IsBytes xs) (hn : xs.length ≤ 1000000) : Rd w (some ⟨g, 0, none⟩) xs := by
  have h := blk_rd hb (lentK_bytes hx 3) (by rw [lentK_length _ _ (Nat.le_refl _)]; unfold maxLen; omega)
  have h2 := h.take xs.length
  have e : (lentK xs 3).take xs.length = xs := by simp [lentK]
  rwa [e] at h2

theorem u8s_all (xs : List Int) : ∀ u ∈ u8s xs, ∃ q, u = .int .u8 q := by
  intro u hu
  obtain ⟨x, _, rfl⟩ := List.mem_map.1 hu
  exact ⟨x, rfl⟩

theorem blk_own_all {w : World} {base g : Nat} {xs : List Int} (hg : w.heap[g]? = some (.cells (u8s xs).toArray 5 (0, 0))) (hb : base ≤ g) (hm : xs.length ≤ maxLen) :
    w.ownsRow base 5 1 (.slice (some ⟨g, 0, none⟩) xs.length xs.length) xs.length (u8s xs) := by
  have h := blk_owns (base := base) (n := xs.length) hg hb (by simp [u8s]) (by simpa [u8s] using hm)
  have e : (u8s xs).take xs.length = u8s xs := by rw [List.take_of_length_le (by simp [u8s])]
  rw [e, u8s_length] at h
  exact h

/-- The three that a call of Behind on what was lent gives, as owned. -/
def OwnX (w w' : World) (v : Value) (bs : List Int) (gx : Nat) : Prop := w'.ownsRow w.heap.size 5 1 v bs.length (u8s bs) ∧ (v.ownBlock = none ∨ v.ownBlock = some gx)

set_option maxHeartbeats 4000000 in
theorem keyTells_n (a b : Option Addr) (xs ys : List Int) (i : Int) (ca cb : Nat) (w : World) (ha : Rd w a xs) (hb : Rd w b ys) (h1 : xs.length ≤ 60) (h2 : ys.length ≤ 60) (hca : xs.length ≤ ca) (hcm : ca ≤ maxLen)
    (hi0 : -9223372036854775808 ≤ i) (hi1 : i ≤ 9223372036854775807) (hok : stripN xs xs.length = 0) :
    Calls Try.prog 3 #[.slice a xs.length ca, .slice b ys.length cb, .int .i64 i] w fun e w' => e = .returned (.bool true) ∧ Below w.heap.size w w' := by
  have F := start w
  have RA := hide ha
  have RA0 := hide ha
  have RB := hide hb
  have XB : Hid (IsBytes xs) := ha.1
  have hb0 : Hid (IsBytes (xs ++ [0])) := fun x hm => by
    simp only [List.mem_append, List.mem_singleton] at hm
    rcases hm with hm | rfl
    · exact ha.1 x hm
    · omega
  have hl0 : (xs ++ [0]).length ≤ 61 := by simp; omega
  have RL := hide fun w' h => rleast_any a xs ca w' h (by omega)
  have HOK := hide hok
  have HCM := hide hcm
  clear ha hb hok hcm
  go_enter Try.func3, Try.ntmps3
  go_wp2_with fail
  refine (lend_any a xs ca _ RA.out (by omega)).mono ?_
  rintro e w1 ⟨rfl, hbi, k⟩
  have BI := hide hbi
  have RI := hide (lent_rd hbi XB.out (by omega))
  have g01 := block_lt hbi
  clear hbi
  replace F := step F k
  replace RA := hide (RA.out.below k (Nat.le_refl _))
  replace RB := hide (RB.out.below k (Nat.le_refl _))
  clear k
  go_wp2_with fail
  refine (behind_any (some ⟨w.heap.size, 0, none⟩) xs (xs.length + 3) _ RI.out (by omega)).mono ?_
  rintro e w2 (⟨_, rfl, hw2⟩ | ⟨h0, _⟩)
  rotate_left
  · exact absurd HOK.out (by omega)
  have k : Below w1.heap.size w1 w2 := by rw [hw2]; exact Below.refl _ _
  have s12 := k.size
  clear hw2
  replace F := step F k
  replace RA := hide (RA.out.below k (Nat.le_refl _))
  replace RB := hide (RB.out.below k (Nat.le_refl _))
  replace RI := hide (RI.out.below k (Nat.le_refl _))
  replace BI := hide ((k.block _ (block_lt BI.out)).trans BI.out)
  clear k
  go_wp2_with fail
  refine (rbehind_any a xs ca _ RA.out (by omega) hca HCM.out).mono ?_
  rintro e w3 (⟨_, rfl, hw3⟩ | ⟨h0, _⟩)
  rotate_left
  · exact absurd HOK.out (by omega)
  have k : Below w2.heap.size w2 w3 := by rw [hw3]; exact Below.refl _ _
  have s23 := k.size
  clear hw3
  replace F := step F k
  replace RA := hide (RA.out.below k (Nat.le_refl _))
  replace RB := hide (RB.out.below k (Nat.le_refl _))
  replace RI := hide (RI.out.below k (Nat.le_refl _))
  replace BI := hide ((k.block _ (block_lt BI.out)).trans BI.out)
  clear k
  go_wp2_with fail
  refine (least_any (some ⟨w.heap.size, 0, none⟩) xs (xs.length + 3) _ RI.out (by omega)).mono ?_
  rintro e w4 ⟨rfl, hbz, k, _⟩
  have OZ := hide (blk_own_all (base := w.heap.size) hbz (by omega) (by unfold maxLen; omega))
  have RZ := hide (blk_rd hbz hb0.out (by unfold maxLen; omega))
  clear hbz
  replace F := step F k
  replace RA := hide (RA.out.below k (Nat.le_refl _))
  replace RB := hide (RB.out.below k (Nat.le_refl _))
  replace RI := hide (RI.out.below k (Nat.le_refl _))
  replace BI := hide ((k.block _ (block_lt BI.out)).trans BI.out)
  clear k
  have ez : xs.length + 1 = (xs ++ [0]).length := by simp
  rw [ez]
  clear ez
  generalize xs ++ [0] = zs at *
  go_wp2_with fail
  refine (same_yes [] none none 0 0 _ (Rd.nil _ _) (Rd.nil _ _)).mono ?_
  rintro e w5 ⟨rfl, k⟩
  replace F := step F k
  replace RA := hide (RA.out.below k (Nat.le_refl _))
  replace RB := hide (RB.out.below k (Nat.le_refl _))
  replace RI := hide (RI.out.below k (Nat.le_refl _))
  replace RZ := hide (RZ.out.below k (Nat.le_refl _))
  replace BI := hide ((k.block _ (block_lt BI.out)).trans BI.out)
  replace OZ := hide (OZ.out.below k (Nat.le_refl _))
  clear k
  go_wp2_with fail
  refine (RL.out _ RA.out).mono ?_
  rintro e w6 ⟨at', ct', rfl, hrt, k⟩
  have RT := hide hrt
  clear hrt
  replace F := step F k
  replace RA := hide (RA.out.below k (Nat.le_refl _))
  replace RB := hide (RB.out.below k (Nat.le_refl _))
  replace RI := hide (RI.out.below k (Nat.le_refl _))
  replace RZ := hide (RZ.out.below k (Nat.le_refl _))
  replace BI := hide ((k.block _ (block_lt BI.out)).trans BI.out)
  replace OZ := hide (OZ.out.below k (Nat.le_refl _))
  clear k
  go_wp2_with fail
  refine (same_yes _ _ _ _ _ _ RZ.out RT.out).mono ?_
  rintro e w7 ⟨rfl, k⟩
  replace F := step F k
  replace RA := hide (RA.out.below k (Nat.le_refl _))
  replace RB := hide (RB.out.below k (Nat.le_refl _))
  replace RI := hide (RI.out.below k (Nat.le_refl _))
  replace RZ := hide (RZ.out.below k (Nat.le_refl _))
  replace RT := hide (RT.out.below k (Nat.le_refl _))
  replace BI := hide ((k.block _ (block_lt BI.out)).trans BI.out)
  replace OZ := hide (OZ.out.below k (Nat.le_refl _))
  clear k
  go_wp2_with fail
  refine (compare_b _ _ _ _ _ _ _ RI.out RB.out).mono ?_
  rintro e w8 ⟨rfl, k⟩
  replace F := step F k
  replace RA := hide (RA.out.below k (Nat.le_refl _))
  replace RB := hide (RB.out.below k (Nat.le_refl _))
  replace RI := hide (RI.out.below k (Nat.le_refl _))
  replace RZ := hide (RZ.out.below k (Nat.le_refl _))
  replace RT := hide (RT.out.below k (Nat.le_refl _))
  replace BI := hide ((k.block _ (block_lt BI.out)).trans BI.out)
  replace OZ := hide (OZ.out.below k (Nat.le_refl _))
  clear k
  go_wp2_with fail
  refine (rcompare_b _ _ _ _ _ _ _ RA.out RB.out).mono ?_
  rintro e w9 ⟨rfl, k⟩
  replace F := step F k
  replace RA := hide (RA.out.below k (Nat.le_refl _))
  replace RB := hide (RB.out.below k (Nat.le_refl _))
  replace RI := hide (RI.out.below k (Nat.le_refl _))
  replace RZ := hide (RZ.out.below k (Nat.le_refl _))
  replace RT := hide (RT.out.below k (Nat.le_refl _))
  replace BI := hide ((k.block _ (block_lt BI.out)).trans BI.out)
  replace OZ := hide (OZ.out.below k (Nat.le_refl _))
  clear k
  go_wp2_with fail
  refine (common_b _ _ _ _ _ _ _ RI.out RB.out).mono ?_
  rintro e w10 ⟨rfl, k⟩
  replace F := step F k
  replace RA := hide (RA.out.below k (Nat.le_refl _))
  replace RB := hide (RB.out.below k (Nat.le_refl _))
  replace RI := hide (RI.out.below k (Nat.le_refl _))
  replace RZ := hide (RZ.out.below k (Nat.le_refl _))
  replace RT := hide (RT.out.below k (Nat.le_refl _))
  replace BI := hide ((k.block _ (block_lt BI.out)).trans BI.out)
  replace OZ := hide (OZ.out.below k (Nat.le_refl _))
  clear k
  go_wp2_with fail
  refine (rcommon_b _ _ _ _ _ _ _ RA.out RB.out).mono ?_
  rintro e w11 ⟨rfl, k⟩
  replace F := step F k
  replace RA := hide (RA.out.below k (Nat.le_refl _))
  replace RB := hide (RB.out.below k (Nat.le_refl _))
  replace RI := hide (RI.out.below k (Nat.le_refl _))
  replace RZ := hide (RZ.out.below k (Nat.le_refl _))
  replace RT := hide (RT.out.below k (Nat.le_refl _))
  replace BI := hide ((k.block _ (block_lt BI.out)).trans BI.out)
  replace OZ := hide (OZ.out.below k (Nat.le_refl _))
  clear k
  go_wp2_with fail
  refine (bit_b _ _ _ _ _ RI.out hi1 hi0).mono ?_
  rintro e w12 ⟨rfl, k⟩
  replace F := step F k
  replace RA := hide (RA.out.below k (Nat.le_refl _))
  replace RB := hide (RB.out.below k (Nat.le_refl _))
  replace RI := hide (RI.out.below k (Nat.le_refl _))
  replace RZ := hide (RZ.out.below k (Nat.le_refl _))
  replace RT := hide (RT.out.below k (Nat.le_refl _))
  replace BI := hide ((k.block _ (block_lt BI.out)).trans BI.out)
  replace OZ := hide (OZ.out.below k (Nat.le_refl _))
  clear k
  go_wp2_with fail
  refine (rbit_b _ _ _ _ _ RA.out hi1 hi0).mono ?_
  rintro e w13 ⟨rfl, k⟩
  replace F := step F k
  replace RA := hide (RA.out.below k (Nat.le_refl _))
  replace RB := hide (RB.out.below k (Nat.le_refl _))
  replace RI := hide (RI.out.below k (Nat.le_refl _))
  replace RZ := hide (RZ.out.below k (Nat.le_refl _))
  replace RT := hide (RT.out.below k (Nat.le_refl _))
  replace BI := hide ((k.block _ (block_lt BI.out)).trans BI.out)
  replace OZ := hide (OZ.out.below k (Nat.le_refl _))
  clear k
  go_wp2_with fail
  refine (differ_b _ _ _ _ _ _ _ RI.out RB.out (by omega)).mono ?_
  rintro e w14 ⟨rfl, k⟩
  replace F := step F k
  replace RA := hide (RA.out.below k (Nat.le_refl _))
  replace RB := hide (RB.out.below k (Nat.le_refl _))
  replace RI := hide (RI.out.below k (Nat.le_refl _))
  replace RZ := hide (RZ.out.below k (Nat.le_refl _))
  replace RT := hide (RT.out.below k (Nat.le_refl _))
  replace BI := hide ((k.block _ (block_lt BI.out)).trans BI.out)
  replace OZ := hide (OZ.out.below k (Nat.le_refl _))
  clear k
  go_wp2_with fail
  refine (rdiffer_b _ _ _ _ _ _ _ RA.out RB.out (by omega)).mono ?_
  rintro e w15 ⟨rfl, k⟩
  replace F := step F k
  replace RA := hide (RA.out.below k (Nat.le_refl _))
  replace RB := hide (RB.out.below k (Nat.le_refl _))
  replace RI := hide (RI.out.below k (Nat.le_refl _))
  replace RZ := hide (RZ.out.below k (Nat.le_refl _))
  replace RT := hide (RT.out.below k (Nat.le_refl _))
  replace BI := hide ((k.block _ (block_lt BI.out)).trans BI.out)
  replace OZ := hide (OZ.out.below k (Nat.le_refl _))
  clear k
  go_wp2_with fail
  refine (begins_b _ _ _ _ _ _ _ RI.out RB.out).mono ?_
  rintro e w16 ⟨rfl, k⟩
  replace F := step F k
  replace RA := hide (RA.out.below k (Nat.le_refl _))
  replace RB := hide (RB.out.below k (Nat.le_refl _))
  replace RI := hide (RI.out.below k (Nat.le_refl _))
  replace RZ := hide (RZ.out.below k (Nat.le_refl _))
  replace RT := hide (RT.out.below k (Nat.le_refl _))
  replace BI := hide ((k.block _ (block_lt BI.out)).trans BI.out)
  replace OZ := hide (OZ.out.below k (Nat.le_refl _))
  clear k
  go_wp2_with fail
  refine (rbegins_b _ _ _ _ _ _ _ RA.out RB.out).mono ?_
  rintro e w17 ⟨rfl, k⟩
  replace F := step F k
  replace RA := hide (RA.out.below k (Nat.le_refl _))
  replace RB := hide (RB.out.below k (Nat.le_refl _))
  replace RI := hide (RI.out.below k (Nat.le_refl _))
  replace RZ := hide (RZ.out.below k (Nat.le_refl _))
  replace RT := hide (RT.out.below k (Nat.le_refl _))
  replace BI := hide ((k.block _ (block_lt BI.out)).trans BI.out)
  replace OZ := hide (OZ.out.below k (Nat.le_refl _))
  clear k
  go_wp2_with fail
  refine (over_any (.slice none 0 0) 0 w.heap.size [] _ (World.ownsRow_nil _ _ _ _) (fun u hu => by simp at hu) (by omega) F.out.size).mono ?_
  rintro e wA ⟨rfl, k⟩
  replace F : Hid (Below w.heap.size w wA) := F.out.grown k F.out.size (fun j hj => by cases hj)
  replace BI := hide ((k.block _ (block_lt BI.out) (by simp [Value.ownBlock])).trans BI.out)
  replace OZ := hide (OZ.out.kept k (.inr (by simp [Value.ownBlock])))
  clear k
  go_wp2_with fail
  refine (over_any _ _ w.heap.size _ _ OZ.out (u8s_all _) (by omega) F.out.size).mono ?_
  rintro e wB ⟨rfl, k⟩
  replace F : Hid (Below w.heap.size w wB) := F.out.grown k F.out.size (fun j hj => by simp [Value.ownBlock] at hj; omega)
  replace BI := hide ((k.block _ (block_lt BI.out) (by simp [Value.ownBlock]; omega)).trans BI.out)
  clear k
  go_wp2_with fail
  refine (kept_any w.heap.size a xs ca _ BI.out (Rd.now RA0 F) (by omega)).mono ?_
  rintro e wC ⟨rfl, k⟩
  replace F := step F k
  clear k
  go_wp2_with fail
  refine (awake_any _).mono ?_
  rintro e wD ⟨rfl, k⟩
  replace F := step F k
  clear k
  go_wp2
  go_ret
  exact ⟨rfl, F.out⟩

set_option maxHeartbeats 4000000 in
theorem keyTells_y (a b : Option Addr) (xs ys : List Int) (i : Int) (ca cb : Nat) (w : World) (ha : Rd w a xs) (hb : Rd w b ys) (h1 : xs.length ≤ 60) (h2 : ys.length ≤ 60) (hca : xs.length ≤ ca) (hcm : ca ≤ maxLen)
    (hi0 : -9223372036854775808 ≤ i) (hi1 : i ≤ 9223372036854775807) (hok : 0 < stripN xs xs.length) :
    Calls Try.prog 3 #[.slice a xs.length ca, .slice b ys.length cb, .int .i64 i] w fun e w' => e = .returned (.bool true) ∧ Below w.heap.size w w' := by
  have F := start w
  have RA := hide ha
  have RA0 := hide ha
  have RB := hide hb
  have XB : Hid (IsBytes xs) := ha.1
  have hb0 : Hid (IsBytes (xs ++ [0])) := fun x hm => by
    simp only [List.mem_append, List.mem_singleton] at hm
    rcases hm with hm | rfl
    · exact ha.1 x hm
    · omega
  have hl0 : (xs ++ [0]).length ≤ 61 := by simp; omega
  have hbb := hide (behindK_bytes ha.1 hok)
  have hbl : (behindK xs).length ≤ 60 := by have := stripN_le xs xs.length; rw [behindK_length hok]; omega
  have RL := hide fun w' h => rleast_any a xs ca w' h (by omega)
  have HOK := hide hok
  have HCM := hide hcm
  clear ha hb hok hcm
  go_enter Try.func3, Try.ntmps3
  go_wp2_with fail
  refine (lend_any a xs ca _ RA.out (by omega)).mono ?_
  rintro e w1 ⟨rfl, hbi, k⟩
  have BI := hide hbi
  have RI := hide (lent_rd hbi XB.out (by omega))
  have g01 := block_lt hbi
  clear hbi
  replace F := step F k
  replace RA := hide (RA.out.below k (Nat.le_refl _))
  replace RB := hide (RB.out.below k (Nat.le_refl _))
  clear k
  go_wp2_with fail
  refine (behind_any (some ⟨w.heap.size, 0, none⟩) xs (xs.length + 3) _ RI.out (by omega)).mono ?_
  rintro e w2 (⟨h0, _⟩ | ⟨_, rfl, hbx, k, _⟩)
  · exact absurd h0 (by have := HOK.out; omega)
  have OX := hide (blk_own_all (base := w.heap.size) hbx (by omega) (by unfold maxLen; omega))
  have RX := hide (blk_rd hbx hbb.out (by unfold maxLen; omega))
  have g12 := block_lt hbx
  clear hbx
  replace F := step F k
  replace RA := hide (RA.out.below k (Nat.le_refl _))
  replace RB := hide (RB.out.below k (Nat.le_refl _))
  replace RI := hide (RI.out.below k (Nat.le_refl _))
  replace BI := hide ((k.block _ (block_lt BI.out)).trans BI.out)
  clear k
  go_wp2_with fail
  refine (rbehind_any a xs ca _ RA.out (by omega) hca HCM.out).mono ?_
  rintro e w3 (⟨h0, _⟩ | ⟨_, ay, cy, rfl, hry, k⟩)
  · exact absurd h0 (by have := HOK.out; omega)
  have RY := hide hry
  have s23 := k.size
  clear hry
  replace F := step F k
  replace RA := hide (RA.out.below k (Nat.le_refl _))
  replace RB := hide (RB.out.below k (Nat.le_refl _))
  replace RI := hide (RI.out.below k (Nat.le_refl _))
  replace RX := hide (RX.out.below k (Nat.le_refl _))
  replace BI := hide ((k.block _ (block_lt BI.out)).trans BI.out)
  replace OX := hide (OX.out.below k (Nat.le_refl _))
  clear k
  go_wp2_with fail
  refine (least_any (some ⟨w.heap.size, 0, none⟩) xs (xs.length + 3) _ RI.out (by omega)).mono ?_
  rintro e w4 ⟨rfl, hbz, k, _⟩
  have OZ := hide (blk_own_all (base := w.heap.size) hbz (by omega) (by unfold maxLen; omega))
  have RZ := hide (blk_rd hbz hb0.out (by unfold maxLen; omega))
  clear hbz
  replace F := step F k
  replace RA := hide (RA.out.below k (Nat.le_refl _))
  replace RB := hide (RB.out.below k (Nat.le_refl _))
  replace RI := hide (RI.out.below k (Nat.le_refl _))
  replace RX := hide (RX.out.below k (Nat.le_refl _))
  replace RY := hide (RY.out.below k (Nat.le_refl _))
  replace BI := hide ((k.block _ (block_lt BI.out)).trans BI.out)
  replace OX := hide (OX.out.below k (Nat.le_refl _))
  clear k
  have ez : xs.length + 1 = (xs ++ [0]).length := by simp
  rw [ez]
  clear ez
  generalize xs ++ [0] = zs at *
  generalize behindK xs = bs at *
  go_wp2_with fail
  refine (same_yes _ _ _ _ _ _ RX.out RY.out).mono ?_
  rintro e w5 ⟨rfl, k⟩
  replace F := step F k
  replace RA := hide (RA.out.below k (Nat.le_refl _))
  replace RB := hide (RB.out.below k (Nat.le_refl _))
  replace RI := hide (RI.out.below k (Nat.le_refl _))
  replace RX := hide (RX.out.below k (Nat.le_refl _))
  replace RY := hide (RY.out.below k (Nat.le_refl _))
  replace RZ := hide (RZ.out.below k (Nat.le_refl _))
  replace BI := hide ((k.block _ (block_lt BI.out)).trans BI.out)
  replace OX := hide (OX.out.below k (Nat.le_refl _))
  replace OZ := hide (OZ.out.below k (Nat.le_refl _))
  clear k
  go_wp2_with fail
  refine (RL.out _ RA.out).mono ?_
  rintro e w6 ⟨at', ct', rfl, hrt, k⟩
  have RT := hide hrt
  clear hrt
  replace F := step F k
  replace RA := hide (RA.out.below k (Nat.le_refl _))
  replace RB := hide (RB.out.below k (Nat.le_refl _))
  replace RI := hide (RI.out.below k (Nat.le_refl _))
  replace RX := hide (RX.out.below k (Nat.le_refl _))
  replace RY := hide (RY.out.below k (Nat.le_refl _))
  replace RZ := hide (RZ.out.below k (Nat.le_refl _))
  replace BI := hide ((k.block _ (block_lt BI.out)).trans BI.out)
  replace OX := hide (OX.out.below k (Nat.le_refl _))
  replace OZ := hide (OZ.out.below k (Nat.le_refl _))
  clear k
  go_wp2_with fail
  refine (same_yes _ _ _ _ _ _ RZ.out RT.out).mono ?_
  rintro e w7 ⟨rfl, k⟩
  replace F := step F k
  replace RA := hide (RA.out.below k (Nat.le_refl _))
  replace RB := hide (RB.out.below k (Nat.le_refl _))
  replace RI := hide (RI.out.below k (Nat.le_refl _))
  replace RX := hide (RX.out.below k (Nat.le_refl _))
  replace RY := hide (RY.out.below k (Nat.le_refl _))
  replace RZ := hide (RZ.out.below k (Nat.le_refl _))
  replace RT := hide (RT.out.below k (Nat.le_refl _))
  replace BI := hide ((k.block _ (block_lt BI.out)).trans BI.out)
  replace OX := hide (OX.out.below k (Nat.le_refl _))
  replace OZ := hide (OZ.out.below k (Nat.le_refl _))
  clear k
  go_wp2_with fail
  refine (compare_b _ _ _ _ _ _ _ RI.out RB.out).mono ?_
  rintro e w8 ⟨rfl, k⟩
  replace F := step F k
  replace RA := hide (RA.out.below k (Nat.le_refl _))
  replace RB := hide (RB.out.below k (Nat.le_refl _))
  replace RI := hide (RI.out.below k (Nat.le_refl _))
  replace RX := hide (RX.out.below k (Nat.le_refl _))
  replace RY := hide (RY.out.below k (Nat.le_refl _))
  replace RZ := hide (RZ.out.below k (Nat.le_refl _))
  replace RT := hide (RT.out.below k (Nat.le_refl _))
  replace BI := hide ((k.block _ (block_lt BI.out)).trans BI.out)
  replace OX := hide (OX.out.below k (Nat.le_refl _))
  replace OZ := hide (OZ.out.below k (Nat.le_refl _))
  clear k
  go_wp2_with fail
  refine (rcompare_b _ _ _ _ _ _ _ RA.out RB.out).mono ?_
  rintro e w9 ⟨rfl, k⟩
  replace F := step F k
  replace RA := hide (RA.out.below k (Nat.le_refl _))
  replace RB := hide (RB.out.below k (Nat.le_refl _))
  replace RI := hide (RI.out.below k (Nat.le_refl _))
  replace RX := hide (RX.out.below k (Nat.le_refl _))
  replace RY := hide (RY.out.below k (Nat.le_refl _))
  replace RZ := hide (RZ.out.below k (Nat.le_refl _))
  replace RT := hide (RT.out.below k (Nat.le_refl _))
  replace BI := hide ((k.block _ (block_lt BI.out)).trans BI.out)
  replace OX := hide (OX.out.below k (Nat.le_refl _))
  replace OZ := hide (OZ.out.below k (Nat.le_refl _))
  clear k
  go_wp2_with fail
  refine (common_b _ _ _ _ _ _ _ RI.out RB.out).mono ?_
  rintro e w10 ⟨rfl, k⟩
  replace F := step F k
  replace RA := hide (RA.out.below k (Nat.le_refl _))
  replace RB := hide (RB.out.below k (Nat.le_refl _))
  replace RI := hide (RI.out.below k (Nat.le_refl _))
  replace RX := hide (RX.out.below k (Nat.le_refl _))
  replace RY := hide (RY.out.below k (Nat.le_refl _))
  replace RZ := hide (RZ.out.below k (Nat.le_refl _))
  replace RT := hide (RT.out.below k (Nat.le_refl _))
  replace BI := hide ((k.block _ (block_lt BI.out)).trans BI.out)
  replace OX := hide (OX.out.below k (Nat.le_refl _))
  replace OZ := hide (OZ.out.below k (Nat.le_refl _))
  clear k
  go_wp2_with fail
  refine (rcommon_b _ _ _ _ _ _ _ RA.out RB.out).mono ?_
  rintro e w11 ⟨rfl, k⟩
  replace F := step F k
  replace RA := hide (RA.out.below k (Nat.le_refl _))
  replace RB := hide (RB.out.below k (Nat.le_refl _))
  replace RI := hide (RI.out.below k (Nat.le_refl _))
  replace RX := hide (RX.out.below k (Nat.le_refl _))
  replace RY := hide (RY.out.below k (Nat.le_refl _))
  replace RZ := hide (RZ.out.below k (Nat.le_refl _))
  replace RT := hide (RT.out.below k (Nat.le_refl _))
  replace BI := hide ((k.block _ (block_lt BI.out)).trans BI.out)
  replace OX := hide (OX.out.below k (Nat.le_refl _))
  replace OZ := hide (OZ.out.below k (Nat.le_refl _))
  clear k
  go_wp2_with fail
  refine (bit_b _ _ _ _ _ RI.out hi1 hi0).mono ?_
  rintro e w12 ⟨rfl, k⟩
  replace F := step F k
  replace RA := hide (RA.out.below k (Nat.le_refl _))
  replace RB := hide (RB.out.below k (Nat.le_refl _))
  replace RI := hide (RI.out.below k (Nat.le_refl _))
  replace RX := hide (RX.out.below k (Nat.le_refl _))
  replace RY := hide (RY.out.below k (Nat.le_refl _))
  replace RZ := hide (RZ.out.below k (Nat.le_refl _))
  replace RT := hide (RT.out.below k (Nat.le_refl _))
  replace BI := hide ((k.block _ (block_lt BI.out)).trans BI.out)
  replace OX := hide (OX.out.below k (Nat.le_refl _))
  replace OZ := hide (OZ.out.below k (Nat.le_refl _))
  clear k
  go_wp2_with fail
  refine (rbit_b _ _ _ _ _ RA.out hi1 hi0).mono ?_
  rintro e w13 ⟨rfl, k⟩
  replace F := step F k
  replace RA := hide (RA.out.below k (Nat.le_refl _))
  replace RB := hide (RB.out.below k (Nat.le_refl _))
  replace RI := hide (RI.out.below k (Nat.le_refl _))
  replace RX := hide (RX.out.below k (Nat.le_refl _))
  replace RY := hide (RY.out.below k (Nat.le_refl _))
  replace RZ := hide (RZ.out.below k (Nat.le_refl _))
  replace RT := hide (RT.out.below k (Nat.le_refl _))
  replace BI := hide ((k.block _ (block_lt BI.out)).trans BI.out)
  replace OX := hide (OX.out.below k (Nat.le_refl _))
  replace OZ := hide (OZ.out.below k (Nat.le_refl _))
  clear k
  go_wp2_with fail
  refine (differ_b _ _ _ _ _ _ _ RI.out RB.out (by omega)).mono ?_
  rintro e w14 ⟨rfl, k⟩
  replace F := step F k
  replace RA := hide (RA.out.below k (Nat.le_refl _))
  replace RB := hide (RB.out.below k (Nat.le_refl _))
  replace RI := hide (RI.out.below k (Nat.le_refl _))
  replace RX := hide (RX.out.below k (Nat.le_refl _))
  replace RY := hide (RY.out.below k (Nat.le_refl _))
  replace RZ := hide (RZ.out.below k (Nat.le_refl _))
  replace RT := hide (RT.out.below k (Nat.le_refl _))
  replace BI := hide ((k.block _ (block_lt BI.out)).trans BI.out)
  replace OX := hide (OX.out.below k (Nat.le_refl _))
  replace OZ := hide (OZ.out.below k (Nat.le_refl _))
  clear k
  go_wp2_with fail
  refine (rdiffer_b _ _ _ _ _ _ _ RA.out RB.out (by omega)).mono ?_
  rintro e w15 ⟨rfl, k⟩
  replace F := step F k
  replace RA := hide (RA.out.below k (Nat.le_refl _))
  replace RB := hide (RB.out.below k (Nat.le_refl _))
  replace RI := hide (RI.out.below k (Nat.le_refl _))
  replace RX := hide (RX.out.below k (Nat.le_refl _))
  replace RY := hide (RY.out.below k (Nat.le_refl _))
  replace RZ := hide (RZ.out.below k (Nat.le_refl _))
  replace RT := hide (RT.out.below k (Nat.le_refl _))
  replace BI := hide ((k.block _ (block_lt BI.out)).trans BI.out)
  replace OX := hide (OX.out.below k (Nat.le_refl _))
  replace OZ := hide (OZ.out.below k (Nat.le_refl _))
  clear k
  go_wp2_with fail
  refine (begins_b _ _ _ _ _ _ _ RI.out RB.out).mono ?_
  rintro e w16 ⟨rfl, k⟩
  replace F := step F k
  replace RA := hide (RA.out.below k (Nat.le_refl _))
  replace RB := hide (RB.out.below k (Nat.le_refl _))
  replace RI := hide (RI.out.below k (Nat.le_refl _))
  replace RX := hide (RX.out.below k (Nat.le_refl _))
  replace RY := hide (RY.out.below k (Nat.le_refl _))
  replace RZ := hide (RZ.out.below k (Nat.le_refl _))
  replace RT := hide (RT.out.below k (Nat.le_refl _))
  replace BI := hide ((k.block _ (block_lt BI.out)).trans BI.out)
  replace OX := hide (OX.out.below k (Nat.le_refl _))
  replace OZ := hide (OZ.out.below k (Nat.le_refl _))
  clear k
  go_wp2_with fail
  refine (rbegins_b _ _ _ _ _ _ _ RA.out RB.out).mono ?_
  rintro e w17 ⟨rfl, k⟩
  replace F := step F k
  replace RA := hide (RA.out.below k (Nat.le_refl _))
  replace RB := hide (RB.out.below k (Nat.le_refl _))
  replace RI := hide (RI.out.below k (Nat.le_refl _))
  replace RX := hide (RX.out.below k (Nat.le_refl _))
  replace RY := hide (RY.out.below k (Nat.le_refl _))
  replace RZ := hide (RZ.out.below k (Nat.le_refl _))
  replace RT := hide (RT.out.below k (Nat.le_refl _))
  replace BI := hide ((k.block _ (block_lt BI.out)).trans BI.out)
  replace OX := hide (OX.out.below k (Nat.le_refl _))
  replace OZ := hide (OZ.out.below k (Nat.le_refl _))
  clear k
  go_wp2_with fail
  refine (over_any _ _ w.heap.size _ _ OX.out (u8s_all _) (by omega) F.out.size).mono ?_
  rintro e wA ⟨rfl, k⟩
  replace F : Hid (Below w.heap.size w wA) := F.out.grown k F.out.size (fun j hj => by simp [Value.ownBlock] at hj; omega)
  replace BI := hide ((k.block _ (block_lt BI.out) (by simp [Value.ownBlock]; omega)).trans BI.out)
  replace OZ := hide (OZ.out.kept k (.inr (by simp [Value.ownBlock]; omega)))
  clear k
  go_wp2_with fail
  refine (over_any _ _ w.heap.size _ _ OZ.out (u8s_all _) (by omega) F.out.size).mono ?_
  rintro e wB ⟨rfl, k⟩
  replace F : Hid (Below w.heap.size w wB) := F.out.grown k F.out.size (fun j hj => by simp [Value.ownBlock] at hj; omega)
  replace BI := hide ((k.block _ (block_lt BI.out) (by simp [Value.ownBlock]; omega)).trans BI.out)
  clear k
  go_wp2_with fail
  refine (kept_any w.heap.size a xs ca _ BI.out (Rd.now RA0 F) (by omega)).mono ?_
  rintro e wC ⟨rfl, k⟩
  replace F := step F k
  clear k
  go_wp2_with fail
  refine (awake_any _).mono ?_
  rintro e wD ⟨rfl, k⟩
  replace F := step F k
  clear k
  go_wp2
  go_ret
  exact ⟨rfl, F.out⟩

set_option maxHeartbeats 1000000 in
theorem keyTells_walk (a b : Option Addr) (xs ys : List Int) (i : Int) (ca cb : Nat) (w : World) (ha : Rd w a xs) (hb : Rd w b ys) (hca : xs.length ≤ ca) (hcm : ca ≤ maxLen)
    (hi0 : -9223372036854775808 ≤ i) (hi1 : i ≤ 9223372036854775807) :
    Calls Try.prog 3 #[.slice a xs.length ca, .slice b ys.length cb, .int .i64 i] w fun e w' => e = .returned (.bool true) ∧ Below w.heap.size w w' := by
  have hl1 := ha.2.1
  have hl2 := hb.2.1
  unfold maxLen at hl1 hl2
  by_cases h1 : xs.length ≤ 60
  · by_cases h2 : ys.length ≤ 60
    · by_cases hok : stripN xs xs.length = 0
      · exact keyTells_n a b xs ys i ca cb w ha hb h1 h2 hca hcm hi0 hi1 hok
      · exact keyTells_y a b xs ys i ca cb w ha hb h1 h2 hca hcm hi0 hi1 (by omega)
    · have F := start w
      clear ha hb
      go_enter Try.func3, Try.ntmps3
      go_wp2_with fail
      refine (awake_any _).mono ?_
      rintro e w7 ⟨rfl, k⟩
      replace F := step F k
      clear k
      go_wp2
      go_ret
      exact ⟨rfl, F.out⟩
  · have F := start w
    clear ha hb
    go_enter Try.func3, Try.ntmps3
    go_wp2_with fail
    refine (awake_any _).mono ?_
    rintro e w7 ⟨rfl, k⟩
    replace F := step F k
    clear k
    go_wp2
    go_ret
    exact ⟨rfl, F.out⟩

end Go.Proofs.Ytinogmjmmccfmaa
