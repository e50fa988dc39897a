/- The walk of KeyThree. -/
import Derived.Test.YtinogmjmmccfmaaLawBits
import Derived.Test.YtinogmjmmccfmaaOrder
namespace Go.Proofs.Ytinogmjmmccfmaa
open Go.RowKit
set_option linter.unusedVariables false

/-- How many of the first t are m. -/
def cntK (l : List Int) (m : Int) : Nat → Int
  | 0 => 0
  | t + 1 => cntK l m t + if l.getD t 0 = m then 1 else 0
theorem cntK_le (l : List Int) (m : Int) (t : Nat) : 0 ≤ cntK l m t ∧ cntK l m t ≤ t := by
  induction t with
  | zero => simp [cntK]
  | succ t ih => simp only [cntK]; split <;> omega
theorem cntK_yes (l : List Int) (m : Int) (t : Nat) (h : l.getD t 0 = m) : cntK l m (t + 1) = cntK l m t + 1 := by simp only [cntK]; rw [if_pos h]
theorem cntK_no (l : List Int) (m : Int) (t : Nat) (h : l.getD t 0 ≠ m) : cntK l m (t + 1) = cntK l m t := by simp only [cntK]; rw [if_neg h]; simp
theorem cntK_three (x y z : Int) : cntK [x, y, z] (min (min x y) z) 3 = twice x y z := by simp [cntK, twice]

set_option maxHeartbeats 1000000 in
theorem keyThree_walk (a b c : Option Addr) (xs ys zs : List Int) (ca cb cc : Nat) (w : World) (ha : Rd w a xs) (hb : Rd w b ys) (hc : Rd w c zs) (hca : xs.length ≤ ca) (hcm : ca ≤ maxLen) :
    Calls Try.prog 7 #[.slice a xs.length ca, .slice b ys.length cb, .slice c zs.length cc] w fun e w' => e = .returned (.bool true) ∧ Below w.heap.size w w' := by
  have hl1 := ha.2.1
  have hl2 := hb.2.1
  have hl3 := hc.2.1
  unfold maxLen at hl1 hl2 hl3 hcm
  have F := start w
  have HA := hide ha
  have HB := hide hb
  have HC := hide hc
  clear ha hb hc
  by_cases h1 : xs.length ≤ 30
  · by_cases h2 : ys.length ≤ 30
    · by_cases h3 : zs.length ≤ 30
      · have l1 := common_le xs ys
        have l2 := common_le ys zs
        have l3 := common_le xs zs
        have ht := common_twice xs ys zs
        rw [← cntK_three] at ht
        obtain ⟨m, hm⟩ : ∃ m, m = min (min (common xs ys : Int) (common ys zs : Int)) (common xs zs : Int) := ⟨_, rfl⟩
        have hb0 : 0 ≤ m ∧ m ≤ 30 := by omega
        have hmin : ∀ ts t w, (Builtin.min_ ts t #[.int .i64 (common xs ys : Int), .int .i64 (common ys zs : Int), .int .i64 (common xs zs : Int)]).run Try.prog w = .ok (.int .i64 m) w := fun ts t w => by
          rw [run_min_int3, hm]
          congr 2
          split <;> split <;> omega
        rw [← hm] at ht
        have HT := hide ht
        have K1 := hide fun w' h1 h2 => common_b a b xs ys ca cb w' h1 h2
        have K2 := hide fun w' h1 h2 => common_b b c ys zs cb cc w' h1 h2
        have K3 := hide fun w' h1 h2 => common_b a c xs zs ca cc w' h1 h2
        have B1 := hide fun w' (h1 : Rd w' a xs) => begins_b a a xs (xs.take (common xs ys)) ca ca w' h1 (h1.take _)
        have B2 := hide fun w' (h1 : Rd w' b ys) (h2 : Rd w' a xs) => begins_b b a ys (xs.take (common xs ys)) cb ca w' h1 (h2.take _)
        have hx1 : common xs (xs.take (common xs ys)) = common xs ys := by rw [common_comm]; exact common_take xs _ l1.1
        have hx2 : common ys (xs.take (common xs ys)) = common xs ys := common_take_of xs ys _ (Nat.le_refl _)
        have hx3 : (xs.take (common xs ys)).length = common xs ys := by simp; omega
        rw [hx1, hx3, show (((common xs ys : Nat) : Int) == ((common xs ys : Nat) : Int)) = true from by simp] at B1
        rw [hx2, hx3, show (((common xs ys : Nat) : Int) == ((common xs ys : Nat) : Int)) = true from by simp] at B2
        have C1 := hide fun w' h1 h2 => compare_b a b xs ys ca cb w' h1 h2
        have C2 := hide fun w' h1 h2 => compare_b b c ys zs cb cc w' h1 h2
        have C3 := hide fun w' h1 h2 => compare_b a c xs zs ca cc w' h1 h2
        have hg : 0 < cmpK xs ys ∨ (cmpK xs ys ≤ 0 ∧ 0 < cmpK ys zs) ∨ (cmpK xs ys ≤ 0 ∧ cmpK ys zs ≤ 0 ∧ cmpK xs zs ≤ 0) := by
          have := cmpK_trans xs ys zs
          omega
        have r1 : -1 ≤ cmpK xs ys ∧ cmpK xs ys ≤ 1 := by have := cmpK_range xs ys; omega
        have r2 : -1 ≤ cmpK ys zs ∧ cmpK ys zs ≤ 1 := by have := cmpK_range ys zs; omega
        have r3 : -1 ≤ cmpK xs zs ∧ cmpK xs zs ≤ 1 := by have := cmpK_range xs zs; omega
        generalize cmpK xs ys = c1 at *
        generalize cmpK ys zs = c2 at *
        generalize cmpK xs zs = c3 at *
        clear ht hm hx1 hx2 hx3
        generalize common xs ys = x at *
        generalize common ys zs = y at *
        generalize common xs zs = z at *
        go_enter Try.func7, Try.ntmps7
        go_wp2_with fail
        refine (K1.out _ (Rd.now HA F) (Rd.now HB F)).mono ?_
        rintro e w1 ⟨rfl, k⟩
        replace F := step F k
        clear k
        go_wp2_with fail
        refine (K2.out _ (Rd.now HB F) (Rd.now HC F)).mono ?_
        rintro e w2 ⟨rfl, k⟩
        replace F := step F k
        clear k
        go_wp2_with fail
        refine (K3.out _ (Rd.now HA F) (Rd.now HC F)).mono ?_
        rintro e w3 ⟨rfl, k⟩
        replace F := step F k
        clear k
        go_wp2_with fail
        have hcell : ∀ t, t < 3 → (w3.alloc (Obj.cells #[Value.int IntKind.i64 ↑x, Value.int IntKind.i64 ↑y, Value.int IntKind.i64 ↑z] 3)).cell? ⟨w3.heap.size, t, none⟩ = some (.int .i64 ([(x : Int), (y : Int), (z : Int)].getD t 0)) := by
          intro t ht
          have h := heap_alloc_new w3 (Obj.cells #[Value.int IntKind.i64 ↑x, Value.int IntKind.i64 ↑y, Value.int IntKind.i64 ↑z] 3)
          simp only [World.cell?, h]
          match t, ht with
          | 0, _ => rfl
          | 1, _ => rfl
          | 2, _ => rfl
        have HCELL := hide hcell
        replace F : Hid (Below w.heap.size w (w3.alloc (Obj.cells #[Value.int IntKind.i64 ↑x, Value.int IntKind.i64 ↑y, Value.int IntKind.i64 ↑z] 3))) := F.out.alloc F.out.size _
        clear hcell
        generalize w3.alloc (Obj.cells #[Value.int IntKind.i64 ↑x, Value.int IntKind.i64 ↑y, Value.int IntKind.i64 ↑z] 3) = w4 at *
        go_loop [11, 13] (fun v i => ∃ t : Nat, i = .int .i64 t ∧ t ≤ 3 ∧ v = .int .i64 (cntK [(x : Int), (y : Int), (z : Int)] m t)) (fun _ i => 3 - (intOf i).toNat)
        case atStart => exact ⟨0, rfl, by omega, rfl⟩
        case round =>
          obtain ⟨t, rfl, ht, rfl⟩ := hrel
          by_cases h3t : t < 3
          · have hc := HCELL.out t h3t
            have hle := cntK_le [(x : Int), (y : Int), (z : Int)] m t
            by_cases he : [(x : Int), (y : Int), (z : Int)].getD t 0 = m
            · have HE := hide (cntK_yes _ m t he)
              have he' : ([(x : Int), (y : Int), (z : Int)].getD t 0 == m) = true := by simpa using he
              clear he
              generalize [(x : Int), (y : Int), (z : Int)].getD t 0 = q at *
              go_wp2
              go_round
              case rel => exact ⟨t + 1, by go_num, by omega, by rw [HE.out]⟩
              case measure => simp [intOf]; omega
            · have HE := hide (cntK_no _ m t he)
              have he' : ([(x : Int), (y : Int), (z : Int)].getD t 0 == m) = false := by simpa using he
              clear he
              generalize [(x : Int), (y : Int), (z : Int)].getD t 0 = q at *
              go_wp2
              go_round
              case rel => exact ⟨t + 1, by go_num, by omega, by rw [HE.out]⟩
              case measure => simp [intOf]; omega
          · obtain rfl : t = 3 := by omega
            have hT := HT.out
            have hle := cntK_le [(x : Int), (y : Int), (z : Int)] m 3
            generalize cntK [(x : Int), (y : Int), (z : Int)] m 3 = T at *
            rcases hg with g | ⟨g, g2⟩ | ⟨g, g2, g3⟩
            · skip
              go_wp2_with fail
              refine (C1.out _ (Rd.now HA F) (Rd.now HB F)).mono ?_
              rintro e w5 ⟨rfl, k⟩
              replace F := step F k
              clear k
              go_wp2_with fail
              refine (B1.out _ (Rd.now HA F)).mono ?_
              rintro e w6 ⟨rfl, k⟩
              replace F := step F k
              clear k
              go_wp2_with fail
              refine (B2.out _ (Rd.now HB F) (Rd.now HA F)).mono ?_
              rintro e w7 ⟨rfl, k⟩
              replace F := step F k
              clear k
              go_wp2_with fail
              refine (awake_any _).mono ?_
              rintro e w8 ⟨rfl, k⟩
              replace F := step F k
              clear k
              go_wp2
              go_ret
              exact ⟨rfl, F.out⟩
            · skip
              go_wp2_with fail
              refine (C1.out _ (Rd.now HA F) (Rd.now HB F)).mono ?_
              rintro e w5 ⟨rfl, k⟩
              replace F := step F k
              clear k
              go_wp2_with fail
              refine (C2.out _ (Rd.now HB F) (Rd.now HC F)).mono ?_
              rintro e w6 ⟨rfl, k⟩
              replace F := step F k
              clear k
              go_wp2_with fail
              refine (B1.out _ (Rd.now HA F)).mono ?_
              rintro e w7 ⟨rfl, k⟩
              replace F := step F k
              clear k
              go_wp2_with fail
              refine (B2.out _ (Rd.now HB F) (Rd.now HA F)).mono ?_
              rintro e w8 ⟨rfl, k⟩
              replace F := step F k
              clear k
              go_wp2_with fail
              refine (awake_any _).mono ?_
              rintro e w9 ⟨rfl, k⟩
              replace F := step F k
              clear k
              go_wp2
              go_ret
              exact ⟨rfl, F.out⟩
            · skip
              go_wp2_with fail
              refine (C1.out _ (Rd.now HA F) (Rd.now HB F)).mono ?_
              rintro e w5 ⟨rfl, k⟩
              replace F := step F k
              clear k
              go_wp2_with fail
              refine (C2.out _ (Rd.now HB F) (Rd.now HC F)).mono ?_
              rintro e w6 ⟨rfl, k⟩
              replace F := step F k
              clear k
              go_wp2_with fail
              refine (C3.out _ (Rd.now HA F) (Rd.now HC F)).mono ?_
              rintro e w7 ⟨rfl, k⟩
              replace F := step F k
              clear k
              go_wp2_with fail
              refine (B1.out _ (Rd.now HA F)).mono ?_
              rintro e w8 ⟨rfl, k⟩
              replace F := step F k
              clear k
              go_wp2_with fail
              refine (B2.out _ (Rd.now HB F) (Rd.now HA F)).mono ?_
              rintro e w9 ⟨rfl, k⟩
              replace F := step F k
              clear k
              go_wp2_with fail
              refine (awake_any _).mono ?_
              rintro e w10 ⟨rfl, k⟩
              replace F := step F k
              clear k
              go_wp2
              go_ret
              exact ⟨rfl, F.out⟩
      · go_enter Try.func7, Try.ntmps7
        go_wp2_with fail
        refine (awake_any _).mono ?_
        rintro e w7 ⟨rfl, k⟩
        replace F := step F k
        clear k
        go_wp2
        go_ret
        exact ⟨rfl, F.out⟩
    · go_enter Try.func7, Try.ntmps7
      go_wp2_with fail
      refine (awake_any _).mono ?_
      rintro e w7 ⟨rfl, k⟩
      replace F := step F k
      clear k
      go_wp2
      go_ret
      exact ⟨rfl, F.out⟩
  · go_enter Try.func7, Try.ntmps7
    go_wp2_with fail
    refine (awake_any _).mono ?_
    rintro e w7 ⟨rfl, k⟩
    replace F := step F k
    clear k
    go_wp2
    go_ret
    exact ⟨rfl, F.out⟩

end Go.Proofs.Ytinogmjmmccfmaa
