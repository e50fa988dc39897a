/- The document's node: Next, Prev, Bytes. -/
import Derived.Test.YtmogjhljmljpfaaDoorRo9
namespace Go.Proofs.YtmogjhljmljpfaaDoor
open Go.RowKit Go.Sort
set_option linter.unusedVariables false
set_option linter.unusedSimpArgs false
set_option maxRecDepth 100000
section
variable {g s : Nat} {f : Nat → Nat} {K : Nat → Prop} {w : World}
theorem nxtF_eq (f : Nat → Nat) (n : Int) : nxtF f n = firstUp (fun b => isC f b && decide (n ≤ (b : Int))) 256 := rfl
set_option maxHeartbeats 1600000 in
theorem rnext9 (h : Rs g s f K w) (n : Int) (hn : -9223372036854775808 ≤ n ∧ n ≤ 9223372036854775807) :
    Calls Tryd.prog 32 #[.pointer (some ⟨g, 0, none⟩), .int .i64 n] w fun r w' => r = .returned (.tuple #[.int .i64 (nxtF f n), .int .u32 (atF f (nxtF f n) : Int)]) ∧ Still w w' := by
  have H := hide h
  clear h
  obtain ⟨k0, hk0⟩ : ∃ k0 : Nat, (k0 : Int) = max n 0 := ⟨(max n 0).toNat, by omega⟩
  have KEY : Hid ((∀ j : Nat, j < k0 → (isC f j && decide (n ≤ (j : Int))) = false) ∧ n ≤ (k0 : Int) ∧ k0 ≤ 9223372036854775807) := by
    refine ⟨fun j hj => ?_, by omega, by omega⟩
    have : ¬ (n ≤ (j : Int)) := by omega
    simp [this]
  by_cases h0 : 0 ≤ n
  all_goals (
    have hv : max n 0 = (k0 : Int) := hk0.symm
    clear hk0
    go_enter Tryd.func32, Tryd.ntmps32
    go_wp2_with fail
    go_loopw [1] (fun v wr => ∃ k : Nat, v = .int .i64 k ∧ k0 ≤ k ∧ k ≤ max k0 256 ∧ (∀ j : Nat, j < k → (isC f j && decide (n ≤ (j : Int))) = false) ∧ wr = w) (fun v _ => max k0 256 - (intOf v).toNat)
    case atStart => exact ⟨k0, by first | (congr 1; omega), Nat.le_refl _, by omega, KEY.out.1, rfl⟩
    case round =>
      obtain ⟨k, rfl, hk1, hk2, hk3, rfl⟩ := hrel
      have K3 := hide hk3
      have hle : n ≤ (k : Int) := by have := KEY.out.2.1; omega
      clear hk3
      by_cases hk : k < 256
      · have cc := H.out.cell k hk
        have hki : (k : Int) < 256 := by omega
        by_cases hf : f k = 0
        · have hf0 : ((f k : Int) != 0) = false := by simp; omega
          go_wp2_with fail
          go_roundw
          case measure => simp only [intOf]; omega
          case rel =>
            refine ⟨k + 1, by go_num, by omega, by omega, fun j hj => ?_, trivial⟩
            by_cases e : j = k
            · subst e; simp [isC, hf]
            · exact K3.out j (by omega)
        · have hf0 : ((f k : Int) != 0) = true := by simp; omega
          have en : nxtF f n = (k : Int) := firstUp_hit _ 256 k hk (by simp [isC, hf, hle]) K3.out
          have ea : atF f (k : Int) = f k := by unfold atF; rw [if_neg (by omega)]; simp
          have EN := hide en
          have EA := hide ea
          clear en ea
          go_wp2_with fail
          go_quiet (fail)
          go_wp2
          refine bodyPost_ret (results_tmp2 rfl _ _ _) rfl ?_
          rw [EN.out, EA.out]
          exact ⟨rfl, _, rfl⟩
      · have hki : ¬ ((k : Int) < 256) := by omega
        have en : nxtF f n = -1 := firstUp_miss _ 256 (fun j hj => K3.out j (by omega))
        have EN := hide en
        clear en
        go_wp2_with fail
        refine bodyPost_ret (results_tmp2 rfl _ _ _) rfl ?_
        rw [EN.out]
        exact ⟨rfl, 0, rfl⟩)

set_option maxHeartbeats 1600000 in
theorem rprev9 (h : Rs g s f K w) (n : Int) (hn : -9223372036854775808 ≤ n ∧ n ≤ 9223372036854775807) :
    Calls Tryd.prog 33 #[.pointer (some ⟨g, 0, none⟩), .int .i64 n] w fun r w' => r = .returned (.tuple #[.int .i64 (prvF f n), .int .u32 (atF f (prvF f n) : Int)]) ∧ Still w w' := by
  have H := hide h
  clear h
  by_cases hneg : n < 0
  · have h255 : n ≤ 255 := by omega
    have en : prvF f n = -1 := lastIn_miss _ 256 (fun j hj => by
      have : ¬ ((j : Int) ≤ n) := by omega
      simp [this])
    have EN := hide en
    clear en
    go_enter Tryd.func33, Tryd.ntmps33
    go_wp2_with fail
    go_loopw [1] (fun v wr => v = .int .i64 n ∧ wr = w) (fun v _ => 0)
    case atStart => exact ⟨by first | rfl | (congr 1; omega), rfl⟩
    case round =>
      obtain ⟨rfl, rfl⟩ := hrel
      have hng : ¬ (0 ≤ n) := by omega
      go_wp2_with fail
      refine bodyPost_ret (results_tmp2 rfl _ _ _) rfl ?_
      rw [EN.out]
      exact ⟨rfl, 0, rfl⟩
  · obtain ⟨k0, hk0⟩ : ∃ k0 : Nat, (k0 : Int) = min n 255 := ⟨(min n 255).toNat, by omega⟩
    have KEY : Hid (k0 ≤ 255 ∧ (k0 : Int) ≤ n ∧ ∀ j : Nat, k0 < j → j < 256 → (isC f j && decide ((j : Int) ≤ n)) = false) := by
      refine ⟨by omega, by omega, fun j h1 h2 => ?_⟩
      have : ¬ ((j : Int) ≤ n) := by omega
      simp [this]
    by_cases h0 : n ≤ 255
    all_goals (
      have hv : min n 255 = (k0 : Int) := hk0.symm
      clear hk0
      go_enter Tryd.func33, Tryd.ntmps33
      go_wp2_with fail
      go_loopw [1] (fun v wr => ∃ k : Nat, v = .int .i64 ((k : Int) - 1) ∧ k ≤ k0 + 1 ∧ (∀ j : Nat, k ≤ j → j < 256 → (isC f j && decide ((j : Int) ≤ n)) = false) ∧ wr = w) (fun v _ => (intOf v + 1).toNat)
      case atStart => exact ⟨k0 + 1, by congr 1; omega, Nat.le_refl _, fun j h1 h2 => KEY.out.2.2 j (by omega) h2, rfl⟩
      case round =>
        obtain ⟨k, rfl, hk1, hk3, rfl⟩ := hrel
        have K3 := hide hk3
        have hk00 := KEY.out.1
        have hk01 := KEY.out.2.1
        clear hk3
        by_cases hk : k = 0
        · subst hk
          have en : prvF f n = -1 := lastIn_miss _ 256 (fun j hj => K3.out j (by omega) hj)
          have EN := hide en
          have e1 : ((0 : Nat) : Int) - 1 = -1 := by omega
          rw [e1]
          clear e1 en
          go_wp2_with fail
          refine bodyPost_ret (results_tmp2 rfl _ _ _) rfl ?_
          rw [EN.out]
          exact ⟨rfl, 0, rfl⟩
        · obtain ⟨p, rfl⟩ : ∃ p, k = p + 1 := ⟨k - 1, by omega⟩
          have e1 : ((p + 1 : Nat) : Int) - 1 = (p : Int) := by omega
          rw [e1]
          have cc := H.out.cell p (by omega)
          have hpi : (p : Int) < 256 := by omega
          have hpn : (p : Int) ≤ n := by omega
          clear e1
          by_cases hf : f p = 0
          · have hf0 : ((f p : Int) != 0) = false := by simp; omega
            go_wp2_with fail
            go_roundw
            case measure => simp only [intOf]; omega
            case rel =>
              refine ⟨p, by go_num, by omega, fun j h1 h2 => ?_, trivial⟩
              by_cases e : j = p
              · subst e; simp [isC, hf]
              · exact K3.out j (by omega) h2
          · have hf0 : ((f p : Int) != 0) = true := by simp; omega
            have en : prvF f n = (p : Int) := lastIn_hit _ 256 p (by omega) (by simp [isC, hf, hpn]) (fun j h1 h2 => K3.out j (by omega) h2)
            have ea : atF f (p : Int) = f p := by unfold atF; rw [if_neg (by omega)]; simp
            have EN := hide en
            have EA := hide ea
            clear en ea
            go_wp2_with fail
            go_quiet (fail)
            go_wp2
            refine bodyPost_ret (results_tmp2 rfl _ _ _) rfl ?_
            rw [EN.out, EA.out]
            exact ⟨rfl, _, rfl⟩)
def bsTo (f : Nat → Nat) (k : Nat) : List Nat := (List.range k).filter (isC f)
theorem bsTo_yes (f : Nat → Nat) (k : Nat) (h : f k ≠ 0) : bsTo f (k + 1) = bsTo f k ++ [k] := by
  unfold bsTo; rw [List.range_succ, List.filter_append]; simp [isC, h]
theorem bsTo_no (f : Nat → Nat) (k : Nat) (h : f k = 0) : bsTo f (k + 1) = bsTo f k := by
  unfold bsTo; rw [List.range_succ, List.filter_append]; simp [isC, h]
set_option maxHeartbeats 1600000 in
theorem rbytes9 (h : Rs g s f K w) : Calls Tryd.prog 34 #[.pointer (some ⟨g, 0, none⟩)] w fun r w' => ∃ v, r = .returned v ∧ w'.ownsRow w.heap.size 5 1 v (bsOf f).length (u8s (ints (bsOf f))) ∧ Below w.heap.size w w' := by
  have H := hide h
  clear h
  go_enter Tryd.func34, Tryd.ntmps34
  go_wp2_with fail
  go_loopw [3, 4] (fun u v wr => ∃ k : Nat, v = .int .i64 k ∧ k ≤ 256 ∧ wr.ownsRow w.heap.size 5 1 u (bsTo f k).length (u8s (ints (bsTo f k))) ∧ Below w.heap.size w wr) (fun _ v _ => 256 - (intOf v).toNat)
  case atStart => exact ⟨0, rfl, by omega, World.ownsRow_nil _ _ _ _, Below.refl _ _⟩
  case round =>
    obtain ⟨k, rfl, hk, ho, hb⟩ := hrel
    have O := hide ho
    have G := hide hb
    clear ho hb
    by_cases hkl : k < 256
    · have cc := ((Rs.lies g s f).below H.out G.out).cell k hkl
      have hki : (k : Int) < 256 := by omega
      by_cases hf : f k = 0
      · have hf0 : ((f k : Int) != 0) = false := by simp; omega
        have ha := bsTo_no f k hf
        go_wp2_with fail
        go_roundw
        case measure => simp only [intOf]; omega
        case rel => exact ⟨k + 1, by go_num, by omega, by rw [ha]; exact O.out, G.out⟩
      · have hf0 : ((f k : Int) != 0) = true := by simp; omega
        have hal := cntTo_le f k
        have hgs := G.out.size
        obtain ⟨v', w5, r5, o5, g5, hv5, _⟩ := append1_u8 wr w.heap.size _ _ _ (k : Int) O.out (by show cntTo f k + 1 ≤ _; omega) (by omega)
        have e8 : IntKind.u8.wrap (k : Int) = (k : Int) := by rw [IntKind.wrap_u8]; omega
        have e9 : (k : Int) % 256 = (k : Int) := by omega
        have O5 : Hid (w5.ownsRow w.heap.size 5 1 v' (bsTo f (k + 1)).length (u8s (ints (bsTo f (k + 1))))) := by
          rw [bsTo_yes f k hf]
          unfold Hid
          simpa [u8s, ints] using o5
        have G5 : Hid (Below w.heap.size w w5) := G.out.grown g5 (by omega) (fun b hb => (O.out.lt b hb).1)
        clear o5 g5 hv5 hgs
        go_wp2_with (at_builtin; refine wpList_append_run rfl _ _ _ _ rfl _ _ _ _ rfl rfl r5 ?_)
        go_roundw
        case measure => simp only [intOf]; omega
        case rel => exact ⟨k + 1, by go_num, by omega, O5.out, G5.out⟩
    · obtain rfl : k = 256 := by omega
      go_wp2_with fail
      go_ret
      exact ⟨_, rfl, O.out, G.out⟩
end
end Go.Proofs.YtmogjhljmljpfaaDoor
