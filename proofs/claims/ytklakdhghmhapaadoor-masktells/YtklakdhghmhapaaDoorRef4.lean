/- Package brambleref4: the document's own sets. -/
import Derived.Test.YtklakdhghmhapaaDoorFour
import Derived.Deep.WholeRow
namespace Go.Proofs.YtklakdhghmhapaaDoor
open Go.RowKit
set_option linter.unusedVariables false
set_option linter.unusedSimpArgs false

def bools (f : Nat → Bool) : List Value := (List.range 256).map (fun i => .bool (f i))
def setv (f : Nat → Bool) : Value := .agg (bools f).toArray
theorem bools_len (f : Nat → Bool) : (bools f).length = 256 := by simp [bools]
theorem bools_get (f : Nat → Bool) (k : Nat) (h : k < 256) : (bools f)[k]? = some (.bool (f k)) := by simp [bools, h]
theorem bools_set (f : Nat → Bool) (k : Nat) (h : k < 256) (v : Bool) : (bools f).set k (.bool v) = bools (fun i => if i = k then v else f i) := by
  apply List.ext_getElem?
  intro i
  rw [List.getElem?_set]
  by_cases hi : i < 256
  · rw [bools_get _ _ hi]
    split
    · rename_i e
      subst e
      simp [bools, hi]
    · rename_i e
      rw [bools_get _ _ hi, if_neg (fun x => e x.symm)]
  · have h1 : (bools (fun i => if i = k then v else f i))[i]? = none := List.getElem?_eq_none (by rw [bools_len]; omega)
    rw [h1]
    split
    · rename_i e
      omega
    · exact List.getElem?_eq_none (by rw [bools_len]; omega)

abbrev Box (w : World) (g : Nat) (f : Nat → Bool) : Prop := Blk w g 26 (bools f)

set_option maxHeartbeats 800000 in
theorem rnext_any (f : Nat → Bool) (c : Array Value) (hc : c = (bools f).toArray) (n : Int) (hn : -9223372036854775808 ≤ n ∧ n ≤ 9223372036854775807) (w : World) :
    Calls Tryd.prog 14 #[.agg c, .int .i64 n] w fun e w' => e = .returned (.int .i64 (firstUp (fun b => f b && decide (n ≤ (b : Int))) 256)) ∧ Below w.heap.size w w' := by
  have B : Hid (Box (w.alloc (.cells c 26)) w.heap.size f) := Blk.new w _ _ _ hc
  have F : Hid (Below w.heap.size w (w.alloc (.cells c 26))) := (Below.refl _ _).alloc (Nat.le_refl _) _
  obtain ⟨w1, hw1⟩ : ∃ w1, w1 = w.alloc (.cells c 26) := ⟨_, rfl⟩
  rw [← hw1] at B F
  have HW := hide hw1
  clear hw1 hc
  have key : ∀ k0 : Nat, (k0 : Int) = max n 0 → ∀ v : Int, v = max n 0 → Hid ((∀ j : Nat, j < k0 → (f j && decide (n ≤ (j : Int))) = false) ∧ n ≤ (k0 : Int) ∧ k0 ≤ 9223372036854775807) := by
    intro k0 h1 v h2
    refine ⟨fun j hj => ?_, by omega, by omega⟩
    have : ¬ (n ≤ (j : Int)) := by omega
    simp [this]
  obtain ⟨k0, hk0⟩ : ∃ k0 : Nat, (k0 : Int) = max n 0 := ⟨(max n 0).toNat, by omega⟩
  have KEY := key k0 hk0 _ hk0
  clear key
  have main : ∀ v, v = (k0 : Int) → True := fun _ _ => trivial
  clear main
  by_cases h0 : 0 ≤ n
  all_goals (
    have hv : max n 0 = (k0 : Int) := hk0.symm
    clear hk0
    go_enter Tryd.func14, Tryd.ntmps14
    go_wp2_with fail
    go_loopw [1] (fun v wr => ∃ k : Nat, v = .int .i64 k ∧ k0 ≤ k ∧ k ≤ max k0 256 ∧ (∀ j : Nat, j < k → (f j && decide (n ≤ (j : Int))) = false) ∧ wr = w1) (fun v _ => max k0 256 - (intOf v).toNat)
    case atStart => exact ⟨k0, by first | (congr 1; omega), Nat.le_refl _, by omega, KEY.out.1, HW.out.symm⟩
    case round =>
      obtain ⟨k, rfl, hk1, hk2, hk3, rfl⟩ := hrel
      have K3 := hide hk3
      have hle : n ≤ (k : Int) := by have := KEY.out.2.1; omega
      clear hk3
      by_cases hk : k < 256
      · have cc : wr.cell? ⟨w.heap.size, k, none⟩ = some (.bool (f k)) := (B.out.cell k).trans (bools_get f k hk)
        have hki : (k : Int) < 256 := by omega
        cases hf : f k with
        | true =>
          rw [hf] at cc
          go_wp2_with fail
          go_ret
          refine ⟨ret_int ?_, F.out⟩
          exact (firstUp_hit _ 256 k hk (by simp [hf, hle]) K3.out).symm
        | false =>
          rw [hf] at cc
          go_wp2_with fail
          go_roundw
          case measure => simp only [intOf]; omega
          case rel =>
            refine ⟨k + 1, by go_num, by omega, by omega, fun j hj => ?_, trivial⟩
            by_cases e : j = k
            · subst e; simp [hf]
            · exact K3.out j (by omega)
      · have hki : ¬ ((k : Int) < 256) := by omega
        go_wp2_with fail
        go_ret
        refine ⟨ret_int ?_, F.out⟩
        exact (firstUp_miss _ 256 (fun j hj => K3.out j (by omega))).symm)

set_option maxHeartbeats 800000 in
theorem rprev_any (f : Nat → Bool) (c : Array Value) (hc : c = (bools f).toArray) (n : Int) (hn : -9223372036854775808 ≤ n ∧ n ≤ 9223372036854775807) (w : World) :
    Calls Tryd.prog 16 #[.agg c, .int .i64 n] w fun e w' => e = .returned (.int .i64 (lastIn (fun b => f b && decide ((b : Int) ≤ n)) 256)) ∧ Below w.heap.size w w' := by
  have B : Hid (Box (w.alloc (.cells c 26)) w.heap.size f) := Blk.new w _ _ _ hc
  have F : Hid (Below w.heap.size w (w.alloc (.cells c 26))) := (Below.refl _ _).alloc (Nat.le_refl _) _
  obtain ⟨w1, hw1⟩ : ∃ w1, w1 = w.alloc (.cells c 26) := ⟨_, rfl⟩
  rw [← hw1] at B F
  have HW := hide hw1
  clear hw1 hc
  by_cases hneg : n < 0
  · have h255 : n ≤ 255 := by omega
    go_enter Tryd.func16, Tryd.ntmps16
    go_wp2_with fail
    go_loopw [1] (fun v wr => v = .int .i64 n ∧ wr = w1) (fun v _ => 0)
    case atStart => exact ⟨by first | rfl | (congr 1; omega), HW.out.symm⟩
    case round =>
      obtain ⟨rfl, rfl⟩ := hrel
      have hng : ¬ (0 ≤ n) := by omega
      go_wp2_with fail
      go_ret
      refine ⟨ret_int ?_, F.out⟩
      exact (lastIn_miss _ 256 (fun j hj => by have : ¬ ((j : Int) ≤ n) := by omega
                                               simp [this])).symm
  · obtain ⟨k0, hk0⟩ : ∃ k0 : Nat, (k0 : Int) = min n 255 := ⟨(min n 255).toNat, by omega⟩
    have KEY : Hid (k0 ≤ 255 ∧ (k0 : Int) ≤ n ∧ ∀ j : Nat, k0 < j → j < 256 → (f j && decide ((j : Int) ≤ n)) = false) := by
      refine ⟨by omega, by omega, fun j h1 h2 => ?_⟩
      have : ¬ ((j : Int) ≤ n) := by omega
      simp [this]
    by_cases h0 : n ≤ 255
    all_goals (
      have hv : min n 255 = (k0 : Int) := hk0.symm
      clear hk0
      go_enter Tryd.func16, Tryd.ntmps16
      go_wp2_with fail
      go_loopw [1] (fun v wr => ∃ k : Nat, v = .int .i64 ((k : Int) - 1) ∧ k ≤ k0 + 1 ∧ (∀ j : Nat, k ≤ j → j < 256 → (f j && decide ((j : Int) ≤ n)) = false) ∧ wr = w1) (fun v _ => (intOf v + 1).toNat)
      case atStart => exact ⟨k0 + 1, by congr 1; omega, Nat.le_refl _, fun j h1 h2 => KEY.out.2.2 j (by omega) h2, HW.out.symm⟩
      case round =>
        obtain ⟨k, rfl, hk1, hk3, rfl⟩ := hrel
        have K3 := hide hk3
        have hk00 := KEY.out.1
        have hk01 := KEY.out.2.1
        clear hk3
        by_cases hk : k = 0
        · subst hk
          have e1 : ((0 : Nat) : Int) - 1 = -1 := by omega
          rw [e1]
          clear e1
          go_wp2_with fail
          go_ret
          refine ⟨ret_int ?_, F.out⟩
          exact (lastIn_miss _ 256 (fun j hj => K3.out j (by omega) hj)).symm
        · obtain ⟨p, rfl⟩ : ∃ p, k = p + 1 := ⟨k - 1, by omega⟩
          have e1 : ((p + 1 : Nat) : Int) - 1 = (p : Int) := by omega
          rw [e1]
          have cc : wr.cell? ⟨w.heap.size, p, none⟩ = some (.bool (f p)) := (B.out.cell p).trans (bools_get f p (by omega))
          have hpi : (p : Int) < 256 := by omega
          have hpn : (p : Int) ≤ n := by omega
          clear e1
          cases hf : f p with
          | true =>
            rw [hf] at cc
            go_wp2_with fail
            go_ret
            refine ⟨ret_int ?_, F.out⟩
            exact (lastIn_hit _ 256 p (by omega) (by simp [hf, hpn]) (fun j h1 h2 => K3.out j (by omega) h2)).symm
          | false =>
            rw [hf] at cc
            go_wp2_with fail
            go_roundw
            case measure => simp only [intOf]; omega
            case rel =>
              refine ⟨p, by go_num, by omega, fun j h1 h2 => ?_, trivial⟩
              by_cases e : j = p
              · subst e; simp [hf]
              · exact K3.out j (by omega) h2)

/-- How many of the first k are in. -/
def cntB (f : Nat → Bool) : Nat → Nat
  | 0 => 0
  | k + 1 => cntB f k + (if f k then 1 else 0)
theorem cntB_le (f : Nat → Bool) : ∀ k, cntB f k ≤ k
  | 0 => Nat.le_refl _
  | k + 1 => by
    have := cntB_le f k
    unfold cntB
    split <;> omega
set_option maxHeartbeats 800000 in
theorem rrank_any (f : Nat → Bool) (c : Array Value) (hc : c = (bools f).toArray) (n : Int) (hn : -9223372036854775808 ≤ n ∧ n ≤ 9223372036854775807) (w : World) :
    Calls Tryd.prog 18 #[.agg c, .int .i64 n] w fun e w' => e = .returned (.int .i64 (cntB f (min 256 (max n 0)).toNat : Int)) ∧ Below w.heap.size w w' := by
  have B : Hid (Box (w.alloc (.cells c 26)) w.heap.size f) := Blk.new w _ _ _ hc
  have F : Hid (Below w.heap.size w (w.alloc (.cells c 26))) := (Below.refl _ _).alloc (Nat.le_refl _) _
  obtain ⟨w1, hw1⟩ : ∃ w1, w1 = w.alloc (.cells c 26) := ⟨_, rfl⟩
  rw [← hw1] at B F
  have HW := hide hw1
  obtain ⟨t, ht⟩ : ∃ t : Nat, t = (min 256 (max n 0)).toNat := ⟨_, rfl⟩
  rw [← ht]
  have HT := hide ht
  clear hw1 hc ht
  go_enter Tryd.func18, Tryd.ntmps18
  go_wp2_with fail
  go_loopw [5, 6] (fun v5 v wr => ∃ k : Nat, v5 = .int .i64 (cntB f k : Int) ∧ v = .int .i64 k ∧ k ≤ t ∧ wr = w1) (fun _ v _ => t - (intOf v).toNat)
  case atStart => exact ⟨0, rfl, rfl, by omega, HW.out.symm⟩
  case round =>
    obtain ⟨k, rfl, rfl, hk, rfl⟩ := hrel
    have hcl := cntB_le f k
    by_cases hkt : k < t
    · have ht := HT.out
      have hk1 : (k : Int) < 256 := by omega
      have hk2 : (k : Int) < n := by omega
      have cc : wr.cell? ⟨w.heap.size, k, none⟩ = some (.bool (f k)) := (B.out.cell k).trans (bools_get f k (by omega))
      have ht1 : t ≤ 256 := by omega
      clear ht
      cases hf : f k with
      | true =>
        rw [hf] at cc
        go_wp2_with fail
        go_roundw
        case measure => simp only [intOf]; omega
        case rel => exact ⟨k + 1, by rw [cntB, hf]; go_num, by go_num, by omega, trivial⟩
      | false =>
        rw [hf] at cc
        go_wp2_with fail
        go_roundw
        case measure => simp only [intOf]; omega
        case rel => exact ⟨k + 1, by rw [cntB, hf]; go_num, by go_num, by omega, trivial⟩
    · obtain rfl : k = t := by omega
      have ht := HT.out
      by_cases h1 : (k : Int) < 256
      · have h2 : ¬ ((k : Int) < n) := by omega
        clear ht
        go_wp2_with fail
        go_ret
        exact ⟨rfl, F.out⟩
      · clear ht
        go_wp2_with fail
        go_ret
        exact ⟨rfl, F.out⟩
end Go.Proofs.YtklakdhghmhapaaDoor
