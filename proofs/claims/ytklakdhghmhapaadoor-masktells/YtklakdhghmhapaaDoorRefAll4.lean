/- The document's sets: All. -/
import Derived.Test.YtklakdhghmhapaaDoorRef4
namespace Go.Proofs.YtklakdhghmhapaaDoor
open Go.RowKit
set_option linter.unusedVariables false

def allB (f : Nat → Bool) : Nat → List Nat
  | 0 => []
  | k + 1 => allB f k ++ (if f k then [k] else [])
theorem allB_is (f : Nat → Bool) : ∀ k, allB f k = (List.range k).filter f
  | 0 => rfl
  | k + 1 => by
    rw [allB, allB_is f k, List.range_succ, List.filter_append]
    congr 1
    cases hf : f k <;> simp [hf]
theorem allB_le (f : Nat → Bool) : ∀ k, (allB f k).length ≤ k
  | 0 => Nat.le_refl _
  | k + 1 => by
    have := allB_le f k
    rw [allB]
    split <;> simp <;> omega
theorem owns_base {w : World} {base base' : Nat} {e : TypeId} {size : Nat} {v : Value} {n : Nat} {xs : List Value} (h : w.ownsRow base e size v n xs) (hb : base' ≤ base) : w.ownsRow base' e size v n xs := by
  refine ⟨h.1, ?_⟩
  rcases h.2 with hn | ⟨g, cap, cur, rfl, hg, rest⟩
  · exact .inl hn
  · exact .inr ⟨g, cap, cur, rfl, by omega, rest⟩

set_option maxHeartbeats 800000 in
theorem rall_any (f : Nat → Bool) (c : Array Value) (hc : c = (bools f).toArray) (w : World) :
    Calls Tryd.prog 20 #[.agg c] w fun e w' => ∃ v, e = .returned v ∧ w'.ownsRow w.heap.size 5 1 v (allB f 256).length (u8s (ints (allB f 256))) ∧ Below w.heap.size w w' := by
  have B : Hid (Box (w.alloc (.cells c 26)) w.heap.size f) := Blk.new w _ _ _ hc
  have F : Hid (Below w.heap.size w (w.alloc (.cells c 26))) := (Below.refl _ _).alloc (Nat.le_refl _) _
  obtain ⟨w1, hw1⟩ : ∃ w1, w1 = w.alloc (.cells c 26) := ⟨_, rfl⟩
  have hs1 : w1.heap.size = w.heap.size + 1 := by rw [hw1]; simp
  rw [← hw1] at B F
  have HW := hide hw1
  have HS := hide hs1
  clear hw1 hc hs1
  go_enter Tryd.func20, Tryd.ntmps20
  go_wp2_with fail
  go_loopw [3, 4] (fun u v wr => ∃ k : Nat, v = .int .i64 k ∧ k ≤ 256 ∧ wr.ownsRow (w.heap.size + 1) 5 1 u (allB f k).length (u8s (ints (allB f k))) ∧ Below (w.heap.size + 1) w1 wr) (fun _ v _ => 256 - (intOf v).toNat)
  case atStart => exact ⟨0, rfl, by omega, World.ownsRow_nil _ _ _ _, by rw [HW.out]; exact Below.refl _ _⟩
  case round =>
    obtain ⟨k, rfl, hk, ho, hb⟩ := hrel
    have O := hide ho
    have G := hide hb
    clear ho hb
    by_cases hkl : k < 256
    · have cc : wr.cell? ⟨w.heap.size, k, none⟩ = some (.bool (f k)) := ((B.out.below G.out (by omega)).cell k).trans (bools_get f k hkl)
      have hki : (k : Int) < 256 := by omega
      cases hf : f k with
      | true =>
        rw [hf] at cc
        have hal := allB_le f k
        have hgs := G.out.size
        have hs := HS.out
        obtain ⟨v', w5, r5, o5, g5, hv5, _⟩ := append1_u8 wr (w.heap.size + 1) _ _ _ (k : Int) O.out (by omega) (by omega)
        have e8 : IntKind.u8.wrap (k : Int) = (k : Int) := by rw [IntKind.wrap_u8]; omega
        have e9 : (k : Int) % 256 = (k : Int) := by omega
        have ha : allB f (k + 1) = allB f k ++ [k] := by rw [allB, hf]; rfl
        have O5 : Hid (w5.ownsRow (w.heap.size + 1) 5 1 v' (allB f (k + 1)).length (u8s (ints (allB f (k + 1))))) := by
          rw [ha]
          unfold Hid
          simpa [u8s, ints] using o5
        have G5 : Hid (Below (w.heap.size + 1) w1 w5) := G.out.grown g5 (by omega) (fun b hb => (O.out.lt b hb).1)
        clear o5 g5 hv5 ha hgs hs
        go_wp2_with (at_builtin; refine wpList_append_run rfl _ _ _ _ rfl _ _ _ _ rfl rfl r5 ?_)
        go_roundw
        case measure => simp only [intOf]; omega
        case rel => exact ⟨k + 1, by go_num, by omega, O5.out, G5.out⟩
      | false =>
        rw [hf] at cc
        have ha : allB f (k + 1) = allB f k := by rw [allB, hf]; simp
        go_wp2_with fail
        go_roundw
        case measure => simp only [intOf]; omega
        case rel => exact ⟨k + 1, by go_num, by omega, by rw [ha]; exact O.out, G.out⟩
    · obtain rfl : k = 256 := by omega
      go_wp2_with fail
      go_ret
      exact ⟨_, rfl, owns_base O.out (by omega), F.out.trans (G.out.mono (by omega))⟩
end Go.Proofs.YtklakdhghmhapaaDoor
