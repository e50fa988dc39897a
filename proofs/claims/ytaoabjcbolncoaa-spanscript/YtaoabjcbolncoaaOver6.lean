/- OverBytes, of as many bytes as a pool may hold. -/
import Derived.Test.YtaoabjcbolncoaaByCalls
namespace Go.Proofs.Ytaoabjcbolncoaa
open Go.RowKit
set_option linter.unusedVariables false

set_option maxHeartbeats 1000000 in
theorem over_big (v : Value) (n base : Nat) (xs : List Value) (w : World) (ho : w.ownsRow base 5 1 v n xs) (hx : ∀ u ∈ xs, ∃ q, u = .int .u8 q) (hn : n ≤ 100000000) (hbase : base ≤ w.heap.size) :
    Calls Try.prog 12 #[v] w fun e w' => e = .returned (.tuple #[]) ∧ w.grownBy w' v.ownBlock := by
  have hform : v = .slice none 0 0 ∧ n = 0 ∨ ∃ g cap, v = .slice (some ⟨g, 0, none⟩) n cap := by
    rcases ho.2 with h | ⟨g, cap, cur, h, _⟩
    · exact .inl h
    · exact .inr ⟨g, cap, h⟩
  rcases hform with ⟨rfl, rfl⟩ | ⟨g, cap, rfl⟩
  · obtain ⟨v', w', r, o', g', b', _⟩ := append1_u8 w base _ 0 xs 238 ho (by omega) hbase
    have G := hide g'
    clear o' g' b' ho hx
    go_enter Try.func12, Try.ntmps12
    go_wp2_with fail
    go_loop [2] (fun v => v = .int .i64 0) (fun _ => 0)
    case atStart => rfl
    case round =>
      subst hrel
      go_wp2_with (at_builtin; refine wpList_append_run rfl _ _ _ _ rfl _ _ _ _ rfl rfl r ?_)
      go_end0
      exact ⟨rfl, G.out⟩
  · have O := hide ho
    have X := hide hx
    clear ho hx
    go_enter Try.func12, Try.ntmps12
    go_wp2_with fail
    go_loopw [2] (fun v wr => ∃ k : Nat, v = .int .i64 k ∧ k ≤ n ∧ (∃ ys, wr.ownsRow base 5 1 (.slice (some ⟨g, 0, none⟩) n cap) n ys ∧ ∀ u ∈ ys, ∃ q, u = .int .u8 q) ∧ w.grownBy wr (some g)) (fun v _ => n - (intOf v).toNat)
    case atStart => exact ⟨0, rfl, by omega, ⟨xs, O.out, X.out⟩, ⟨rfl, rfl, rfl, Nat.le_refl _, fun _ _ _ => rfl⟩⟩
    case round =>
      obtain ⟨k, rfl, hk, ⟨ys, hy, hu⟩, hgr⟩ := hrel
      have Y := hide hy
      have U := hide hu
      have G := hide hgr
      clear hy hu hgr
      by_cases hkn : k < n
      · have hl : ys.length = n := by have := Y.out.1; omega
        have hc := Y.out.cellAt k (by omega)
        rw [List.getElem?_eq_getElem (by omega)] at hc
        obtain ⟨q, hq⟩ := U.out ys[k] (List.getElem_mem _)
        rw [hq] at hc
        have hf := Y.out.frozenAt k
        have hst := hide (Y.out.stored k (.int .u8 238))
        clear hl hq
        go_wp2
        go_roundw
        case rel =>
          refine ⟨k + 1, by go_num, by omega, ⟨_, hst.out.1, fun u hu => ?_⟩, ?_⟩
          · rcases List.mem_or_eq_of_mem_set hu with h | h
            · exact U.out u h
            · exact ⟨238, h⟩
          · have h := hst.out.2
            have G1 := G.out
            exact ⟨h.os.trans G1.os, h.tape.trans G1.tape, h.output.trans G1.output, Nat.le_trans G1.size h.size, fun j hj hne => by
              rw [h.block j (by have := G1.size; omega) hne, G1.block j hj hne]⟩
        case measure => simp [intOf]; omega
      · have hb2 : base ≤ wr.heap.size := by have := G.out.size; omega
        obtain ⟨v', w', r, o', g', b', _⟩ := append1_u8 wr base _ n ys 238 Y.out (by omega) hb2
        have G' := hide g'
        clear o' g' b' hb2
        go_wp2_with (at_builtin; refine wpList_append_run rfl _ _ _ _ rfl _ _ _ _ rfl rfl r ?_)
        go_end0
        have h := G'.out
        have G1 := G.out
        exact ⟨rfl, h.os.trans G1.os, h.tape.trans G1.tape, h.output.trans G1.output, Nat.le_trans G1.size h.size, fun j hj hne => by
          rw [h.block j (by have := G1.size; omega) hne, G1.block j hj hne]⟩


end Go.Proofs.Ytaoabjcbolncoaa
