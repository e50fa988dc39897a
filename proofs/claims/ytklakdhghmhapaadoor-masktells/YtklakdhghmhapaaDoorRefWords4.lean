/- The document's sets: Words. -/
import Derived.Test.YtklakdhghmhapaaDoorRefOf4
import Derived.Test.YtklakdhghmhapaaDoorBack4
namespace Go.Proofs.YtklakdhghmhapaaDoor
open Go.RowKit
set_option linter.unusedVariables false

set_option maxRecDepth 100000 in
set_option maxHeartbeats 1600000 in
theorem rwords_any (f : Nat → Bool) (c : Array Value) (hc : c = (bools f).toArray) (m : List Nat) (hm : Ok m) (hf : ∀ b, b < 256 → inM m b = f b) (w : World) :
    Calls Tryd.prog 11 #[.agg c] w fun e w' => e = .returned (mv m) ∧ Below w.heap.size w w' := by
  have HM := hide hm
  have HF := hide hf
  have b0 : Blk (w.alloc (.cells c 26)) w.heap.size 26 (bools f) := Blk.new w _ _ _ hc
  have b1 := Blk.new (w.alloc (.cells c 26)) 23 (u64s [0, 0, 0, 0]) #[.int .u64 0, .int .u64 0, .int .u64 0, .int .u64 0] rfl
  have b2 := Blk.new ((w.alloc (.cells c 26)).alloc (.cells #[.int .u64 0, .int .u64 0, .int .u64 0, .int .u64 0] 23)) 23 (u64s [0, 0, 0, 0]) #[.int .u64 0, .int .u64 0, .int .u64 0, .int .u64 0] rfl
  obtain ⟨w3, hw3⟩ : ∃ w3, w3 = (((w.alloc (.cells c 26)).alloc (.cells #[.int .u64 0, .int .u64 0, .int .u64 0, .int .u64 0] 23)).alloc (.cells #[.int .u64 0, .int .u64 0, .int .u64 0, .int .u64 0] 23)) := ⟨_, rfl⟩
  have F3 : Hid (Below w.heap.size w w3) := by
    rw [hw3]
    exact (((Below.refl _ _).alloc (Nat.le_refl _) _).alloc (by simp) _).alloc (by simp; omega) _
  have B0 : Hid (Box w3 w.heap.size f) := by rw [hw3]; exact (b0.alloc _).alloc _
  have B1 : Hid (Blk w3 (w.heap.size + 1) 23 (u64s [0, 0, 0, 0])) := by
    rw [hw3]
    have := b1.alloc (.cells #[.int .u64 0, .int .u64 0, .int .u64 0, .int .u64 0] 23)
    unfold Hid
    simpa using this
  have B2 : Hid (Blk w3 (w.heap.size + 2) 23 (u64s [0, 0, 0, 0])) := by
    rw [hw3]
    unfold Hid
    simpa using b2
  have HW := hide hw3
  clear hw3 b0 b1 b2 hm hf hc
  go_enter Tryd.func11, Tryd.ntmps11
  go_wp2_with fail
  go_loopw [4] (fun v wr => ∃ (k : Nat) (cur : List Nat), v = .int .i64 k ∧ k ≤ 256 ∧ Ok cur ∧ (∀ b, b < 256 → inM cur b = upB f k b) ∧ Box wr w.heap.size f ∧ Blk wr (w.heap.size + 1) 23 (u64s [0, 0, 0, 0]) ∧ Blk wr (w.heap.size + 2) 23 (u64s cur) ∧ Below w.heap.size w wr) (fun v _ => 256 - (intOf v).toNat)
  case atStart =>
    rw [← HW.out]
    refine ⟨0, [0, 0, 0, 0], rfl, by omega, z0_ok, fun b hb => ?_, B0.out, B1.out, B2.out, F3.out⟩
    have := inM_z0 b hb
    rw [show ([0, 0, 0, 0] : List Nat) = z0 from rfl, this]
    simp [upB]
  case round =>
    obtain ⟨k, cur, rfl, hk, hok, hin, h0, h1, h2, hfr⟩ := hrel
    have HK := hide hok
    have HI := hide hin
    have A0 := hide h0
    have A1 := hide h1
    have A2 := hide h2
    have FF := hide hfr
    clear h0 h1 h2 hfr hok hin
    by_cases hkl : k < 256
    · have cc : wr.cell? ⟨w.heap.size, k, none⟩ = some (.bool (f k)) := (A0.out.cell k).trans (bools_get f k hkl)
      have hki : (k : Int) < 256 := by omega
      cases hf : f k with
      | false =>
        rw [hf] at cc
        go_wp2_with fail
        go_roundw
        case measure => simp only [intOf]; omega
        case rel =>
          refine ⟨k + 1, cur, by go_num, by omega, HK.out, fun b hb => ?_, A0.out, A1.out, A2.out, FF.out⟩
          rw [HI.out b hb]
          unfold upB
          by_cases e : b = k
          · subst e; simp [hf]
          · have : decide (b < k + 1) = decide (b < k) := by simp; omega
            rw [this]
      | true =>
        rw [hf] at cc
        obtain ⟨q, hq⟩ : ∃ q, q = k / 64 := ⟨_, rfl⟩
        obtain ⟨r, hr⟩ : ∃ r, r = k % 64 := ⟨_, rfl⟩
        have hq4 : q < 4 := by omega
        have hr64 : r < 64 := by omega
        have q1 : Int.tdiv (k : Int) 64 = (q : Int) := by rw [Int.tdiv_eq_ediv_of_nonneg (by omega)]; omega
        have q2 : (k : Int) / 64 = (q : Int) := by omega
        have r1 : Int.tmod (k : Int) 64 = (r : Int) := by rw [Int.tmod_eq_emod_of_nonneg (by omega)]; omega
        have r2 : (k : Int) % 64 = (r : Int) := by omega
        have hqi : (q : Int) < 4 := by omega
        obtain ⟨x, hx⟩ : ∃ x, x = cur.getD q 0 := ⟨_, rfl⟩
        have hxl : x < 18446744073709551616 := by rw [hx]; exact HK.out.lt q
        have c2 : wr.cell? ⟨w.heap.size + 2, q, none⟩ = some (.int .u64 (x : Int)) := by
          rw [hx, A2.out.cell, u64s_get _ _ (by rw [HK.out.len]; exact hq4)]
        have f2 : wr.frozen? ⟨w.heap.size + 2, q, none⟩ = false := A2.out.frozen _
        have HQ := hide hq
        have HR := hide hr
        have HX := hide hx
        have HXL := hide hxl
        clear hq hr hx hxl
        go_wp2_with fail
        go_region
        go_wp2_with fail
        go_roundw
        case measure => simp only [intOf]; omega
        case rel =>
          have hval : bits BinOp.or IntKind.u64 (x : Int) (IntKind.u64.wrap (2 ^ r)) = ((x ||| 2 ^ r : Nat) : Int) := by
            have hw := wrapU (2 ^ r) (pow_lt r hr64)
            have ho := or_bit x r HXL.out hr64
            simp only [Int.natCast_pow, Int.cast_ofNat_Int] at hw ho
            rw [hw, ho]
          have o2 := (Only.refl (w.heap.size + 2) wr).setCell q (Value.int .u64 (bits BinOp.or IntKind.u64 (x : Int) (IntKind.u64.wrap (2 ^ r))))
          have b2 := A2.out.set q (Value.int .u64 (bits BinOp.or IntKind.u64 (x : Int) (IntKind.u64.wrap (2 ^ r))))
          have e2 : (u64s cur).set q (Value.int .u64 (bits BinOp.or IntKind.u64 (x : Int) (IntKind.u64.wrap (2 ^ r)))) = u64s (wth cur k) := by
            rw [hval, u64s_set]
            unfold wth
            rw [← HQ.out, ← HR.out, ← HX.out]
          rw [e2] at b2
          refine ⟨k + 1, wth cur k, by go_num, by omega, wth_ok cur HK.out k hkl, fun b hb => ?_, (A0.out.only o2 (by omega)).drew, (A1.out.only o2 (by omega)).drew, b2.drew, Below.drew (FF.out.trans (o2.below (by omega)))⟩
          rw [inM_wth cur HK.out k b hkl, HI.out b hb]
          unfold upB
          by_cases e : b = k
          · subst e; simp [hf]
          · have : decide (b < k + 1) = decide (b < k) := by simp; omega
            rw [this]
            simp [e]
    · obtain rfl : k = 256 := by omega
      have hcm : cur = m := mask_ext cur m HK.out HM.out (fun b hb => by rw [HI.out b hb, HF.out b hb]; simp [upB, hb])
      rw [hcm] at A2
      clear hcm HK HI
      obtain ⟨y0, y1, y2, y3, ey⟩ := list4 m HM.out.len
      have EY := hide ey
      rw [ey] at A2
      obtain ⟨c0, c1, c2, c3⟩ := A2.out.cells4
      obtain ⟨d0, d1, d2, d3⟩ := A1.out.cells4
      obtain ⟨z0, z1, z2, z3⟩ := A1.out.frozen4
      clear ey
      go_wp2_with fail
      refine bodyPost_ret (v := .agg #[.int .u64 y0, .int .u64 y1, .int .u64 y2, .int .u64 y3]) ?_ rfl ⟨by rw [EY.out]; rfl, ?_⟩
      · have Bf : Blk _ (w.heap.size + 1) 23 [.int .u64 y0, .int .u64 y1, .int .u64 y2, .int .u64 y3] := (((A1.out.set 0 (.int .u64 y0)).set 1 (.int .u64 y1)).set 2 (.int .u64 y2)).set 3 (.int .u64 y3)
        obtain ⟨f0, f1, f2, f3⟩ := Bf.cells4
        simp [results, Tryd.results11, go_sem, f0, f1, f2, f3]
      · exact Below.setCell (Below.setCell (Below.setCell (Below.setCell FF.out (by simp) _) (by simp) _) (by simp) _) (by simp) _
end Go.Proofs.YtklakdhghmhapaaDoor
