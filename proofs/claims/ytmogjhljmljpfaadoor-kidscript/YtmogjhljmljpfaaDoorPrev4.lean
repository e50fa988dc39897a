/- Mask.Prev from 256 on. -/
import Derived.Test.YtmogjhljmljpfaaDoorNext4
namespace Go.Proofs.YtmogjhljmljpfaaDoor
set_option maxRecDepth 20000
open Go.RowKit

set_option maxHeartbeats 4000000 in
theorem prev_gt (m : List Nat) (hm : Ok m) (n : Int) (hn : -9223372036854775808 ≤ n ∧ n ≤ 9223372036854775807) (hc : 256 < n) (w : World) :
    Calls Tryd.prog 39 #[mv m, .int .i64 n] w fun e w' => e = .returned (.int .i64 (prv m n)) ∧ Below w.heap.size w w' := by
  obtain ⟨q, eq⟩ : ∃ q : Int, q = 257 := ⟨_, rfl⟩
  have hq : ∀ b : Nat, b < 256 → ((b : Int) < max q 0 ↔ (b : Int) ≤ n) := fun b hb => by omega
  have HLO := hide (bl_ok m hm (max q 0))
  have HH := hide (prv_hit m hm n _ hq)
  have HS := hide (prv_miss m hm n _ hq)
  have CB := fun w => below_any m hm q (by omega) w
  clear hq
  generalize prv m n = ans at *
  obtain ⟨y0, y1, y2, y3, ey⟩ := list4 (bl m (max q 0)) HLO.out.len
  generalize bl m (max q 0) = lo at *
  obtain ⟨x0, x1, x2, x3, ex⟩ := list4 m hm.len
  have EY := hide ey
  have FM := hide (Below.alloc (Below.refl w.heap.size w) (Nat.le_refl _) (.cells #[.int .u64 x0, .int .u64 x1, .int .u64 x2, .int .u64 x3] 48 (0, 0)))
  rw [ey, ex] at CB
  have goal4 : (mv m) = .agg #[.int .u64 (x0 : Int), .int .u64 (x1 : Int), .int .u64 (x2 : Int), .int .u64 (x3 : Int)] := by rw [ex]; rfl
  rw [goal4]
  simp only [mv, u64s, List.map_cons, List.map_nil] at CB
  clear goal4 ex ey hm
  subst eq
  go_enter Tryd.func39, Tryd.ntmps39
  go_wp2_with (go_at_call 46; refine (CB _).mono ?_; rintro e w5 ⟨rfl, f5⟩; have F5 := fstep FM f5; clear f5)
  have F6 := hide (Below.alloc F5.out F5.out.size (.cells #[.int .u64 y0, .int .u64 y1, .int .u64 y2, .int .u64 y3] 48 (0, 0)))
  have BY := hide (Blk.new w5 48 (u64s [y0, y1, y2, y3]) #[.int .u64 y0, .int .u64 y1, .int .u64 y2, .int .u64 y3] rfl)
  generalize (w5.alloc (.cells #[.int .u64 y0, .int .u64 y1, .int .u64 y2, .int .u64 y3] 48 (0, 0))) = w6 at *
  rw [← EY.out] at BY
  go_loopw [6] (fun v wr => ∃ k : Nat, v = .int .i64 ((k : Int) - 1) ∧ k ≤ 4 ∧ (∀ j, k ≤ j → j < 4 → lo.getD j 0 = 0) ∧ wr = w6) (fun v _ => (intOf v + 1).toNat)
  case atStart => exact ⟨4, rfl, by omega, fun j h1 h2 => by omega, rfl⟩
  case round =>
    obtain ⟨k, rfl, hk, hz, rfl⟩ := hrel
    have HZ := hide hz
    clear hz
    cases k with
    | succ k =>
      have hki : (k : Int) < 4 := by omega
      have hkj : (0 : Int) ≤ (k : Int) := by omega
      have hkk : ((k + 1 : Nat) : Int) - 1 = (k : Int) := by omega
      have cy : wr.cell? ⟨w5.heap.size, k, none⟩ = some (.int .u64 (lo.getD k 0 : Int)) := by
        rw [BY.out.cell, u64s_get _ _ (by rw [HLO.out.len]; omega)]
      have hl := HLO.out.lt k
      have H1 := hide (HH.out k (by omega) (fun j h1 h2 => HZ.out j (by omega) h2))
      have HZ2 : Hid (lo.getD k 0 = 0 → ∀ j, k ≤ j → j < 4 → lo.getD j 0 = 0) := fun h0 j h1 h2 => by
        by_cases e : j = k
        · subst e; exact h0
        · exact HZ.out j (by omega) h2
      generalize lo.getD k 0 = r at *
      rw [hkk]
      by_cases h0 : r = 0
      · have hb : ((r : Int) != 0) = false := by simp [h0]
        have H0 := hide h0
        clear h0
        go_wp2
        go_roundw
        case measure => simp only [intOf]; omega
        case rel => exact ⟨k, by go_num, by omega, HZ2.out H0.out, trivial⟩
      · have hb : ((r : Int) != 0) = true := by simp; omega
        have hbl : bitLen r ≤ 64 := by
          obtain ⟨t, e0, c1, _, _⟩ := bitLen_top r h0 hl
          omega
        have HA := hide (H1.out h0)
        clear h0
        go_wp2_with (go_at_call 47; refine (len64_any _ hl _).mono ?_; rintro e w7 ⟨rfl, rfl⟩)
        go_ret
        refine ⟨ret_int ?_, F6.out⟩
        rw [HA.out]
        generalize bitLen r = c at *
        go_num
    | zero =>
      have hkk : ((0 : Nat) : Int) - 1 = -1 := by omega
      rw [hkk]
      go_wp2
      go_ret
      refine ⟨?_, F6.out⟩
      rw [HS.out (fun j hj => HZ.out j (by omega) hj)]
      rfl

theorem prev_any (m : List Nat) (hm : Ok m) (n : Int) (hn : -9223372036854775808 ≤ n ∧ n ≤ 9223372036854775807) (w : World) :
    Calls Tryd.prog 39 #[mv m, .int .i64 n] w fun e w' => e = .returned (.int .i64 (prv m n)) ∧ Below w.heap.size w w' := by
  by_cases h : n ≤ 256
  · exact prev_le m hm n hn h w
  · exact prev_gt m hm n hn (by omega) w

end Go.Proofs.YtmogjhljmljpfaaDoor
