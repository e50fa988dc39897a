/- Mask.Next and Mask.Prev. -/
import Derived.Test.YtmogjhljmljpfaaDoorSets
namespace Go.Proofs.YtmogjhljmljpfaaDoor
set_option maxRecDepth 20000
open Go.RowKit

set_option maxHeartbeats 4000000 in
theorem next_any (m : List Nat) (hm : Ok m) (n : Int) (hn : -9223372036854775808 ≤ n ∧ n ≤ 9223372036854775807) (w : World) (hT : Tab w) (hw : 1 < w.heap.size) :
    Calls Tryd.prog 38 #[mv m, .int .i64 n] w fun e w' => e = .returned (.int .i64 (nxt m n)) ∧ Below w.heap.size w w' := by
  have HM := hide hm
  have HLO := hide (bl_ok m hm (max n 0))
  have HH := hide (nxt_hit m hm n)
  have HS := hide (nxt_miss m hm n)
  have CB := fun w => below_any m hm n hn w
  have HN : Hid (-1 ≤ n → True) := fun _ => trivial
  clear HN
  generalize nxt m n = ans at *
  obtain ⟨y0, y1, y2, y3, ey⟩ := list4 (bl m (max n 0)) HLO.out.len
  generalize bl m (max n 0) = lo at *
  obtain ⟨x0, x1, x2, x3, ex⟩ := list4 m hm.len
  have EX := hide ex
  have EY := hide ey
  have FM := hide (Below.alloc (Below.refl w.heap.size w) (Nat.le_refl _) (.cells #[.int .u64 x0, .int .u64 x1, .int .u64 x2, .int .u64 x3] 48 (0, 0)))
  rw [ey, ex] at CB
  have BX0 := hide (Blk.new w 48 [.int .u64 x0, .int .u64 x1, .int .u64 x2, .int .u64 x3] #[.int .u64 x0, .int .u64 x1, .int .u64 x2, .int .u64 x3] rfl)
  have goal4 : (mv m) = .agg #[.int .u64 (x0 : Int), .int .u64 (x1 : Int), .int .u64 (x2 : Int), .int .u64 (x3 : Int)] := by rw [ex]; rfl
  rw [goal4]
  simp only [mv, u64s, List.map_cons, List.map_nil] at CB
  have HT := hide hT
  clear goal4 ex ey hm hT
  go_enter Tryd.func38, Tryd.ntmps38
  go_wp2_with (go_at_call 46; refine (CB _).mono ?_; rintro e w5 ⟨rfl, f5⟩; have F5 := fstep FM f5; have BX := BX0.out.below f5 (Nat.lt_of_lt_of_le (BX0.out.lt) (Nat.le_refl _)); obtain ⟨c0, c1, c2, c3⟩ := (BX.alloc (.cells #[.int .u64 y0, .int .u64 y1, .int .u64 y2, .int .u64 y3] 48 (0, 0))).cells4; clear f5 BX)
  have F6 := hide (Below.alloc F5.out F5.out.size (.cells #[.int .u64 y0, .int .u64 y1, .int .u64 y2, .int .u64 y3] 48 (0, 0)))
  have BY := hide (Blk.new w5 48 (u64s [y0, y1, y2, y3]) #[.int .u64 y0, .int .u64 y1, .int .u64 y2, .int .u64 y3] rfl)
  generalize (w5.alloc (.cells #[.int .u64 y0, .int .u64 y1, .int .u64 y2, .int .u64 y3] 48 (0, 0))) = w6 at *
  have T6 := hide (HT.out.below F6.out hw)
  clear c0 c1 c2 c3
  rw [← EY.out] at BY
  go_loopw [13] (fun v wr => ∃ k : Nat, v = .int .i64 k ∧ k ≤ 4 ∧ (∀ j, j < k → restOf m lo j = 0) ∧ wr = w6) (fun v _ => 4 - (intOf v).toNat)
  case atStart => exact ⟨0, rfl, by omega, fun j hj => by omega, rfl⟩
  case round =>
    obtain ⟨k, rfl, hk, hz, rfl⟩ := hrel
    have HZ := hide hz
    clear hz
    by_cases h1 : k < 4
    · have hki : (k : Int) < 4 := by omega
      have hkj : (0 : Int) ≤ (k : Int) := by omega
      have hi : ∀ w, (Instr.index 48 (.agg #[.int .u64 (x0 : Int), .int .u64 (x1 : Int), .int .u64 (x2 : Int), .int .u64 (x3 : Int)]) (.int .i64 (k : Int))).run Tryd.prog w = .ok (.int .u64 ((m.getD k 0 : Nat) : Int)) w := by
        rw [EX.out]; exact index_at x0 x1 x2 x3 k h1
      have cy : wr.cell? ⟨w5.heap.size, k, none⟩ = some (.int .u64 (lo.getD k 0 : Int)) := by
        rw [BY.out.cell, u64s_get _ _ (by rw [HLO.out.len]; omega)]
      have hr : bits .andNot .u64 (m.getD k 0 : Int) (lo.getD k 0 : Int) = (restOf m lo k : Int) := bits_andNot_u64_nat _ _ (HM.out.lt k) (HLO.out.lt k)
      have hl := restOf_lt m lo HM.out k
      have H1 := hide (HH.out k h1 HZ.out)
      have HZ2 : Hid (restOf m lo k = 0 → ∀ j, j < k + 1 → restOf m lo j = 0) := fun h0 j hj => by
        by_cases e : j = k
        · subst e; exact h0
        · exact HZ.out j (by omega)
      generalize restOf m lo k = r at *
      generalize m.getD k 0 = x at *
      generalize lo.getD k 0 = y at *
      by_cases h0 : r = 0
      · have hb : ((r : Int) != 0) = false := by simp [h0]
        have H0 := hide h0
        clear h0
        go_wp2
        go_roundw
        case measure => simp only [intOf]; omega
        case rel => exact ⟨k + 1, by go_num, by omega, HZ2.out H0.out, trivial⟩
      · have hb : ((r : Int) != 0) = true := by simp; omega
        have hc := (ctz_spec r h0 hl).1
        have HA := hide (H1.out h0)
        have H0 := hide h0
        clear h0
        go_wp2_with (go_at_call 45; refine (tz64_any _ hl H0.out _ T6.out).mono ?_; rintro e w7 ⟨rfl, rfl⟩)
        go_ret
        refine ⟨ret_int ?_, F6.out⟩
        rw [HA.out]
        generalize Lib.ctz 64 r = c at *
        go_num
    · obtain rfl : k = 4 := by omega
      go_wp2
      go_ret
      refine ⟨?_, F6.out⟩
      rw [HS.out HZ.out]
      rfl


set_option maxHeartbeats 4000000 in
theorem prev_le (m : List Nat) (hm : Ok m) (n : Int) (hn : -9223372036854775808 ≤ n ∧ n ≤ 9223372036854775807) (hc : n ≤ 256) (w : World) :
    Calls Tryd.prog 39 #[mv m, .int .i64 n] w fun e w' => e = .returned (.int .i64 (prv m n)) ∧ Below w.heap.size w w' := by
  have hq : ∀ b : Nat, b < 256 → ((b : Int) < max (n + 1) 0 ↔ (b : Int) ≤ n) := fun b hb => by omega
  have HLO := hide (bl_ok m hm (max (n + 1) 0))
  have HH := hide (prv_hit m hm n _ hq)
  have HS := hide (prv_miss m hm n _ hq)
  have CB := fun w => below_any m hm (n + 1) (by omega) w
  clear hq
  generalize prv m n = ans at *
  obtain ⟨y0, y1, y2, y3, ey⟩ := list4 (bl m (max (n + 1) 0)) HLO.out.len
  generalize bl m (max (n + 1) 0) = lo at *
  obtain ⟨x0, x1, x2, x3, ex⟩ := list4 m hm.len
  have EY := hide ey
  have FM := hide (Below.alloc (Below.refl w.heap.size w) (Nat.le_refl _) (.cells #[.int .u64 x0, .int .u64 x1, .int .u64 x2, .int .u64 x3] 48 (0, 0)))
  rw [ey, ex] at CB
  have goal4 : (mv m) = .agg #[.int .u64 (x0 : Int), .int .u64 (x1 : Int), .int .u64 (x2 : Int), .int .u64 (x3 : Int)] := by rw [ex]; rfl
  rw [goal4]
  simp only [mv, u64s, List.map_cons, List.map_nil] at CB
  clear goal4 ex ey hm
  have hmin : n + 1 ≤ 9223372036854775807 := by omega
  go_enter Tryd.func39, Tryd.ntmps39
  go_wp2_with (go_at_call 46; refine (CB _).mono ?_; rintro e w5 ⟨rfl, f5⟩; have F5 := fstep FM f5; clear f5)
  have F6 := hide (Below.alloc F5.out F5.out.size (.cells #[.int .u64 y0, .int .u64 y1, .int .u64 y2, .int .u64 y3] 48 (0, 0)))
  have BY := hide (Blk.new w5 48 (u64s [y0, y1, y2, y3]) #[.int .u64 y0, .int .u64 y1, .int .u64 y2, .int .u64 y3] rfl)
  generalize (w5.alloc (.cells #[.int .u64 y0, .int .u64 y1, .int .u64 y2, .int .u64 y3] 48 (0, 0))) = w6 at *
  rw [← EY.out] at BY
  go_loopw [6] (fun v wr => ∃ k : Nat, v = .int .i64 ((k : Int) - 1) ∧ k ≤ 4 ∧ (∀ j, k ≤ j → j < 4 → lo.getD j 0 = 0) ∧ wr = w6) (fun v _ => (intOf v + 1).toNat)
  case atStart => exact ⟨4, rfl, by omega, fun j h1 h2 => by omega, rfl⟩
  case round =>
    obtain ⟨k, rfl, hk, hz, rfl⟩ := hrel
    have HZ := hide hz
    clear hz
    cases k with
    | succ k =>
      have hki : (k : Int) < 4 := by omega
      have hkj : (0 : Int) ≤ (k : Int) := by omega
      have hkk : ((k + 1 : Nat) : Int) - 1 = (k : Int) := by omega
      have cy : wr.cell? ⟨w5.heap.size, k, none⟩ = some (.int .u64 (lo.getD k 0 : Int)) := by
        rw [BY.out.cell, u64s_get _ _ (by rw [HLO.out.len]; omega)]
      have hl := HLO.out.lt k
      have H1 := hide (HH.out k (by omega) (fun j h1 h2 => HZ.out j (by omega) h2))
      have HZ2 : Hid (lo.getD k 0 = 0 → ∀ j, k ≤ j → j < 4 → lo.getD j 0 = 0) := fun h0 j h1 h2 => by
        by_cases e : j = k
        · subst e; exact h0
        · exact HZ.out j (by omega) h2
      generalize lo.getD k 0 = r at *
      rw [hkk]
      by_cases h0 : r = 0
      · have hb : ((r : Int) != 0) = false := by simp [h0]
        have H0 := hide h0
        clear h0
        go_wp2
        go_roundw
        case measure => simp only [intOf]; omega
        case rel => exact ⟨k, by go_num, by omega, HZ2.out H0.out, trivial⟩
      · have hb : ((r : Int) != 0) = true := by simp; omega
        have hbl : bitLen r ≤ 64 := by
          obtain ⟨t, e0, c1, _, _⟩ := bitLen_top r h0 hl
          omega
        have HA := hide (H1.out h0)
        clear h0
        go_wp2_with (go_at_call 47; refine (len64_any _ hl _).mono ?_; rintro e w7 ⟨rfl, rfl⟩)
        go_ret
        refine ⟨ret_int ?_, F6.out⟩
        rw [HA.out]
        generalize bitLen r = c at *
        go_num
    | zero =>
      have hkk : ((0 : Nat) : Int) - 1 = -1 := by omega
      rw [hkk]
      go_wp2
      go_ret
      refine ⟨?_, F6.out⟩
      rw [HS.out (fun j hj => HZ.out j (by omega) hj)]
      rfl

end Go.Proofs.YtmogjhljmljpfaaDoor
