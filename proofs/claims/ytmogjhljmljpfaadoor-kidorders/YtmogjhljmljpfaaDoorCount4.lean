/- Mask.Count and Mask.Rank. -/
import Derived.Test.YtmogjhljmljpfaaDoorLow4
namespace Go.Proofs.YtmogjhljmljpfaaDoor
set_option maxRecDepth 20000
open Go.RowKit

theorem fstep {w a b : World} (F : Hid (Below w.heap.size w a)) (k : Below a.heap.size a b) : Hid (Below w.heap.size w b) := F.out.trans (k.mono F.out.size)

theorem bitsOf_sum : ∀ n x, (bitsOf n x).sum ≤ n
  | 0, _ => by simp [bitsOf]
  | n + 1, x => by
    have := bitsOf_sum n (x / 2)
    simp only [bitsOf, List.sum_cons]
    omega
theorem pop_le (x : Nat) : pop x ≤ 64 := bitsOf_sum 64 x

/-- How many bits the first k numbers hold. -/
def popTo (m : List Nat) (k : Nat) : Nat := ((m.take k).map pop).sum
def cnt (m : List Nat) : Nat := popTo m 4
theorem popTo_succ (m : List Nat) (k : Nat) (h : k < m.length) : popTo m (k + 1) = popTo m k + pop (m.getD k 0) := by
  unfold popTo
  rw [List.take_succ_eq_append_getElem h, List.map_append, List.sum_append]
  simp [h, List.getD_eq_getElem?_getD]
theorem popTo_le (m : List Nat) (k : Nat) : popTo m k ≤ 64 * k := by
  induction k with
  | zero => simp [popTo]
  | succ k ih =>
    by_cases h : k < m.length
    · rw [popTo_succ m k h]; have := pop_le (m.getD k 0); omega
    · have : popTo m (k + 1) = popTo m k := by
        unfold popTo
        rw [List.take_of_length_le (by omega), List.take_of_length_le (by omega)]
      omega

theorem bl_ok (m : List Nat) (hm : Ok m) (n : Int) : Ok (bl m n) := by
  refine ⟨by unfold bl; rw [cutTo_len]; exact hm.len, fun i => ?_⟩
  by_cases h : i < m.length
  · unfold bl
    rw [cutTo_get _ _ _ _ h]
    split
    · exact Nat.lt_of_le_of_lt Nat.and_le_left (hm.lt i)
    · exact hm.lt i
  · rw [List.getD_eq_getElem?_getD, List.getElem?_eq_none (by unfold bl; rw [cutTo_len]; omega)]
    decide

theorem index4_0 (x0 x1 x2 x3 : Nat) (w : World) : (Instr.index 48 (.agg #[.int .u64 (x0 : Int), .int .u64 (x1 : Int), .int .u64 (x2 : Int), .int .u64 (x3 : Int)]) (.int .i64 0)).run Tryd.prog w = .ok (.int .u64 ((x0 : Nat) : Int)) w := by kernel_rfl
theorem index4_1 (x0 x1 x2 x3 : Nat) (w : World) : (Instr.index 48 (.agg #[.int .u64 (x0 : Int), .int .u64 (x1 : Int), .int .u64 (x2 : Int), .int .u64 (x3 : Int)]) (.int .i64 1)).run Tryd.prog w = .ok (.int .u64 ((x1 : Nat) : Int)) w := by kernel_rfl
theorem index4_2 (x0 x1 x2 x3 : Nat) (w : World) : (Instr.index 48 (.agg #[.int .u64 (x0 : Int), .int .u64 (x1 : Int), .int .u64 (x2 : Int), .int .u64 (x3 : Int)]) (.int .i64 2)).run Tryd.prog w = .ok (.int .u64 ((x2 : Nat) : Int)) w := by kernel_rfl
theorem index4_3 (x0 x1 x2 x3 : Nat) (w : World) : (Instr.index 48 (.agg #[.int .u64 (x0 : Int), .int .u64 (x1 : Int), .int .u64 (x2 : Int), .int .u64 (x3 : Int)]) (.int .i64 3)).run Tryd.prog w = .ok (.int .u64 ((x3 : Nat) : Int)) w := by kernel_rfl
theorem index4 (x0 x1 x2 x3 : Nat) (k : Nat) (hk : k < 4) (w : World) : (Instr.index 48 (mv [x0, x1, x2, x3]) (.int .i64 (k : Int))).run Tryd.prog w = .ok (.int .u64 (([x0, x1, x2, x3].getD k 0 : Nat) : Int)) w := by
  obtain rfl | rfl | rfl | rfl : k = 0 ∨ k = 1 ∨ k = 2 ∨ k = 3 := by omega
  · exact index4_0 x0 x1 x2 x3 w
  · exact index4_1 x0 x1 x2 x3 w
  · exact index4_2 x0 x1 x2 x3 w
  · exact index4_3 x0 x1 x2 x3 w
theorem index_any (m : List Nat) (hm : m.length = 4) (k : Nat) (hk : k < 4) : ∀ w, (Instr.index 48 (mv m) (.int .i64 (k : Int))).run Tryd.prog w = .ok (.int .u64 ((m.getD k 0 : Nat) : Int)) w := by
  obtain ⟨a, b, c, d, rfl⟩ := list4 m hm
  exact index4 a b c d k hk

theorem index_at (x0 x1 x2 x3 k : Nat) (hk : k < 4) : ∀ w, (Instr.index 48 (.agg #[.int .u64 (x0 : Int), .int .u64 (x1 : Int), .int .u64 (x2 : Int), .int .u64 (x3 : Int)]) (.int .i64 (k : Int))).run Tryd.prog w = .ok (.int .u64 (([x0, x1, x2, x3].getD k 0 : Nat) : Int)) w :=
  index4 x0 x1 x2 x3 k hk

set_option maxHeartbeats 2000000 in
theorem count_any (m : List Nat) (hm : Ok m) (w : World) :
    Calls Tryd.prog 44 #[mv m] w fun e w' => e = .returned (.int .i64 (cnt m : Int)) ∧ Below w.heap.size w w' := by
  have hlt := hide hm.lt
  have hl := hide hm.len
  obtain ⟨x0, x1, x2, x3, rfl⟩ := list4 m hm.len
  have FM := hide (Below.alloc (Below.refl w.heap.size w) (Nat.le_refl _) (.cells #[.int .u64 x0, .int .u64 x1, .int .u64 x2, .int .u64 x3] 48 (0, 0)))
  simp only [mv, u64s, List.map_cons, List.map_nil]
  generalize hM : [x0, x1, x2, x3] = m at hlt hl
  have HM := hide hM
  clear hM hm
  go_enter Tryd.func44, Tryd.ntmps44
  go_wp2
  generalize (w.alloc (.cells #[.int .u64 x0, .int .u64 x1, .int .u64 x2, .int .u64 x3] 48 (0, 0))) = w2 at *
  go_loopw [7, 3] (fun v u wr => ∃ k : Nat, v = .int .i64 k ∧ u = .int .i64 (popTo m k : Int) ∧ k ≤ 4 ∧ wr = w2) (fun v _ _ => 4 - (intOf v).toNat)
  case atStart => exact ⟨0, rfl, rfl, by omega, rfl⟩
  case round =>
    obtain ⟨k, rfl, rfl, hk, rfl⟩ := hrel
    by_cases h1 : k < 4
    · have hki : (k : Int) < 4 := by omega
      have hx := hlt.out k
      have HS := hide (popTo_succ m k (by rw [hl.out]; omega))
      have hp := pop_le (m.getD k 0)
      have hi : ∀ w, (Instr.index 48 (.agg #[.int .u64 (x0 : Int), .int .u64 (x1 : Int), .int .u64 (x2 : Int), .int .u64 (x3 : Int)]) (.int .i64 (k : Int))).run Tryd.prog w = .ok (.int .u64 ((m.getD k 0 : Nat) : Int)) w := by
        rw [← HM.out]; exact index_at x0 x1 x2 x3 k h1
      have hq := popTo_le m k
      generalize m.getD k 0 = x at *
      generalize popTo m k = s at *
      go_wp2_with (go_at_call 49; refine (ones64_any _ hx _).mono ?_; rintro e w5 ⟨rfl, rfl⟩)
      go_roundw
      case measure => simp only [intOf]; omega
      case rel => exact ⟨k + 1, by go_num, by rw [HS.out]; go_num, by omega, trivial⟩
    · obtain rfl : k = 4 := by omega
      go_wp2
      go_ret
      exact ⟨rfl, FM.out⟩

set_option maxHeartbeats 2000000 in
theorem rank_any (m : List Nat) (hm : Ok m) (n : Int) (hn : -9223372036854775808 ≤ n ∧ n ≤ 9223372036854775807) (w : World) :
    Calls Tryd.prog 41 #[mv m, .int .i64 n] w fun e w' => e = .returned (.int .i64 (cnt (bl m (max n 0)) : Int)) ∧ Below w.heap.size w w' := by
  have hb := hide (bl_ok m hm (max n 0))
  have CB := fun w => below_any m hm n hn w
  obtain ⟨x0, x1, x2, x3, rfl⟩ := list4 m hm.len
  have FM := hide (Below.alloc (Below.refl w.heap.size w) (Nat.le_refl _) (.cells #[.int .u64 x0, .int .u64 x1, .int .u64 x2, .int .u64 x3] 48 (0, 0)))
  generalize bl [x0, x1, x2, x3] (max n 0) = mb at *
  simp only [mv, u64s, List.map_cons, List.map_nil] at CB ⊢
  go_enter Tryd.func41, Tryd.ntmps41
  go_wp2_with (first
    | (go_at_call 46; refine (CB _).mono ?_; rintro e w5 ⟨rfl, f5⟩; have F5 := hide f5; clear f5)
    | (go_at_call 44; refine (count_any mb hb.out _).mono ?_; rintro e w6 ⟨rfl, f6⟩; have F6 := hide f6; clear f6))
  go_ret
  exact ⟨rfl, (fstep (fstep FM F5.out) F6.out).out⟩

end Go.Proofs.YtmogjhljmljpfaaDoor
