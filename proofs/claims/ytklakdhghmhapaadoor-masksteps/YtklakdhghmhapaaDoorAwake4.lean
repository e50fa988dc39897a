/- What every program answers that is one. -/
import Derived.Test.YtklakdhghmhapaaDoorEq4
namespace Go.Proofs.YtklakdhghmhapaaDoor
open Go.RowKit

theorem news_rd (w : World) (xs : List Int) (hb : IsBytes xs) (hm : xs.length ≤ maxLen) (cs : Array Value) (hc : cs = (u8s xs).toArray) : Rd (w.alloc (.cells cs 5)) (some ⟨w.heap.size, 0, none⟩) xs := by
  subst hc
  exact blk_rd (heap_alloc_new w _) hb hm
theorem of_two (w : World) : Calls Tryd.prog 24 #[.slice (some ⟨w.heap.size, 0, none⟩) 2 2] (w.alloc (.cells #[.int .u8 3, .int .u8 200] 5)) fun e w' =>
    e = .returned (.agg #[.int .u64 8, .int .u64 0, .int .u64 0, .int .u64 256]) ∧ Below (w.alloc (.cells #[.int .u8 3, .int .u8 200] 5)).heap.size (w.alloc (.cells #[.int .u8 3, .int .u8 200] 5)) w' :=
  of_any (some ⟨w.heap.size, 0, none⟩) [3, 200] 2 (w.alloc (.cells #[.int .u8 3, .int .u8 200] 5)) (by decide) (news_rd w _ (by unfold IsBytes; decide) (by decide) _ rfl)
theorem of_one (w : World) : Calls Tryd.prog 24 #[.slice (some ⟨w.heap.size, 0, none⟩) 1 1] (w.alloc (.cells #[.int .u8 200] 5)) fun e w' =>
    e = .returned (.agg #[.int .u64 0, .int .u64 0, .int .u64 0, .int .u64 256]) ∧ Below (w.alloc (.cells #[.int .u8 200] 5)).heap.size (w.alloc (.cells #[.int .u8 200] 5)) w' :=
  of_any (some ⟨w.heap.size, 0, none⟩) [200] 1 (w.alloc (.cells #[.int .u8 200] 5)) (by decide) (news_rd w _ (by unfold IsBytes; decide) (by decide) _ rfl)
theorem of_none (w : World) : Calls Tryd.prog 24 #[.slice none 0 0] w fun e w' => e = .returned (.agg #[.int .u64 0, .int .u64 0, .int .u64 0, .int .u64 0]) ∧ Below w.heap.size w w' :=
  of_any none [] 0 w (by decide) (Rd.nil w none)
def mA : List Nat := [8, 0, 0, 256]
theorem mA_ok : Ok mA := ⟨rfl, fun i => by
  match i with
  | 0 => decide
  | 1 => decide
  | 2 => decide
  | 3 => decide
  | n + 4 => simp [mA]⟩
theorem has_A (w : World) : Calls Tryd.prog 9 #[.agg #[.int .u64 8, .int .u64 0, .int .u64 0, .int .u64 256], .int .u8 3] w fun e w' => e = .returned (.bool true) ∧ Below w.heap.size w w' := has_any mA mA_ok 3 (by decide) w
theorem next_A (w : World) (hT : Tab w) (hw : 0 < w.heap.size) : Calls Tryd.prog 13 #[.agg #[.int .u64 8, .int .u64 0, .int .u64 0, .int .u64 256], .int .i64 4] w fun e w' => e = .returned (.int .i64 200) ∧ Below w.heap.size w w' := by
  have := next_any mA mA_ok 4 (by decide) w hT hw
  rw [show nxt mA 4 = 200 by decide +kernel] at this
  exact this
theorem prev_A (w : World) : Calls Tryd.prog 15 #[.agg #[.int .u64 8, .int .u64 0, .int .u64 0, .int .u64 256], .int .i64 199] w fun e w' => e = .returned (.int .i64 3) ∧ Below w.heap.size w w' := by
  have := prev_any mA mA_ok 199 (by decide) w
  rw [show prv mA 199 = 3 by decide +kernel] at this
  exact this
theorem rank_A (w : World) : Calls Tryd.prog 17 #[.agg #[.int .u64 8, .int .u64 0, .int .u64 0, .int .u64 256], .int .i64 200] w fun e w' => e = .returned (.int .i64 1) ∧ Below w.heap.size w w' := by
  have := rank_any mA mA_ok 200 (by decide) w
  rw [show cnt (bl mA (max 200 0)) = 1 by decide +kernel] at this
  exact this
theorem count_A (w : World) : Calls Tryd.prog 21 #[.agg #[.int .u64 8, .int .u64 0, .int .u64 0, .int .u64 256]] w fun e w' => e = .returned (.int .i64 2) ∧ Below w.heap.size w w' := by
  have := count_any mA mA_ok w
  rw [show cnt mA = 2 by decide +kernel] at this
  exact this
theorem without_A (w : World) : Calls Tryd.prog 12 #[.agg #[.int .u64 8, .int .u64 0, .int .u64 0, .int .u64 256], .int .u8 3] w fun e w' => e = .returned (.agg #[.int .u64 0, .int .u64 0, .int .u64 0, .int .u64 256]) ∧ Below w.heap.size w w' := by
  have := without_four 8 0 0 256 (by decide) (by decide) (by decide) (by decide) 3 (by decide) w
  rw [show wo [8, 0, 0, 256] 3 = [0, 0, 0, 256] by decide +kernel] at this
  exact this

set_option maxHeartbeats 4000000 in
theorem awake_any (w : World) (hT : Tab w) (hw : 0 < w.heap.size) : Calls Tryd.prog 23 #[] w fun e w' => e = .returned (.bool true) ∧ Below w.heap.size w w' := by
  have HT := hide hT
  have FM := hide (Below.alloc (Below.refl w.heap.size w) (Nat.le_refl _) (.cells #[.int .u8 3, .int .u8 200] 5))
  have q0 := eq4_run 0 0 0 0 0 0 0 0
  have q1 := eq4_run 0 0 0 256 0 0 0 256
  clear hT
  go_enter Tryd.func23, Tryd.ntmps23
  go_wp2_with (first
    | (go_at_call 24; refine (of_two _).mono ?_; rintro e w5 ⟨rfl, f5⟩; have F5 := fstep FM f5; have F6 := hide (Below.alloc F5.out F5.out.size (.cells #[.int .u64 8, .int .u64 0, .int .u64 0, .int .u64 256] 24 (0, 0))); have B6 := hide (Blk.new w5 24 [.int .u64 8, .int .u64 0, .int .u64 0, .int .u64 256] #[.int .u64 8, .int .u64 0, .int .u64 0, .int .u64 256] rfl); clear f5)
    | (go_at_call 9; refine (has_A _).mono ?_; rintro e w7 ⟨rfl, f7⟩; have F7 := fstep F6 f7; have B7 := hide (B6.out.below f7 B6.out.lt); obtain ⟨c70, c71, c72, c73⟩ := B7.out.cells4; clear f7))
  go_wp2_with (first
    | (go_at_call 13; refine (next_A _ (HT.out.below F7.out hw) (Nat.lt_of_lt_of_le hw F7.out.size)).mono ?_; rintro e w8 ⟨rfl, f8⟩; have F8 := fstep F7 f8; have B8 := hide (B7.out.below f8 B7.out.lt); obtain ⟨c80, c81, c82, c83⟩ := B8.out.cells4; clear f8)
    | (go_at_call 15; refine (prev_A _).mono ?_; rintro e w9 ⟨rfl, f9⟩; have F9 := fstep F8 f9; have B9 := hide (B8.out.below f9 B8.out.lt); obtain ⟨c90, c91, c92, c93⟩ := B9.out.cells4; clear f9)
    | (go_at_call 17; refine (rank_A _).mono ?_; rintro e w10 ⟨rfl, f10⟩; have F10 := fstep F9 f10; have B10 := hide (B9.out.below f10 B9.out.lt); obtain ⟨c100, c101, c102, c103⟩ := B10.out.cells4; clear f10)
    | (go_at_call 21; refine (count_A _).mono ?_; rintro e w11 ⟨rfl, f11⟩; have F11 := fstep F10 f11; have B11 := hide (B10.out.below f11 B10.out.lt); obtain ⟨c110, c111, c112, c113⟩ := B11.out.cells4; clear f11))
  go_wp2_with (first
    | (go_at_call 24; refine (of_none _).mono ?_; rintro e w12 ⟨rfl, f12⟩; have F12 := fstep F11 f12; have B12 := hide (B11.out.below f12 B11.out.lt); obtain ⟨c120, c121, c122, c123⟩ := B12.out.cells4; clear f12))
  go_wp2_with (first
    | (go_at_call 12; refine (without_A _).mono ?_; rintro e w13 ⟨rfl, f13⟩; have F13 := fstep F12 f13; clear f13)
    | (go_at_call 24; refine (of_one _).mono ?_; rintro e w14 ⟨rfl, f14⟩; have F14 := fstep (hide (Below.alloc F13.out F13.out.size (.cells #[.int .u8 200] 5))) f14; clear f14))
  go_ret
  exact ⟨rfl, F14.out⟩

end Go.Proofs.YtklakdhghmhapaaDoor
