/- awake. -/
import Derived.Test.YtjbpffeembepcaaGive5
namespace Go.Proofs.Ytjbpffeembepcaa
open Go.RowKit
set_option linter.unusedVariables false

/-- Words laid into a new block, handed in at once. -/
theorem Wd.lit (K : Nat → Prop) (w : World) (ws : List Int) : Wd (fun k => K k ∨ w.heap.size ≤ k ∧ k < (w.alloc (.cells (u64s ws).toArray 32)).heap.size) (w.alloc (.cells (u64s ws).toArray 32)) (some ⟨w.heap.size, 0, none⟩) ws := by
  refine .inr ⟨w.heap.size, 0, rfl, .inr ⟨Nat.le_refl _, by simp⟩, fun j hj => ?_⟩
  rw [Nat.zero_add]
  exact (Blk.cell (Blk.new w 32 (u64s ws) _ rfl) j).trans (u64s_get ws j hj)
theorem kp_alloc (w : World) (o : Obj) : Kp (fun k => k < w.heap.size) w (w.alloc o) := ⟨rfl, rfl, rfl, by simp, fun k hk _ => Below.heap_alloc w o k hk⟩
theorem Wd.none (K : Nat → Prop) (w : World) : Wd K w none [] := .inl rfl

section
variable {K : Nat → Prop} {w : World} {g : Nat} {most : Int} {cs : Cells} {back : List Nat}
/-- Take of words that are laid for it alone. -/
theorem take_new_lit (A : Ar K w g most cs []) (hm : (cs.length : Int) < most) (ws : List Int) (hw : ws.length ≤ 64) :
    Calls Try.prog 11 #[.pointer (some ⟨g, 0, none⟩), .slice (some ⟨w.heap.size, 0, none⟩) ws.length ws.length] (w.alloc (.cells (u64s ws).toArray 32)) fun e w' => e = .returned (.tuple #[.int .u32 ((cs.length + 1 : Nat) : Int), .int .i64 0]) ∧ Ar K w' g most (cs ++ [some ws]) [] ∧ Kp K w w' := by
  refine (take_new (A.more (kp_alloc w _)) hm _ ws ws.length (Wd.lit K w ws) hw).mono ?_
  rintro e w' ⟨rfl, A', k⟩
  exact ⟨rfl, A'.weaken (fun k hk => .inl hk), ((Kp.refl K w).alloc _).trans (k.mono (fun k hk => .inl hk))⟩
theorem take_back_lit {h : Nat} (A : Ar K w g most cs (back ++ [h])) (ws : List Int) (hw : ws.length ≤ 64) :
    Calls Try.prog 11 #[.pointer (some ⟨g, 0, none⟩), .slice (some ⟨w.heap.size, 0, none⟩) ws.length ws.length] (w.alloc (.cells (u64s ws).toArray 32)) fun e w' => e = .returned (.tuple #[.int .u32 (h : Int), .int .i64 0]) ∧ Ar K w' g most (cs.set (h - 1) (some ws)) back ∧ Kp K w w' := by
  refine (take_back (A.more (kp_alloc w _)) _ ws ws.length (Wd.lit K w ws) hw).mono ?_
  rintro e w' ⟨rfl, A', k⟩
  exact ⟨rfl, A'.weaken (fun k hk => .inl hk), ((Kp.refl K w).alloc _).trans (k.mono (fun k hk => .inl hk))⟩
theorem take_full_lit (A : Ar K w g most cs back) (hf : most = ((cs.length - back.length : Nat) : Int)) (ws : List Int) (hw : ws.length ≤ 64) :
    Calls Try.prog 11 #[.pointer (some ⟨g, 0, none⟩), .slice (some ⟨w.heap.size, 0, none⟩) ws.length ws.length] (w.alloc (.cells (u64s ws).toArray 32)) fun e w' => e = .returned (.tuple #[.int .u32 0, .int .i64 4]) ∧ Ar K w' g most cs back ∧ Kp K w w' := by
  have A' := A.more (kp_alloc w (.cells (u64s ws).toArray 32))
  refine (take_full A' hf _ _ _ hw).mono ?_
  rintro e w' ⟨rfl, s⟩
  exact ⟨rfl, (A'.still s).weaken (fun k hk => .inl hk), ((Kp.refl K w).alloc _).trans (s.kp K)⟩
end

theorem new_v (w : World) (n : Int) (h0 : 0 ≤ n) (h1 : n ≤ 1048576) : Calls Try.prog 9 #[.int .i64 n] w fun e w' => ∃ g, e = .returned (.pointer (some ⟨g, 0, none⟩)) ∧ Ar (fun k => k < w.heap.size) w' g n [] [] ∧ Kp (fun k => k < w.heap.size) w w' :=
  (new_any n h0 h1).mono fun e w' ⟨he, h, f⟩ => ⟨_, he, h, Kp.of_below f⟩

set_option maxHeartbeats 1600000 in
theorem awake_any (w : World) : Calls Try.prog 8 #[] w fun e w' => e = .returned (.bool true) ∧ Below w.heap.size w w' := by
  go_enter Try.func8, Try.ntmps8
  go_wp2_with fail
  refine (new_v _ 2 (by omega) (by omega)).mono ?_
  rintro e w1 ⟨g, rfl, h1, k1⟩
  have A1 := hide h1
  have K1 := hide k1
  clear h1 k1
  go_wp2_with fail
  refine (take_new_lit A1.out (by simp) [7, 8] (by simp)).mono ?_
  rintro e w2 ⟨rfl, h2, k2⟩
  have A2 := hide h2
  have K2 := hide (K1.out.trans k2)
  clear h2 k2 A1 K1
  go_wp2_with fail
  refine (take_new A2.out (by simp) none [] 0 (Wd.none _ _) (by simp)).mono ?_
  rintro e w3 ⟨rfl, h3, k3⟩
  have A3 := hide h3
  have K3 := hide (K2.out.trans k3)
  clear h3 k3 A2 K2
  go_wp2_with fail
  refine (take_full A3.out (by simp) none 0 0 (by simp)).mono ?_
  rintro e w4 ⟨rfl, s4⟩
  have A4 := hide (A3.out.still s4)
  have K4 := hide (K3.out.trans (s4.kp _))
  clear s4 A3 K3
  go_wp2_with fail
  refine (give_has A4.out 0 [7, 8] rfl).mono ?_
  rintro e w5 ⟨rfl, h5, k5⟩
  have A5 := hide h5
  have K5 := hide (K4.out.trans k5)
  clear h5 k5 A4 K4
  go_wp2_with fail
  refine (take_back_lit (back := []) A5.out [9] (by simp)).mono ?_
  rintro e w6 ⟨rfl, h6, k6⟩
  have A6 := hide h6
  have K6 := hide (K5.out.trans k6)
  clear h6 k6 A5 K5
  go_wp2_with fail
  refine (a_get A6.out 0 0 [9] rfl (by simp)).mono ?_
  rintro e w7 ⟨rfl, rfl⟩
  go_wp2_with fail
  refine (a_live A6.out).mono ?_
  rintro e w8 ⟨rfl, s8⟩
  have A8 := hide (A6.out.still s8)
  have K8 := hide (K6.out.trans (s8.kp _))
  clear s8 A6 K6
  go_wp2_with fail
  refine (a_free A8.out).mono ?_
  rintro e w9 ⟨rfl, s9⟩
  have K9 := hide (K8.out.trans (s9.kp _))
  clear s9 A8 K8
  go_wp2_with fail
  refine (new_none (-1) (by omega)).mono ?_
  rintro e w10 ⟨rfl, rfl⟩
  go_wp2
  go_ret
  exact ⟨by rfl, K9.out.below (Nat.le_refl _) (fun k hk => hk)⟩
end Go.Proofs.Ytjbpffeembepcaa
