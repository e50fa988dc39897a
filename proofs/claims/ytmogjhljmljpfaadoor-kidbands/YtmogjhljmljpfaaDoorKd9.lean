/- A node as it stands; Kind, Len, place, Get. -/
import Derived.Test.YtmogjhljmljpfaaDoorKf9
import Derived.Test.YtmogjhljmljpfaaDoorDel9
import Derived.Lib.QuietBelow
namespace Go.Proofs.YtmogjhljmljpfaaDoor
set_option maxRecDepth 20000
open Go.RowKit
set_option linter.unusedVariables false

/-- The table of kinds. -/
def Rm (w : World) : Prop := ∀ s, s < 4 → w.cell? ⟨0, s * 2, none⟩ = some (.int .i64 (mostN s : Int)) ∧ w.cell? ⟨0, s * 2 + 1, none⟩ = some (.int .i64 (fewN s))
/-- Both tables. -/
structure Tb (w : World) : Prop where
  tab : Tab w
  rm : Rm w
  two : 2 ≤ w.heap.size
theorem cell_block {w w' : World} {g j : Nat} (h : w'.heap[g]? = w.heap[g]?) : w'.cell? ⟨g, j, none⟩ = w.cell? ⟨g, j, none⟩ := by simp [World.cell?, h]
theorem Tb.kp {K : Nat → Prop} {w w' : World} (h : Tb w) (k : Kp K w w') (h0 : K 0) (h1 : K 1) : Tb w' := by
  have b0 := k.block 0 h0 (by have := h.two; omega)
  have b1 := k.block 1 h1 (by have := h.two; omega)
  exact ⟨fun j hj => (cell_block b1).trans (h.tab j hj), fun s hs => ⟨(cell_block b0).trans (h.rm s hs).1, (cell_block b0).trans (h.rm s hs).2⟩, Nat.le_trans h.two k.size⟩
theorem Tb.below {w w' : World} (h : Tb w) {B : Nat} (k : Below B w w') (hB : 2 ≤ B) : Tb w' := h.kp (Kp.of_below k) (by show 0 < B; omega) (by show 1 < B; omega)

structure KdF (g s : Nat) (f : Nat → Nat) (K : Nat → Prop) (w : World) (x0 x1 x2 x3 : Nat) (v : Value) : Prop where
  kl : ∀ k, K k → k < w.heap.size
  gk : ¬ K g
  vk : ∀ k, v.ownBlock = some k → ¬ K k
  hd : Blk w g 51 [.int .i64 (s : Int), .int .u64 (x0 : Int), .int .u64 (x1 : Int), .int .u64 (x2 : Int), .int .u64 (x3 : Int), v]
  ok : Ok [x0, x1, x2, x3]
  tl : Tells [x0, x1, x2, x3] f
  row : w.ownsRow 0 31 1 v (cntF f) (u32s (hsOf f))
  sz : s ≤ 3
  fl : ∀ b, f b < 4294967296
def Kd (g s : Nat) (f : Nat → Nat) : Shape := fun K w => ∃ x0 x1 x2 x3 v, KdF g s f K w x0 x1 x2 x3 v
theorem Kd.lies (g s : Nat) (f : Nat → Nat) : Lies (Kd g s f) := by
  rintro K w ⟨x0, x1, x2, x3, v, h⟩
  refine ⟨h.kl, fun k => k = g ∨ v.ownBlock = some k, ?_, fun w' K' hs hk => ⟨x0, x1, x2, x3, v, fun k hK => (hk k hK).2, fun hK => (hk g hK).1 (.inl rfl), fun k hv hK => (hk k hK).1 (.inr hv), (hs g (.inl rfl)).trans h.hd, h.ok, h.tl, owns_same h.row (fun k hk => hs k (.inr hk)), h.sz, h.fl⟩⟩
  rintro k (rfl | hv)
  · exact ⟨h.gk, h.hd.lt⟩
  · exact ⟨h.vk k hv, (h.row.lt k hv).2⟩

section
variable {g s : Nat} {f : Nat → Nat} {K : Nat → Prop} {w : World}
theorem KdF.cells {x0 x1 x2 x3 : Nat} {v : Value} (h : KdF g s f K w x0 x1 x2 x3 v) : w.cell? ⟨g, 0, none⟩ = some (.int .i64 (s : Int)) ∧ w.cell? ⟨g, 1, none⟩ = some (.int .u64 (x0 : Int)) ∧ w.cell? ⟨g, 2, none⟩ = some (.int .u64 (x1 : Int)) ∧ w.cell? ⟨g, 3, none⟩ = some (.int .u64 (x2 : Int)) ∧ w.cell? ⟨g, 4, none⟩ = some (.int .u64 (x3 : Int)) ∧ w.cell? ⟨g, 5, none⟩ = some v :=
  ⟨h.hd.cell 0, h.hd.cell 1, h.hd.cell 2, h.hd.cell 3, h.hd.cell 4, h.hd.cell 5⟩

set_option maxHeartbeats 1000000 in
theorem kind_any (h : Kd g s f K w) : Calls Tryd.prog 16 #[.pointer (some ⟨g, 0, none⟩)] w fun r w' => r = .returned (.int .i64 (6 + (s : Int))) ∧ Still w w' := by
  obtain ⟨x0, x1, x2, x3, v, h⟩ := h
  obtain ⟨c0, -, -, -, -, -⟩ := h.cells
  have hs := h.sz
  have e : IntKind.i64.wrap (6 + (s : Int)) = 6 + (s : Int) := by rw [IntKind.wrap_i64]; omega
  clear h
  go_enter Tryd.func16, Tryd.ntmps16
  go_wp2
  go_ret
  exact ⟨rfl, 0, rfl⟩
set_option maxHeartbeats 1000000 in
theorem len_any (h : Kd g s f K w) : Calls Tryd.prog 17 #[.pointer (some ⟨g, 0, none⟩)] w fun r w' => r = .returned (.int .i64 (cntF f : Int)) ∧ w' = w := by
  obtain ⟨x0, x1, x2, x3, v, h⟩ := h
  obtain ⟨a, c, rfl⟩ := owns_slice' h.row
  obtain ⟨-, -, -, -, -, c5⟩ := h.cells
  clear h
  go_enter Tryd.func17, Tryd.ntmps17
  go_wp2
  go_ret
  exact ⟨rfl, rfl⟩
set_option maxHeartbeats 1000000 in
theorem place_any (h : Kd g s f K w) (b : Nat) (hb : b < 256) : Calls Tryd.prog 24 #[.pointer (some ⟨g, 0, none⟩), .int .u8 (b : Int)] w fun r w' => r = .returned (.int .i64 ((loF f b).length : Int)) ∧ Below w.heap.size w w' := by
  obtain ⟨x0, x1, x2, x3, v, h⟩ := h
  obtain ⟨c0, c1, c2, c3, c4, -⟩ := h.cells
  have R := fun w => rank4 (m := [x0, x1, x2, x3]) rfl h.ok (b : Int) (by omega) w
  rw [rank_tells h.ok h.tl b hb] at R
  clear h
  generalize (loF f b).length = k at *
  go_enter Tryd.func24, Tryd.ntmps24
  go_wp2_with (go_at_call 41; refine (R _).mono ?_; rintro e w5 ⟨rfl, f5⟩; have F5 := hide f5; clear f5)
  go_ret
  exact ⟨rfl, F5.out⟩
end
end Go.Proofs.YtmogjhljmljpfaaDoor
