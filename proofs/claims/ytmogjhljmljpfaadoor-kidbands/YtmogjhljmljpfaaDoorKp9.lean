/- New and Put of a node. -/
import Derived.Test.YtmogjhljmljpfaaDoorKe9
namespace Go.Proofs.YtmogjhljmljpfaaDoor
set_option maxRecDepth 20000
open Go.RowKit Go.Sort
set_option linter.unusedVariables false

/-- A node in the midst of a change. -/
structure KdM (g s : Nat) (K : Nat → Prop) (w : World) (x0 x1 x2 x3 : Nat) (v : Value) (n : Nat) (xs : List Nat) : Prop where
  kl : ∀ k, K k → k < w.heap.size
  gk : ¬ K g
  vk : ∀ k, v.ownBlock = some k → ¬ K k
  hd : Blk w g 51 [.int .i64 (s : Int), .int .u64 (x0 : Int), .int .u64 (x1 : Int), .int .u64 (x2 : Int), .int .u64 (x3 : Int), v]
  row : w.ownsRow 0 31 1 v n (u32s xs)
section
variable {g s : Nat} {f : Nat → Nat} {K : Nat → Prop} {w : World} {x0 x1 x2 x3 : Nat} {v : Value}
theorem KdF.mid (h : KdF g s f K w x0 x1 x2 x3 v) : KdM g s K w x0 x1 x2 x3 v (cntF f) (hsOf f) := ⟨h.kl, h.gk, h.vk, h.hd, h.row⟩
theorem KdM.kd {n : Nat} {xs : List Nat} (h : KdM g s K w x0 x1 x2 x3 v n xs) (ok : Ok [x0, x1, x2, x3]) (tl : Tells [x0, x1, x2, x3] f) (hn : n = cntF f) (hx : xs = hsOf f) (sz : s ≤ 3) (fl : ∀ b, f b < 4294967296) : Kd g s f K w :=
  ⟨x0, x1, x2, x3, v, h.kl, h.gk, h.vk, h.hd, ok, tl, by rw [← hn, ← hx]; exact h.row, sz, fl⟩
theorem KdM.below {n : Nat} {xs : List Nat} {w' : World} (h : KdM g s K w x0 x1 x2 x3 v n xs) (b : Below w.heap.size w w') : KdM g s K w' x0 x1 x2 x3 v n xs :=
  ⟨fun k hk => Nat.lt_of_lt_of_le (h.kl k hk) b.size, h.gk, h.vk, h.hd.below b h.hd.lt, owns_same h.row (fun k hk => b.block k (h.row.lt k hk).2)⟩
theorem KdM.cells {n : Nat} {xs : List Nat} (h : KdM g s K w x0 x1 x2 x3 v n xs) : w.cell? ⟨g, 0, none⟩ = some (.int .i64 (s : Int)) ∧ w.cell? ⟨g, 1, none⟩ = some (.int .u64 (x0 : Int)) ∧ w.cell? ⟨g, 2, none⟩ = some (.int .u64 (x1 : Int)) ∧ w.cell? ⟨g, 3, none⟩ = some (.int .u64 (x2 : Int)) ∧ w.cell? ⟨g, 4, none⟩ = some (.int .u64 (x3 : Int)) ∧ w.cell? ⟨g, 5, none⟩ = some v :=
  ⟨h.hd.cell 0, h.hd.cell 1, h.hd.cell 2, h.hd.cell 3, h.hd.cell 4, h.hd.cell 5⟩
/-- Another row of handles. -/
theorem KdM.rowed {n n' : Nat} {xs xs' : List Nat} {w1 w3 : World} {v' : Value} (h : KdM g s K w x0 x1 x2 x3 v n xs) (f1 : Below w.heap.size w w1) (o3 : w3.ownsRow 0 31 1 v' n' (u32s xs')) (g3 : w1.grownBy w3 v.ownBlock) (ho : v'.ownBlock = v.ownBlock ∨ ∃ x, v'.ownBlock = some x ∧ w1.heap.size ≤ x) :
    Blk w3 g 51 [.int .i64 (s : Int), .int .u64 (x0 : Int), .int .u64 (x1 : Int), .int .u64 (x2 : Int), .int .u64 (x3 : Int), v] ∧ KdM g s K (w3.setCell ⟨g, 5, none⟩ v') x0 x1 x2 x3 v' n' xs' ∧ Kp K w (w3.setCell ⟨g, 5, none⟩ v') := by
  have hvg : v.ownBlock ≠ some g := owns_apart h.row h.hd (by decide)
  have hs1 := f1.size
  have hs3 := g3.size
  have hgw := h.hd.lt
  have hg3 : Blk w3 g 51 [.int .i64 (s : Int), .int .u64 (x0 : Int), .int .u64 (x1 : Int), .int .u64 (x2 : Int), .int .u64 (x3 : Int), v] := (g3.block g (by omega) (fun e => hvg e.symm)).trans (h.hd.below f1 hgw)
  have v'g : v'.ownBlock ≠ some g := by
    rcases ho with e | ⟨x, e, hx⟩
    · rw [e]; exact hvg
    · rw [e]; simp; omega
  have other : ∀ x, x ≠ g → (w3.setCell ⟨g, 5, none⟩ v').heap[x]? = w3.heap[x]? := fun x hx => Below.heap_setCell _ ⟨g, 5, none⟩ _ _ hx
  have hsz : (w3.setCell ⟨g, 5, none⟩ v').heap.size = w3.heap.size := by simp [World.setCell]
  refine ⟨hg3, ⟨fun k hk => by rw [hsz]; have := h.kl k hk; omega, h.gk, ?_, hg3.set 5 _, owns_same o3 (fun x hx => other x (fun e => v'g (by rw [← e]; exact hx)))⟩, ?_⟩
  · intro k hk hK
    rcases ho with e | ⟨x, e, hx⟩
    · exact h.vk k (by rw [← e]; exact hk) hK
    · rw [e] at hk
      have : x = k := by simpa using hk
      have := h.kl k hK
      omega
  · exact ⟨by show w3.os = _; rw [g3.os]; exact f1.os, by show w3.tape = _; rw [g3.tape]; exact f1.tape, by show w3.output = _; rw [g3.output]; exact f1.output, by rw [hsz]; omega, fun x hx hl => by
      rw [other x (fun e => h.gk (by rw [← e]; exact hx)), g3.block x (by omega) (fun e => h.vk x e.symm hx)]
      exact f1.block x hl⟩
theorem KdM.masked {n : Nat} {xs : List Nat} (h : KdM g s K w x0 x1 x2 x3 v n xs) (y0 y1 y2 y3 : Nat) :
    KdM g s K ((((w.setCell ⟨g, 1, none⟩ (.int .u64 (y0 : Int))).setCell ⟨g, 2, none⟩ (.int .u64 (y1 : Int))).setCell ⟨g, 3, none⟩ (.int .u64 (y2 : Int))).setCell ⟨g, 4, none⟩ (.int .u64 (y3 : Int))) y0 y1 y2 y3 v n xs ∧
    Kp K w ((((w.setCell ⟨g, 1, none⟩ (.int .u64 (y0 : Int))).setCell ⟨g, 2, none⟩ (.int .u64 (y1 : Int))).setCell ⟨g, 3, none⟩ (.int .u64 (y2 : Int))).setCell ⟨g, 4, none⟩ (.int .u64 (y3 : Int))) := by
  have hvg : v.ownBlock ≠ some g := owns_apart h.row h.hd (by decide)
  have K4 := ((((Kp.refl K w).setCell g 1 (.int .u64 (y0 : Int)) h.gk).setCell g 2 (.int .u64 (y1 : Int)) h.gk).setCell g 3 (.int .u64 (y2 : Int)) h.gk).setCell g 4 (.int .u64 (y3 : Int)) h.gk
  refine ⟨⟨fun k hk => Nat.lt_of_lt_of_le (h.kl k hk) K4.size, h.gk, h.vk, (((h.hd.set 1 _).set 2 _).set 3 _).set 4 _, owns_same h.row (fun x hx => ?_)⟩, K4⟩
  have hne : x ≠ g := fun e => hvg (by rw [← e]; exact hx)
  rw [Below.heap_setCell _ ⟨g, 4, none⟩ _ _ hne, Below.heap_setCell _ ⟨g, 3, none⟩ _ _ hne, Below.heap_setCell _ ⟨g, 2, none⟩ _ _ hne, Below.heap_setCell _ ⟨g, 1, none⟩ _ _ hne]
theorem KdM.sized {n : Nat} {xs : List Nat} (h : KdM g s K w x0 x1 x2 x3 v n xs) (s' : Nat) :
    KdM g s' K (w.setCell ⟨g, 0, none⟩ (.int .i64 (s' : Int))) x0 x1 x2 x3 v n xs ∧ Kp K w (w.setCell ⟨g, 0, none⟩ (.int .i64 (s' : Int))) := by
  have hvg : v.ownBlock ≠ some g := owns_apart h.row h.hd (by decide)
  have K4 := (Kp.refl K w).setCell g 0 (.int .i64 (s' : Int)) h.gk
  refine ⟨⟨fun k hk => Nat.lt_of_lt_of_le (h.kl k hk) K4.size, h.gk, h.vk, h.hd.set 0 _, owns_same h.row (fun x hx => ?_)⟩, K4⟩
  have hne : x ≠ g := fun e => hvg (by rw [← e]; exact hx)
  exact Below.heap_setCell _ ⟨g, 0, none⟩ _ _ hne
theorem KdM.mlen {n : Nat} {xs : List Nat} (h : KdM g s K w x0 x1 x2 x3 v n xs) : Calls Tryd.prog 17 #[.pointer (some ⟨g, 0, none⟩)] w fun r w' => r = .returned (.int .i64 (n : Int)) ∧ w' = w := by
  obtain ⟨a, c, rfl⟩ := owns_slice' h.row
  obtain ⟨-, -, -, -, -, c5⟩ := h.cells
  clear h
  go_enter Tryd.func17, Tryd.ntmps17
  go_wp2
  go_ret
  exact ⟨rfl, rfl⟩

def f0 : Nat → Nat := fun _ => 0
theorem f0_hs : hsOf f0 = [] := by decide
set_option maxHeartbeats 1000000 in
theorem new_any (w : World) : Calls Tryd.prog 8 #[] w fun r w' => ∃ g, r = .returned (.pointer (some ⟨g, 0, none⟩)) ∧ w.heap.size ≤ g ∧ Kd g 0 f0 (fun k => k < w.heap.size) w' ∧ Below w.heap.size w w' := by
  go_enter Tryd.func8, Tryd.ntmps8
  go_wp2
  go_ret
  refine ⟨_, rfl, Nat.le_refl _, ⟨0, 0, 0, 0, .slice none 0 0, fun k hk => by simp; omega, by simp, by simp [Value.ownBlock], Blk.new w _ _ _ rfl, z0_ok, fun b hb => ?_, ⟨by rw [f0_hs]; rfl, .inl ⟨rfl, by unfold cntF; rw [f0_hs]; rfl⟩⟩, by omega, fun _ => by simp [f0]⟩, (Below.refl _ _).alloc (Nat.le_refl _) _⟩
  simp [inM, isC, f0]
  revert b
  decide
end
end Go.Proofs.YtmogjhljmljpfaaDoor
