/- Words for MeterScript: the calls that came in; where the two meters and the call's own copy stand. -/
import Derived.Test.YtkofnjpjfnedpaaAwake3
import Derived.Test.YtkofnjpjfnedpaaOver
namespace Go.Proofs.Ytkofnjpjfnedpaa
open Go.RowKit Go.RwLone
set_option linter.unusedVariables false

/-- A call of a meter. -/
structure Do where
  d : Int
  i : Int
  old : Int
  n : Int
  r : Bool
def Do.cells (x : Do) : List Value := [.int .i64 x.d, .int .i64 x.i, .int .i64 x.old, .int .i64 x.n, .bool x.r]
/-- The calls that came in. -/
def Acts (w : World) (a : Option Addr) (xs : List Do) : Prop :=
  (∀ x ∈ xs, (-9223372036854775808 ≤ x.n ∧ x.n ≤ 9223372036854775807)) ∧
  (xs = [] ∨ ∃ b off, a = some ⟨b, off, none⟩ ∧ ∀ (j : Nat) (x : Do), xs[j]? = some x → ∀ (c : Nat) (v : Value), x.cells[c]? = some v → w.cell? ⟨b, off + j * 5 + c, none⟩ = some v)
theorem Acts.cell {w : World} {a : Option Addr} {xs : List Do} (h : Acts w a xs) (j : Nat) (hj : j < xs.length) :
    ∃ (b off : Nat) (x : Do), a = some ⟨b, off, none⟩ ∧ (-9223372036854775808 ≤ x.n ∧ x.n ≤ 9223372036854775807) ∧ ∀ w' : World, Below w.heap.size w w' → ∀ c v, x.cells[c]? = some v → w'.cell? ⟨b, off + j * 5 + c, none⟩ = some v := by
  rcases h.2 with h0 | ⟨b, off, ha, hc⟩
  · subst h0; simp at hj
  · refine ⟨b, off, xs[j], ha, h.1 _ (List.getElem_mem _), fun w' hw c v hv => ?_⟩
    have h1 := hc j xs[j] (by simp [hj]) c v hv
    have := World.block_lt_of_cell? w _ h1
    rw [hw.cell (p := ⟨b, off + j * 5 + c, none⟩) (by simp at this ⊢; omega)]
    exact h1

/-- The meter at gm, the document's at hr, the call's copy of the act at bx. -/
structure Sit (w : World) (gm hr bx : Nat) (cs ds : List Int) (x : Do) (wx : World) : Prop where
  m : Mt wx gm 0 0 cs
  r : Rt wx hr ds
  b : Blk wx bx 31 x.cells
  f : Below w.heap.size w wx
theorem Sit.drew {w : World} {gm hr bx : Nat} {cs ds : List Int} {x : Do} {wx : World} (h : Sit w gm hr bx cs ds x wx) : Sit w gm hr bx cs ds x wx.drew := ⟨h.m, h.r, h.b, h.f.drew⟩
theorem Sit.turnM {w : World} {gm hr bx : Nat} {cs cs' ds : List Int} {x : Do} {wx wy : World} (h : Sit w gm hr bx cs ds x wx) (hb : Mt wy gm 0 0 cs') (o : Only gm wx wy) (h1 : hr ≠ gm) (h2 : bx ≠ gm) (h3 : w.heap.size ≤ gm) : Sit w gm hr bx cs' ds x wy :=
  ⟨hb, h.r.only o h1, h.b.only o h2, h.f.trans (o.below h3)⟩
theorem Sit.turnR {w : World} {gm hr bx : Nat} {cs ds ds' : List Int} {x : Do} {wx wy : World} (h : Sit w gm hr bx cs ds x wx) (hb : Rt wy hr ds') (o : Only hr wx wy) (h1 : hr ≠ gm) (h2 : bx ≠ hr) (h3 : w.heap.size ≤ hr) : Sit w gm hr bx cs ds' x wy :=
  ⟨h.m.only o h1.symm, hb, h.b.only o h2, h.f.trans (o.below h3)⟩
theorem Sit.turnB {w : World} {gm hr bx : Nat} {cs ds : List Int} {d i old n : Int} {r : Bool} {wx : World} (h : Sit w gm hr bx cs ds ⟨d, i, old, n, r⟩ wx) (v : Int) (h1 : bx ≠ gm) (h2 : bx ≠ hr) (h3 : w.heap.size ≤ bx) : Sit w gm hr bx cs ds ⟨d, i, v, n, r⟩ (wx.setCell ⟨bx, 2, none⟩ (.int .i64 v)) := by
  have o := (Only.refl bx wx).setCell 2 (.int .i64 v)
  exact ⟨h.m.only o h1.symm, h.r.only o h2.symm, h.b.set 2 (.int .i64 v), h.f.trans (o.below h3)⟩
theorem Sit.below {w : World} {gm hr bx : Nat} {cs ds : List Int} {x : Do} {wx wy : World} (h : Sit w gm hr bx cs ds x wx) {B : Nat} (k : Below B wx wy) (h1 : gm < B) (h2 : hr < B) (h3 : bx < B) (h4 : w.heap.size ≤ B) : Sit w gm hr bx cs ds x wy :=
  ⟨h.m.below k h1, h.r.below k h2, h.b.below k h3, h.f.trans (k.mono h4)⟩
theorem Sit.still {w : World} {gm hr bx : Nat} {cs ds : List Int} {x : Do} {wx wy : World} (h : Sit w gm hr bx cs ds x wx) (k : Still wx wy) : Sit w gm hr bx cs ds x wy :=
  ⟨k.blk h.m, k.blk h.r, k.blk h.b, h.f.trans (k.below _)⟩

theorem new_v (w : World) : Calls Try.prog 7 #[] w fun e w' => ∃ g, e = .returned (.pointer (some ⟨g, 0, none⟩)) ∧ g = w.heap.size ∧ Mt w' g 0 0 (List.replicate 12 0) ∧ w'.heap.size = g + 1 ∧ Below w.heap.size w w' := by
  refine (new_any w).mono ?_
  rintro e w' ⟨rfl, rfl⟩
  exact ⟨_, rfl, rfl, Blk.new w _ _ _ rfl, by simp, (Below.refl _ _).alloc (Nat.le_refl _) _⟩
theorem all_v (g : Nat) (cs : List Int) (w : World) (hb : Mt w g 0 0 cs) (hl : cs.length = 12) :
    Calls Try.prog 16 #[.pointer (some ⟨g, 0, none⟩)] w fun e w' => ∃ q, e = .returned (.slice (some ⟨q, 0, none⟩) 12 12) ∧ Blk w' q 2 (i64s cs) ∧ Below w.heap.size w w' ∧ q = w.heap.size := by
  refine (all_any g cs w hb hl).mono ?_
  rintro e w' ⟨rfl, h1, h2⟩
  exact ⟨_, rfl, h1, h2, rfl⟩
theorem mostIs_rng {cs : List Int} (h : Rng cs) (k : Nat) (hk : k < cs.length) {n : Int} (hn : -9223372036854775808 ≤ n ∧ n ≤ 9223372036854775807) : -9223372036854775808 ≤ mostIs cs k n ∧ mostIs cs k n ≤ 9223372036854775807 := by
  unfold mostIs
  split
  · exact h.at k hk
  · exact hn
theorem swapped_rng {cs : List Int} (h : Rng cs) (k : Nat) (old : Int) {n : Int} (hn : -9223372036854775808 ≤ n ∧ n ≤ 9223372036854775807) : Rng (swapped cs k old n) := by
  unfold swapped
  split
  · exact h.set k n hn
  · exact h
theorem swapped_length (cs : List Int) (k : Nat) (old n : Int) : (swapped cs k old n).length = cs.length := by
  unfold swapped
  split <;> simp
/-- Behind Reset: the document's meter is a new one. -/
theorem Sit.fresh {w : World} {gm hr bx : Nat} {cs ds : List Int} {x : Do} {wx : World} (h : Sit w gm hr bx cs ds x wx) : Sit w gm wx.heap.size bx cs (List.replicate 12 0) x (wx.alloc (.cells (i64s (List.replicate 12 0)).toArray 29 (0, 0))) :=
  ⟨h.m.alloc _, Blk.new _ _ _ _ rfl, h.b.alloc _, h.f.alloc h.f.size _⟩
theorem zeros_rng : Rng (List.replicate 12 0) := by
  intro x hx
  have := List.eq_of_mem_replicate hx
  omega
end Go.Proofs.Ytkofnjpjfnedpaa
