/- The acts that came in; where all stands in a round of ArenaScript. -/
import Derived.Test.YtjbpffeembepcaaPair5
import Derived.Test.YtjbpffeembepcaaAwake5
namespace Go.Proofs.Ytjbpffeembepcaa
open Go.RowKit
set_option linter.unusedVariables false

/-- A call of an arena. -/
structure Do5 where
  d : Int
  i : Int
  h : Nat
  a : Option Addr
  cap : Nat
  ws : List Int
def Do5.cells (x : Do5) : List Value := [.int .i64 x.d, .int .i64 x.i, .int .u32 (x.h : Int), .slice x.a x.ws.length x.cap]
def Acts5 (w : World) (a : Option Addr) (xs : List Do5) : Prop :=
  (∀ x ∈ xs, x.h < 4294967296 ∧ Wd (fun k => k < w.heap.size) w x.a x.ws) ∧
  (xs = [] ∨ ∃ b off, a = some ⟨b, off, none⟩ ∧ ∀ (j : Nat) (x : Do5), xs[j]? = some x → ∀ (c : Nat) (v : Value), x.cells[c]? = some v → w.cell? ⟨b, off + j * 4 + c, none⟩ = some v)
theorem Acts5.cell {w : World} {a : Option Addr} {xs : List Do5} (h : Acts5 w a xs) (j : Nat) (hj : j < xs.length) :
    ∃ (b off : Nat) (x : Do5), a = some ⟨b, off, none⟩ ∧ x.h < 4294967296 ∧ (∀ w', Kp (fun k => k < w.heap.size) w w' → Wd (fun k => k < w.heap.size) w' x.a x.ws) ∧ ∀ w' : World, Kp (fun k => k < w.heap.size) w w' → ∀ c v, x.cells[c]? = some v → w'.cell? ⟨b, off + j * 4 + c, none⟩ = some v := by
  rcases h.2 with h0 | ⟨b, off, ha, hc⟩
  · subst h0; simp at hj
  · obtain ⟨h1, h2⟩ := h.1 xs[j] (List.getElem_mem _)
    refine ⟨b, off, xs[j], ha, h1, fun w' hw => h2.kp hw, fun w' hw c v hv => ?_⟩
    have h1 := hc j xs[j] (by simp [hj]) c v hv
    have hb := World.block_lt_of_cell? w _ h1
    rw [World.cell?_of_block (w := w) (w' := w') (a := ⟨b, off + j * 4 + c, none⟩) (hw.block b hb hb)]
    exact h1
/-- Where all stands: both arenas, the call's own copy of the act at bx. -/
structure Sit5 (w : World) (X : Nat → Prop) (ga gr bx : Nat) (most : Int) (x : Do5) (cs : Cells) (back : List Nat) (cs' : Cells) (back' : List Nat) (W : World) : Prop where
  p : Pair X W ga gr most cs back cs' back'
  b : Blk W bx 31 x.cells
  hx : X bx
  k : Kp (fun k => k < w.heap.size) w W
  low : ∀ k, k < w.heap.size → X k
section
variable {w : World} {X : Nat → Prop} {ga gr bx : Nat} {most : Int} {x : Do5} {cs cs' cs2 cs2' : Cells} {back back' back2 back2' : List Nat} {W W' : World}
theorem Sit5.turn (h : Sit5 w X ga gr bx most x cs back cs' back' W) (p : Pair X W' ga gr most cs2 back2 cs2' back2') (k : Kp X W W') : Sit5 w X ga gr bx most x cs2 back2 cs2' back2' W' :=
  ⟨p, h.b.kp k h.hx, h.hx, h.k.trans (k.mono h.low), h.low⟩
theorem Sit5.still (h : Sit5 w X ga gr bx most x cs back cs' back' W) (s : Still W W') : Sit5 w X ga gr bx most x cs back cs' back' W' := h.turn (h.p.still s) (s.kp X)
theorem Sit5.drew (h : Sit5 w X ga gr bx most x cs back cs' back' W) : Sit5 w X ga gr bx most x cs back cs' back' W.drew := h.still ⟨1, rfl⟩
theorem Sit5.below (h : Sit5 w X ga gr bx most x cs back cs' back' W) (f : Below W.heap.size W W') : Sit5 w X ga gr bx most x cs back cs' back' W' :=
  h.turn (h.p.below f) ⟨f.os, f.tape, f.output, f.size, fun k hk hl => f.block k hl⟩
theorem Sit5.wd (h : Sit5 w X ga gr bx most x cs back cs' back' W) (d : ∀ w', Kp (fun k => k < w.heap.size) w w' → Wd (fun k => k < w.heap.size) w' x.a x.ws) : Wd X W x.a x.ws := (d W h.k).up h.low
theorem Sit5.more (h : Sit5 w X ga gr bx most x cs back cs' back' W) (f : Below W.heap.size W W') : Sit5 w (fun k => X k ∨ W.heap.size ≤ k ∧ k < W'.heap.size) ga gr bx most x cs back cs' back' W' :=
  ⟨h.p.more f, h.b.below f h.b.lt, .inl h.hx, h.k.trans ⟨f.os, f.tape, f.output, f.size, fun k hk hl => f.block k hl⟩, fun k hk => .inl (h.low k hk)⟩
/-- What is kept beside X is written over, and let go. -/
theorem Sit5.over {X' : Nat → Prop} {row : Option Nat} (h : Sit5 w X' ga gr bx most x cs back cs' back' W) (hle : ∀ k, X k → X' k) (g : W.grownBy W' row) (hr : ∀ k, row = some k → X' k ∧ ¬ X k) (hb : X bx) (hl : ∀ k, k < w.heap.size → X k) : Sit5 w X ga gr bx most x cs back cs' back' W' := by
  have sm : ∀ k, X k → k < W.heap.size → W'.heap[k]? = W.heap[k]? := fun k hk hlt => g.block k hlt (fun e => (hr k e.symm).2 hk)
  exact ⟨(h.p.grown g (fun k hk => (hr k hk).1)).less hle, (sm bx hb h.b.lt).trans h.b, hb, h.k.trans ⟨g.os, g.tape, g.output, g.size, fun k hk hlt => sm k (hl k hk) hlt⟩, hl⟩
theorem Sit5.lt (h : Sit5 w X ga gr bx most x cs back cs' back' W) : ∀ k, X k → k < W.heap.size := by
  obtain ⟨_, _, _, _, h3, _⟩ := h.p
  exact h3
end
theorem wd_own {K : Nat → Prop} {base : Nat} {w : World} {a : Option Addr} {cap : Nat} {ws : List Int} (h : w.ownsRow base 32 1 (.slice a ws.length cap) ws.length (u64s ws)) (hk : ∀ k, Value.ownBlock (.slice a ws.length cap) = some k → K k) : Wd K w a ws := by
  by_cases h0 : ws.length = 0
  · exact .inl (List.eq_nil_of_length_eq_zero h0)
  · obtain ⟨g, cap', e⟩ := owns_slice h (by omega)
    simp only [Value.slice.injEq] at e
    obtain ⟨rfl, -, rfl⟩ := e
    refine .inr ⟨g, 0, rfl, hk g rfl, fun j hj => ?_⟩
    rw [Nat.zero_add]
    exact (h.cellAt j (by omega)).trans (u64s_get ws j hj)
theorem owns_zero {w : World} {base : Nat} {e : TypeId} {size : Nat} {v : Value} {n : Nat} {xs : List Value} (h : w.ownsRow base e size v n xs) : w.ownsRow 0 e size v n xs := by
  refine ⟨h.1, ?_⟩
  rcases h.2 with hn | ⟨g, cap, cur, rfl, hg, rest⟩
  · exact .inl hn
  · exact .inr ⟨g, cap, cur, rfl, Nat.zero_le _, rest⟩
end Go.Proofs.Ytjbpffeembepcaa
