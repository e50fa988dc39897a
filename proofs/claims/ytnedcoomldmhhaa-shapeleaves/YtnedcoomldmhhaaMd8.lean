/- Pairs that are answered: copies of their own; Select, Floor, Ceil. -/
import Derived.Test.YtnedcoomldmhhaaMd7
import Derived.Laws.Rows
namespace Go.Proofs.Ytnedcoomldmhhaa
set_option maxRecDepth 20000
open Go.RowKit Go.Sort
set_option linter.unusedVariables false

/-- A pair in a box of its own. -/
def boxP (a : Option Addr) (n c : Nat) (v : Int) : Obj := .cells #[.slice a n c, .int .u64 v] 47 (0, 0)

theorem size_pair : (Try.prog.info? 47).map (·.size) = some 2 := by kernel_rfl
/-- A pair that is answered, out of its box. -/
theorem results_pair {fn : Func} {p : Tmp} (h : fn.results = #[.cell p 47]) (tmps : Array Value) (w : World) (g : Nat) (x y : Value) (hp : tmps.getD p undef = .pointer (some ⟨g, 0, none⟩)) (hg : Blk w g 47 [x, y]) :
    (results fn tmps).run Try.prog w = .ok (.agg #[x, y]) w :=
  results_cell_row h tmps w g _ #[x, y] _ _ hp hg Try.underlying47 rfl size_pair
theorem results_pair2 {fn : Func} {p u : Tmp} (h : fn.results = #[.cell p 47, .tmp u]) (tmps : Array Value) (w : World) (g : Nat) (x y : Value) (hp : tmps.getD p undef = .pointer (some ⟨g, 0, none⟩)) (hg : Blk w g 47 [x, y]) :
    (results fn tmps).run Try.prog w = .ok (.tuple #[.agg #[x, y], tmps.getD u undef]) w := by
  have hp' : tmps[p]?.getD undef = .pointer (some ⟨g, 0, none⟩) := by simpa using hp
  have hr := run_loadVar_row (P := Try.prog) w g _ 47 #[x, y] _ _ hg Try.underlying47 rfl size_pair
  simp [results, h, hp', asAddr, hr]
theorem Blk.pair {w : World} {g : Nat} {x y x' y' : Value} (h : Blk w g 47 [x, y]) : Blk ((w.setCell ⟨g, 0, none⟩ x').setCell ⟨g, 1, none⟩ y') g 47 [x', y'] := (h.set 0 x').set 1 y'

set_option maxHeartbeats 1000000 in
theorem copied_any (e : Ent) (w : World) (he : Rd w e.a e.k) (hl : e.k.length ≤ 1000000) :
    Calls Try.prog 50 #[.agg #[.slice e.a e.k.length e.c, .int .u64 e.v]] w fun r w' => ∃ g, w.heap.size ≤ g ∧ r = .returned (.agg #[.slice (some ⟨g, 0, none⟩) e.k.length e.k.length, .int .u64 e.v]) ∧ Blk w' g 5 (u8s e.k) ∧ Below w.heap.size w w' := by
  obtain ⟨ea, ec, ek, ev⟩ := e
  simp only at he hl ⊢
  have f0 : Below w.heap.size w ((w.alloc (boxP ea ek.length ec ev)).alloc (boxP none 0 0 0)) := ((Below.refl _ w).alloc (Nat.le_refl _) _).alloc (by simp) _
  have x0 : Blk ((w.alloc (boxP ea ek.length ec ev)).alloc (boxP none 0 0 0)) w.heap.size 47 [.slice ea ek.length ec, .int .u64 ev] := (Blk.new w _ _ _ rfl).alloc _
  have x1 : Blk ((w.alloc (boxP ea ek.length ec ev)).alloc (boxP none 0 0 0)) (w.heap.size + 1) 47 [.slice none 0 0, .int .u64 0] := by
    have h := Blk.new (w.alloc (boxP ea ek.length ec ev)) 47 [.slice none 0 0, .int .u64 0] _ rfl
    rwa [show (w.alloc (boxP ea ek.length ec ev)).heap.size = w.heap.size + 1 by simp] at h
  have hs0 : ((w.alloc (boxP ea ek.length ec ev)).alloc (boxP none 0 0 0)).heap.size = w.heap.size + 1 + 1 := by simp
  have h0 := he.below f0 (Nat.le_refl _)
  have c0 := x0.cell 0
  unfold boxP at f0 x0 x1 hs0 h0 c0
  generalize hw0 : ((w.alloc (.cells #[.slice ea ek.length ec, .int .u64 ev] 47 (0, 0))).alloc (.cells #[.slice none 0 0, .int .u64 0] 47 (0, 0))) = w0 at f0 x0 x1 hs0 h0 c0
  obtain ⟨w1, r1, b1, f1, s1⟩ := make_u8 w0 .i64 .i64 ek.length ek.length ek.length ek.length rfl rfl (Nat.le_refl _) (by omega)
  have h1 := h0.below f1 (Nat.le_refl _)
  obtain ⟨w2, r2, b2, g2, s2⟩ := run_copy_rd (P := Try.prog) 38 38 3 5 5 Try.underlying38 size_u8 w0.heap.size _ b1 ek.length ek.length (by simp) h1 ec
  have e2 : u8s (ek.take ek.length) ++ (List.replicate ek.length (Value.int .u8 0)).drop (ek.take ek.length).length = u8s ek := by simp
  rw [e2] at b2
  have y0 := x0.below f1 (by omega)
  have y1 := x1.below f1 (by omega)
  have z0 : Blk w2 w.heap.size 47 [.slice ea ek.length ec, .int .u64 ev] := (g2.block _ (by omega) (by simp; omega)).trans y0
  have z1 : Blk w2 (w.heap.size + 1) 47 [.slice none 0 0, .int .u64 0] := (g2.block _ (by omega) (by simp; omega)).trans y1
  have k0 := y0.cell 0
  have k1 := z0.cell 1
  have k2 := z1.cell 0
  have k3 := z1.cell 1
  have k4 := z1.frozen 0
  have k5 := z1.frozen 1
  have F2 : Hid (Below w.heap.size w w2) := by
    have h := (f0.trans (f1.mono (by omega)))
    exact h.grown g2 (by have := h.size; omega) (fun k hk => by cases hk; omega)
  have B2 := hide b2
  have S2 := hide hs0
  simp only [Nat.min_self] at r2
  rw [hs0] at r1 r2 B2
  simp only [List.getElem?_cons_zero, List.getElem?_cons_succ] at c0 k0 k1 k2 k3
  clear he h0 h1 b1 b2 f0 f1 g2 e2 s1 s2 hs0 x0 x1 y0 y1 z0
  go_enter Try.func50, Try.ntmps50
  have Z1 := hide z1
  clear z1
  go_wp2_with fail
  have hb := Z1.out.pair (x' := .slice (some ⟨w.heap.size + 1 + 1, 0, none⟩) ek.length ek.length) (y' := .int .u64 ev)
  refine bodyPost_ret (results_pair rfl _ _ (w.heap.size + 1) _ _ rfl hb) rfl ?_
  refine ⟨w.heap.size + 1 + 1, by omega, rfl, ?_, ?_⟩
  · exact (Below.heap_setCell _ ⟨w.heap.size + 1, 1, none⟩ _ _ (by show _ ≠ w.heap.size + 1; omega)).trans ((Below.heap_setCell _ ⟨w.heap.size + 1, 0, none⟩ _ _ (by show _ ≠ w.heap.size + 1; omega)).trans B2.out)
  · exact (F2.out.setCell (by show _ ≤ w.heap.size + 1; omega) _).setCell (by show _ ≤ w.heap.size + 1; omega) _
/-- A pair that is answered, its key in memory of its own. -/
def Ans (w w' : World) (o : Option KV) (r : Ending) : Prop := ∃ a c, r = .returned (.tuple #[.agg #[.slice a (keyO o).length c, .int .u64 (valO o)], .bool o.isSome]) ∧
  w'.ownsRow w.heap.size 5 1 (.slice a (keyO o).length c) (keyO o).length (u8s (keyO o)) ∧ IsBytes (keyO o) ∧ Below w.heap.size w w'
theorem Ans.later {w w1 w' : World} {o : Option KV} {r : Ending} (h : Ans w1 w' o r) (f : Below w.heap.size w w1) : Ans w w' o r := by
  obtain ⟨a, c, e, ho, hb, f2⟩ := h
  refine ⟨a, c, e, ⟨ho.1, ?_⟩, hb, f.trans (f2.mono f.size)⟩
  rcases ho.2 with h | ⟨g, cap, cur, h1, h2, h3⟩
  · exact .inl h
  · exact .inr ⟨g, cap, cur, h1, by have := f.size; omega, h3⟩
theorem ans_none (w w' : World) (f : Below w.heap.size w w') : Ans w w' none (.returned (.tuple #[.agg #[.slice none 0 0, .int .u64 0], .bool false])) :=
  ⟨none, 0, rfl, World.ownsRow_nil _ _ _ _, by intro x hx; simp [keyO] at hx, f⟩

/-- An answer that passes through the box of the result. -/
theorem ans_box {w w1 w2 : World} {o : Option KV} {a : Option Addr} {c : Nat} {kk : List Int} {vv : Int} {bb : Bool} (X Y : Value) (hk : keyO o = kk) (hv : valO o = vv) (hbb : o.isSome = bb)
    (ho : w2.ownsRow w1.heap.size 5 1 (.slice a kk.length c) kk.length (u8s kk)) (hb : IsBytes kk) (f2 : Below w.heap.size w w2) (fs : w.heap.size < w1.heap.size) :
    Ans w ((w2.setCell ⟨w.heap.size, 0, none⟩ X).setCell ⟨w.heap.size, 1, none⟩ Y) o (.returned (.tuple #[.agg #[.slice a kk.length c, .int .u64 vv], .bool bb])) := by
  subst hk hv hbb
  refine ⟨a, c, rfl, ?_, hb, (f2.setCell (by show _ ≤ w.heap.size; omega) _).setCell (by show _ ≤ w.heap.size; omega) _⟩
  have h : ((w2.setCell ⟨w.heap.size, 0, none⟩ X).setCell ⟨w.heap.size, 1, none⟩ Y).ownsRow w1.heap.size 5 1 (.slice a (keyO o).length c) (keyO o).length (u8s (keyO o)) := by
    refine owns_same ho (fun k hk => ?_)
    have := (ho.lt k hk).1
    exact (Below.heap_setCell _ ⟨w.heap.size, 1, none⟩ _ _ (by show k ≠ w.heap.size; omega)).trans (Below.heap_setCell _ ⟨w.heap.size, 0, none⟩ _ _ (by show k ≠ w.heap.size; omega))
  refine ⟨h.1, ?_⟩
  rcases h.2 with h | ⟨g, cap, cur, h1, h2, h3⟩
  · exact .inl h
  · exact .inr ⟨g, cap, cur, h1, by omega, h3⟩

end Go.Proofs.Ytnedcoomldmhhaa
