/- shape.lay. -/
import Derived.Test.YtnedcoomldmhhaaCl13
import Derived.Lib.QuietBelow
namespace Go.Proofs.Ytnedcoomldmhhaa
set_option maxRecDepth 20000
open Go.RowKit Go.Sort
set_option linter.unusedVariables false
set_option linter.unusedSimpArgs false

theorem info_spot' : (Try.prog.info? 67).map (fun i => (i.zero, i.size, i.bytes)) = some (some (.agg #[.int .i64 0, .int .i64 0, .int .i64 0, .int .i64 0]), 4, 32) := by kernel_rfl
theorem info_spot : ∃ i, Try.prog.info? 67 = some i ∧ i.zero = some (.agg #[.int .i64 0, .int .i64 0, .int .i64 0, .int .i64 0]) ∧ i.size = 4 ∧ i.bytes = 32 := info_of info_spot'
theorem made_spots (n : Nat) : (madeCells #[.int .i64 0, .int .i64 0, .int .i64 0, .int .i64 0] (n * 4)).toList = (List.replicate n sp0).flatMap Sp.vals := by
  apply List.ext_getElem?
  intro j
  by_cases hj : j < n * 4
  · have h2 := flatG Sp.vals 4 (List.replicate n sp0) (fun a _ => rfl) (j / 4) (j % 4) (by omega)
    rw [show j / 4 * 4 + j % 4 = j by omega] at h2
    rw [h2, List.getElem?_replicate, if_pos (by omega)]
    have h3 : j % 4 = 0 ∨ j % 4 = 1 ∨ j % 4 = 2 ∨ j % 4 = 3 := by omega
    rcases h3 with h3 | h3 | h3 | h3 <;> simp [madeCells, hj, h3, sp0, Sp.vals]
  · rw [List.getElem?_eq_none (by simp [madeCells]; omega), List.getElem?_eq_none (by rw [flatL Sp.vals 4 _ (fun a _ => rfl)]; simp; omega)]
theorem make_spots (w : World) (kl kc : IntKind) (l c : Int) (n : Nat) (hl : l = n) (hc : c = n) (hb : n ≤ 100000000) :
    ∃ w', (Instr.makeSlice 59 (.int kl l) (.int kc c)).run Try.prog w = .ok (.slice (some ⟨w.heap.size, 0, none⟩) n n) w' ∧
      Sps w' w.heap.size (List.replicate n sp0) ∧ Below w.heap.size w w' ∧ w'.heap.size = w.heap.size + 1 := by
  obtain ⟨i, h1, h2, h3, h4⟩ := info_spot
  subst hl hc
  have hr := run_make (P := Try.prog) w 59 67 i _ Try.underlying59 h1 h2 kl kc n n (by omega) (by omega) (by rw [h4]; omega) (by omega)
  simp only [Int.toNat_natCast, h3] at hr
  refine ⟨_, hr, ?_, (Below.refl _ _).alloc (Nat.le_refl _) _, by simp⟩
  unfold Sps Blk
  rw [heap_alloc_new]
  have := made_spots n
  rw [← this]
  rfl
theorem info_int : ∃ i, Try.prog.info? 3 = some i ∧ i.zero = some (.int .i64 0) ∧ i.size = 1 ∧ i.bytes = 8 := by
  have h : (Try.prog.info? 3).map (fun i => (i.zero, i.size, i.bytes)) = some (some (.int .i64 0), 1, 8) := by kernel_rfl
  exact info_of h
/-- Numbers that lie in a block of their own. -/
def Nums (w : World) (g n : Nat) (f : Nat → Int) : Prop := Blk w g 3 ((List.range n).map fun j => .int .i64 (f j))
theorem make_ints (w : World) (kl kc : IntKind) (l c : Int) (n : Nat) (hl : l = n) (hc : c = n) (hb : n ≤ 100000000) :
    ∃ w', (Instr.makeSlice 77 (.int kl l) (.int kc c)).run Try.prog w = .ok (.slice (some ⟨w.heap.size, 0, none⟩) n n) w' ∧
      Nums w' w.heap.size n (fun _ => 0) ∧ Below w.heap.size w w' ∧ w'.heap.size = w.heap.size + 1 := by
  obtain ⟨i, h1, h2, h3, h4⟩ := info_int
  obtain ⟨w', r, b, f, s⟩ := run_make_blk (P := Try.prog) (w := w) 77 3 i _ Try.underlying77 h1 h2 h3 rfl kl kc l c n n hl hc (Nat.le_refl _) (by rw [h4]; omega) (by unfold maxLen; omega)
  refine ⟨w', r, ?_, f, s⟩
  unfold Nums
  have e : (List.range n).map (fun _ => Value.int .i64 0) = List.replicate n (.int .i64 0) := by
    rw [List.map_const', List.length_range]
  rw [e]
  exact b
theorem Nums.cell {w : World} {g n : Nat} {f : Nat → Int} (h : Nums w g n f) {j : Nat} (hj : j < n) : w.cell? ⟨g, j, none⟩ = some (.int .i64 (f j)) := by
  rw [Blk.cell h]
  simp [hj]
theorem Nums.set {w : World} {g n : Nat} {f : Nat → Int} (h : Nums w g n f) (j : Nat) (hj : j < n) (x : Int) : Nums (w.setCell ⟨g, j, none⟩ (.int .i64 x)) g n (fun i => if i = j then x else f i) := by
  have := Blk.set h j (.int .i64 x)
  unfold Nums
  have e : (List.range n).map (fun i => Value.int .i64 (if i = j then x else f i)) = ((List.range n).map (fun i => Value.int .i64 (f i))).set j (.int .i64 x) := by
    refine List.ext_getElem? fun p => ?_
    rw [List.getElem?_set]
    by_cases hp : p < n
    · by_cases hpj : j = p
      · subst hpj; simp [hj]
      · have : ¬ p = j := fun e => hpj e.symm
        simp [hp, hpj, this]
    · by_cases hpj : j = p
      · omega
      · simp [hp, hpj]
  rw [e]
  exact this
theorem Sps.put {w : World} {g : Nat} {ss : List Sp} (h : Sps w g ss) (i : Nat) (s : Sp) (hi : i < ss.length) :
    Sps ((((w.setCell ⟨g, i * 4, none⟩ (.int .i64 s.over)).setCell ⟨g, i * 4 + 1, none⟩ (.int .i64 s.nth)).setCell ⟨g, i * 4 + 2, none⟩ (.int .i64 s.before)).setCell ⟨g, i * 4 + 3, none⟩ (.int .i64 s.deep)) g (ss.set i s) := by
  unfold Sps at *
  rw [← set4 ss i s hi]
  exact (((h.set _ _).set _ _).set _ _).set _ _
def opV (op : List Nat) : List Value := op.reverse.map (fun o : Nat => Value.int .i64 (o : Int))

theorem Blk.other {w : World} {g p o : Nat} {e : TypeId} {cur : List Value} {v : Value} (h : Blk w g e cur) (hne : g ≠ p) : Blk (w.setCell ⟨p, o, none⟩ v) g e cur := (Below.heap_setCell w ⟨p, o, none⟩ v g hne).trans h
theorem owns_other {w : World} {base p o : Nat} {e : TypeId} {size n : Nat} {v u : Value} {xs : List Value} (h : w.ownsRow base e size v n xs) (hne : v.ownBlock ≠ some p) : (w.setCell ⟨p, o, none⟩ u).ownsRow base e size v n xs :=
  owns_same h (fun k hk => Below.heap_setCell w ⟨p, o, none⟩ u k (fun e => hne (by rw [hk]; exact congrArg some e)))
theorem opV_cons (i : Nat) (op : List Nat) : opV (i :: op) = opV op ++ [.int .i64 i] := by simp [opV]
theorem opV_length (op : List Nat) : (opV op).length = op.length := by simp [opV]
theorem owns_pop {w : World} {base : Nat} {e : TypeId} {a : Option Addr} {c : Nat} {xs : List Value} {y : Value} {n m : Nat} (h : w.ownsRow base e 1 (.slice a m c) m (xs ++ [y])) (hn : n = xs.length) : w.ownsRow base e 1 (.slice a n c) n xs := by
  subst hn
  have hl := h.1
  simp at hl
  subst hl
  rcases h.2 with ⟨h0, h1⟩ | ⟨g, cap, cur, hv, h1, h2, h3, h4, h5, h6⟩
  · omega
  · refine ⟨by simp, .inr ⟨g, cap, cur, ?_, h1, h2, by omega, h4, h5, ?_⟩⟩
    · simp at hv
      obtain ⟨rfl, rfl⟩ := hv
      rfl
    · have := congrArg (fun l => List.take xs.length l) h6
      simp only [Nat.mul_one, List.take_take, List.take_left'] at this
      rw [Nat.min_eq_left (by omega)] at this
      rw [Nat.mul_one]
      exact this
theorem append_int (w : World) (B : Nat) (v : Value) (xs : List Value) (n : Nat) (x : Int) (ow : w.ownsRow B 3 1 v n xs) (hl : xs.length ≤ 1048576) (hB : B ≤ w.heap.size) :
    ∃ a cap w', (Builtin.append_ #[77, 77] 77 #[v, .slice (some ⟨w.heap.size, 0, none⟩) 1 1]).run Try.prog (w.alloc (.cells #[.int .i64 x] 3)) = .ok (.slice a (n + 1) cap) w' ∧
      w'.ownsRow B 3 1 (.slice a (n + 1) cap) (n + 1) (xs ++ [.int .i64 x]) ∧ (w.alloc (.cells #[.int .i64 x] 3)).grownBy w' v.ownBlock := by
  obtain ⟨i, i1, i2, i3, i4⟩ := info_int
  have hn : xs.length = n := by simpa using ow.1
  obtain ⟨v', w', r, o, gr, hv⟩ := append_lit (P := Try.prog) w B 77 3 i _ 1 8 Try.underlying77 i1 i2 i3 i4 rfl (by omega) v _ _ ow [.int .i64 x] rfl (by
    intro u hu
    simp at hu
    subst hu
    rfl) (by omega) (by omega) hB
  have o1 : w'.ownsRow B 3 1 v' (n + 1) (xs ++ [.int .i64 x]) := by simpa using o
  have hv' : ∃ a cap, v' = .slice a (n + 1) cap := by
    rcases o1.2 with ⟨h0, h1⟩ | ⟨g, cap, cur, hv, _⟩
    · omega
    · exact ⟨_, _, hv⟩
  obtain ⟨a, cap, rfl⟩ := hv'
  exact ⟨a, cap, w', by simpa using r, o1, gr⟩

/-- A round of lay: what lies where. -/
structure LayM (w wr : World) (a : Option Addr) (n k : Nat) (ss : List Sp) (la : Nat → Int) (op : List Nat) (xa : Option Addr) (xc : Nat) : Prop where
  F : Below w.heap.size w wr
  X : Blk wr w.heap.size 61 [.slice none 0 0, .slice none 0 0]
  B : Sps wr (w.heap.size + 1) ss
  T : Blk wr (w.heap.size + 1 + 1) 61 [.slice a n k, .slice (some ⟨w.heap.size + 1, 0, none⟩) n n]
  L : Nums wr (w.heap.size + 1 + 1 + 1) n la
  O : wr.ownsRow (w.heap.size + 1 + 1 + 1 + 1) 3 1 (.slice xa op.length xc) op.length (opV op)
theorem LayM.below {w wr w' : World} {a : Option Addr} {n k : Nat} {ss : List Sp} {la : Nat → Int} {op : List Nat} {xa : Option Addr} {xc : Nat} (h : LayM w wr a n k ss la op xa xc) (f : Below wr.heap.size wr w') : LayM w w' a n k ss la op xa xc :=
  ⟨h.F.trans (f.mono h.F.size), h.X.below f h.X.lt, Blk.below h.B f (Blk.lt h.B), h.T.below f h.T.lt, Blk.below h.L f (Blk.lt h.L), h.O.below f (Nat.le_refl _)⟩
theorem LayM.setLast {w wr : World} {a : Option Addr} {n k : Nat} {ss : List Sp} {la : Nat → Int} {op : List Nat} {xa : Option Addr} {xc : Nat} (h : LayM w wr a n k ss la op xa xc) (j : Nat) (x : Int) (hj : j < n) :
    LayM w (wr.setCell ⟨w.heap.size + 1 + 1 + 1, j, none⟩ (.int .i64 x)) a n k ss (fun i => if i = j then x else la i) op xa xc :=
  ⟨h.F.setCell (by show _ ≤ w.heap.size + 1 + 1 + 1; omega) _, h.X.other (by omega), Blk.other h.B (by omega), h.T.other (by omega), h.L.set j hj x, owns_other h.O (fun e => by have := (h.O.lt _ e).1; omega)⟩
theorem LayM.setSpot {w wr : World} {a : Option Addr} {n k : Nat} {ss : List Sp} {la : Nat → Int} {op : List Nat} {xa : Option Addr} {xc : Nat} (h : LayM w wr a n k ss la op xa xc) (i : Nat) (s : Sp) (hi : i < ss.length) :
    LayM w ((((wr.setCell ⟨w.heap.size + 1, i * 4, none⟩ (.int .i64 s.over)).setCell ⟨w.heap.size + 1, i * 4 + 1, none⟩ (.int .i64 s.nth)).setCell ⟨w.heap.size + 1, i * 4 + 2, none⟩ (.int .i64 s.before)).setCell ⟨w.heap.size + 1, i * 4 + 3, none⟩ (.int .i64 s.deep)) a n k (ss.set i s) la op xa xc := by
  have ho : (Value.slice xa op.length xc).ownBlock ≠ some (w.heap.size + 1) := fun e => by have := (h.O.lt _ e).1; omega
  exact ⟨(((h.F.setCell (by show _ ≤ w.heap.size + 1; omega) _).setCell (by show _ ≤ w.heap.size + 1; omega) _).setCell (by show _ ≤ w.heap.size + 1; omega) _).setCell (by show _ ≤ w.heap.size + 1; omega) _,
    (((h.X.other (by omega)).other (by omega)).other (by omega)).other (by omega), h.B.put i s hi, (((h.T.other (by omega)).other (by omega)).other (by omega)).other (by omega), Blk.other (Blk.other (Blk.other (Blk.other h.L (by omega)) (by omega)) (by omega)) (by omega),
    owns_other (owns_other (owns_other (owns_other h.O ho) ho) ho) ho⟩
theorem LayM.pop {w wr : World} {a : Option Addr} {n k : Nat} {ss : List Sp} {la : Nat → Int} {o : Nat} {rest : List Nat} {xa : Option Addr} {xc : Nat} (h : LayM w wr a n k ss la (o :: rest) xa xc) : LayM w wr a n k ss la rest xa xc :=
  ⟨h.F, h.X, h.B, h.T, h.L, by
    have := h.O
    rw [opV_cons] at this
    exact owns_pop this (opV_length rest).symm⟩
theorem LayM.push {w wr w' : World} {a : Option Addr} {n k : Nat} {ss : List Sp} {la : Nat → Int} {op : List Nat} {xa xa' : Option Addr} {xc xc' : Nat} (h : LayM w wr a n k ss la op xa xc) (i : Nat)
    (o : w'.ownsRow (w.heap.size + 1 + 1 + 1 + 1) 3 1 (.slice xa' (op.length + 1) xc') (op.length + 1) (opV op ++ [.int .i64 i])) (gr : (wr.alloc (.cells #[.int .i64 i] 3 (0, 0))).grownBy w' (Value.slice xa op.length xc).ownBlock) :
    LayM w w' a n k ss la (i :: op) xa' xc' := by
  have kp : Kp (fun k => k < w.heap.size + 1 + 1 + 1 + 1) wr w' := ((Kp.refl _ wr).alloc _).grown gr (fun k hk hK => by have := (h.O.lt k hk).1; omega)
  exact ⟨h.F.trans (kp.below h.F.size (fun k hk => by omega)), h.X.kp kp (by omega), Blk.kp h.B kp (by omega), h.T.kp kp (by omega), Blk.kp h.L kp (by omega), by rw [opV_cons]; exact o⟩
theorem set_next (ss : List Sp) (n i : Nat) (u : Sp) (h1 : ss.length = i) (h2 : i < n) : (ss ++ List.replicate (n - i) sp0).set i u = (ss ++ [u]) ++ List.replicate (n - (i + 1)) sp0 := by
  rw [show n - i = (n - (i + 1)) + 1 by omega, List.replicate_succ, List.set_append_right _ _ (by omega), h1, Nat.sub_self]
  simp
theorem layN_none {cs : List PC} {k : Nat} (h : layN cs k = none) : ∀ m, k ≤ m → layN cs m = none := by
  intro m hm
  induction m with
  | zero => obtain rfl : k = 0 := by omega
            exact h
  | succ m ih =>
    by_cases hk : k = m + 1
    · rw [← hk]; exact h
    · simp only [layN, ih (by omega), Option.bind_none]
theorem results_tree2 {fn : Func} {p u : Tmp} (h : fn.results = #[.cell p 61, .tmp u]) (tmps : Array Value) (w : World) (g : Nat) (x y : Value) (hp : tmps.getD p undef = .pointer (some ⟨g, 0, none⟩)) (hg : Blk w g 61 [x, y]) :
    (results fn tmps).run Try.prog w = .ok (.tuple #[.agg #[x, y], tmps.getD u undef]) w := by
  have hp' : tmps[p]?.getD undef = .pointer (some ⟨g, 0, none⟩) := by simpa using hp
  have size_tree : (Try.prog.info? 61).map (·.size) = some 2 := by kernel_rfl
  have hr := run_loadVar_row (P := Try.prog) w g _ 61 #[x, y] _ _ hg Try.underlying61 rfl size_tree
  simp [results, h, hp', asAddr, hr]
theorem box4 {w : World} {g : Nat} {e : TypeId} {v0 v1 v2 v3 : Value} (h : Blk w g e [v0, v1, v2, v3]) :
    w.cell? ⟨g, 0, none⟩ = some v0 ∧ w.cell? ⟨g, 1, none⟩ = some v1 ∧ w.cell? ⟨g, 2, none⟩ = some v2 ∧ w.cell? ⟨g, 3, none⟩ = some v3 ∧
    w.frozen? ⟨g, 0, none⟩ = false ∧ w.frozen? ⟨g, 1, none⟩ = false ∧ w.frozen? ⟨g, 2, none⟩ = false ∧ w.frozen? ⟨g, 3, none⟩ = false := ⟨h.cell 0, h.cell 1, h.cell 2, h.cell 3, h.frozen 0, h.frozen 1, h.frozen 2, h.frozen 3⟩
/-- The round's own boxes. -/
structure LayB (wr : World) (q : Nat) (c : Cel) (s : Sp) : Prop where
  C : Blk wr q 40 c.fields
  S : Blk wr (q + 1) 67 s.vals
theorem LayB.below {wr w' : World} {q : Nat} {c : Cel} {s : Sp} (h : LayB wr q c s) (f : Below wr.heap.size wr w') : LayB w' q c s := ⟨h.C.below f h.C.lt, h.S.below f h.S.lt⟩
theorem LayB.set {wr : World} {q : Nat} {c : Cel} {s : Sp} (h : LayB wr q c s) (p o : Nat) (v : Value) (h0 : q ≠ p) (h1 : q + 1 ≠ p) : LayB (wr.setCell ⟨p, o, none⟩ v) q c s := ⟨h.C.other h0, h.S.other h1⟩
theorem LayB.setS {wr : World} {q : Nat} {c : Cel} {s : Sp} (h : LayB wr q c s) (t : Sp) :
    LayB ((((wr.setCell ⟨q + 1, 0, none⟩ (.int .i64 t.over)).setCell ⟨q + 1, 1, none⟩ (.int .i64 t.nth)).setCell ⟨q + 1, 2, none⟩ (.int .i64 t.before)).setCell ⟨q + 1, 3, none⟩ (.int .i64 t.deep)) q c t :=
  ⟨(((h.C.other (by omega)).other (by omega)).other (by omega)).other (by omega), (((h.S.set 0 _).set 1 _).set 2 _).set 3 _⟩
theorem LayM.setB {w wr : World} {a : Option Addr} {n k : Nat} {ss : List Sp} {la : Nat → Int} {op : List Nat} {xa : Option Addr} {xc : Nat} (h : LayM w wr a n k ss la op xa xc) {q : Nat} {c : Cel} {s : Sp} (hb : LayB wr q c s) (hq : w.heap.size + 1 + 1 + 1 < q) (t : Sp) :
    LayM w ((((wr.setCell ⟨q + 1, 0, none⟩ (.int .i64 t.over)).setCell ⟨q + 1, 1, none⟩ (.int .i64 t.nth)).setCell ⟨q + 1, 2, none⟩ (.int .i64 t.before)).setCell ⟨q + 1, 3, none⟩ (.int .i64 t.deep)) a n k ss la op xa xc := by
  have ho : (Value.slice xa op.length xc).ownBlock ≠ some (q + 1) := owns_apart h.O hb.S (by decide)
  exact ⟨(((h.F.setCell (by show _ ≤ q + 1; omega) _).setCell (by show _ ≤ q + 1; omega) _).setCell (by show _ ≤ q + 1; omega) _).setCell (by show _ ≤ q + 1; omega) _,
    (((h.X.other (by omega)).other (by omega)).other (by omega)).other (by omega), Blk.other (Blk.other (Blk.other (Blk.other h.B (by omega)) (by omega)) (by omega)) (by omega), (((h.T.other (by omega)).other (by omega)).other (by omega)).other (by omega), Blk.other (Blk.other (Blk.other (Blk.other h.L (by omega)) (by omega)) (by omega)) (by omega),
    owns_other (owns_other (owns_other (owns_other h.O ho) ho) ho) ho⟩
theorem LayM.two {w wr : World} {a : Option Addr} {n k : Nat} {ss : List Sp} {la : Nat → Int} {op : List Nat} {xa : Option Addr} {xc : Nat} (h : LayM w wr a n k ss la op xa xc) (i : Nat) (hi : i < n) (c : Cel) (s : Sp) :
    LayM w (((wr.setCell ⟨w.heap.size + 1 + 1 + 1, i, none⟩ (.int .i64 (-1))).alloc (.cells c.fields.toArray 40 (0, 0))).alloc (.cells s.vals.toArray 67 (0, 0))) a n k ss (fun j => if j = i then -1 else la j) op xa xc ∧
    LayB (((wr.setCell ⟨w.heap.size + 1 + 1 + 1, i, none⟩ (.int .i64 (-1))).alloc (.cells c.fields.toArray 40 (0, 0))).alloc (.cells s.vals.toArray 67 (0, 0))) wr.heap.size c s := by
  have h1 := h.setLast i (-1) hi
  have hs : (wr.setCell ⟨w.heap.size + 1 + 1 + 1, i, none⟩ (.int .i64 (-1))).heap.size = wr.heap.size := by simp
  generalize wr.setCell ⟨w.heap.size + 1 + 1 + 1, i, none⟩ (.int .i64 (-1)) = wx at h1 hs
  refine ⟨h1.below (((Below.refl _ _).alloc (Nat.le_refl _) _).alloc (by simp) _), ?_, ?_⟩
  · rw [← hs]; exact (Blk.new wx _ _ _ rfl).alloc _
  · rw [← hs]
    have := Blk.new (wx.alloc (.cells c.fields.toArray 40 (0, 0))) 67 s.vals _ rfl
    rwa [show (wx.alloc (.cells c.fields.toArray 40 (0, 0))).heap.size = wx.heap.size + 1 by simp] at this
set_option maxHeartbeats 3200000 in
theorem lay_any (cs : List Cel) (a : Option Addr) (k : Nat) (w : World) (h : Rc w a cs) (h4 : ∀ c ∈ cs, c.kind = 4 → 0 ≤ c.kids ∧ c.kids ≤ 7) :
    Calls Try.prog 45 #[.slice a cs.length k] w fun r w' => ∃ b a1 n1 k1 a2 n2 k2, r = .returned (.tuple #[.agg #[.slice a1 n1 k1, .slice a2 n2 k2], .bool b]) ∧ (b = false ∧ layP (cs.map Cel.pure) = none ∨ b = true ∧ ∃ ss g, layP (cs.map Cel.pure) = some ss ∧ (a1 = a ∧ n1 = cs.length ∧ k1 = k ∧ a2 = some ⟨g, 0, none⟩ ∧ n2 = cs.length ∧ k2 = cs.length) ∧ w.heap.size ≤ g ∧ Sps w' g ss) ∧ Below w.heap.size w w' := by
  have hn := h.1
  have f0 : Below w.heap.size w (w.alloc (.cells #[.slice none 0 0, .slice none 0 0] 61 (0, 0))) := (Below.refl _ w).alloc (Nat.le_refl _) _
  have x0 : Blk (w.alloc (.cells #[.slice none 0 0, .slice none 0 0] 61 (0, 0))) w.heap.size 61 [.slice none 0 0, .slice none 0 0] := Blk.new w _ _ _ rfl
  have s0 : (w.alloc (.cells #[.slice none 0 0, .slice none 0 0] 61 (0, 0))).heap.size = w.heap.size + 1 := by simp
  obtain ⟨w1, r1, b1, f1, s1⟩ := make_spots (w.alloc (.cells #[.slice none 0 0, .slice none 0 0] 61 (0, 0))) .i64 .i64 cs.length cs.length cs.length rfl rfl (by omega)
  rw [s0] at r1 b1 f1 s1
  have x1 := x0.below f1 (by omega)
  have x2 := Blk.new w1 61 [.slice a cs.length k, .slice (some ⟨w.heap.size + 1, 0, none⟩) cs.length cs.length] _ rfl
  have f2 : Below (w.heap.size + 1 + 1) w1 (w1.alloc (.cells #[.slice a cs.length k, .slice (some ⟨w.heap.size + 1, 0, none⟩) cs.length cs.length] 61 (0, 0))) := (Below.refl _ w1).alloc (by omega) _
  have s2 : (w1.alloc (.cells #[.slice a cs.length k, .slice (some ⟨w.heap.size + 1, 0, none⟩) cs.length cs.length] 61 (0, 0))).heap.size = w.heap.size + 1 + 1 + 1 := by simp [s1]
  obtain ⟨w3, r3, b3, f3, s3⟩ := make_ints (w1.alloc (.cells #[.slice a cs.length k, .slice (some ⟨w.heap.size + 1, 0, none⟩) cs.length cs.length] 61 (0, 0))) .i64 .i64 cs.length cs.length cs.length rfl rfl (by omega)
  rw [s1] at x2
  rw [s2] at r3 b3 f3 s3
  have X1 := hide ((x1.below f2 (by omega)).below f3 (by omega))
  have B1 := hide (Blk.below (Blk.below b1 f2 (by omega)) f3 (by omega))
  have X2 := hide (x2.below f3 (by omega))
  have B3 := hide b3
  have F3 := hide (((f0.trans (f1.mono (by omega))).trans (f2.mono (by omega))).trans (f3.mono (by omega)))
  have H := hide h
  clear h b1 f1 x1 x0 f0 x2 f2 b3 f3 s2
  go_enter Try.func45, Try.ntmps45
  have HM : Hid (LayM w w3 a cs.length k (List.replicate cs.length sp0) (fun _ => 0) [] none 0) := ⟨F3.out, X1.out, B1.out, X2.out, B3.out, World.ownsRow_nil _ _ _ _⟩
  clear X1 B1 X2 B3 F3 s0 s3
  go_wp2_with fail
  go_loopw [5, 22] (fun vo vi wr => ∃ (i : Nat) (s : LS) (xa : Option Addr) (xc : Nat), vi = .int .i64 i ∧ vo = .slice xa s.op.length xc ∧ i ≤ cs.length ∧ Hid (layN (cs.map Cel.pure) i = some s) ∧ Hid (LayM w wr a cs.length k (s.spots ++ List.replicate (cs.length - i) sp0) s.last s.op xa xc)) (fun _ vi _ => (cs.length - intOf vi).toNat)
  case atStart => exact ⟨0, ⟨[], [], fun _ => 0⟩, none, 0, rfl, rfl, by omega, rfl, HM.out⟩
  case round =>
    clear HM r1 r3 s1
    obtain ⟨i, s, xa, xc, rfl, rfl, hi, HS, M⟩ := hrel
    by_cases hin : i < cs.length
    · obtain ⟨c, hc⟩ : ∃ c, cs[i]? = some c := ⟨cs[i], List.getElem?_eq_getElem hin⟩
      have hme := List.mem_of_getElem? hc
      have hI := LInv.of HS.out
      obtain ⟨b, off, rfl, c0, c1, c2, c3, c4, c5, c6, c7, c8⟩ := (H.out.below M.out.F (Nat.le_refl _)).cells hc
      have l0 := M.out.L.cell hin
      have l1 := Blk.frozen M.out.L i
      have q0 := Blk.lt M.out.L
      have q1 : w.heap.size + 1 + 1 + 1 < wr.heap.size + 1 := by omega
      have q2 : w.heap.size + 1 + 1 < wr.heap.size := by omega
      have hbw : b < wr.heap.size := World.block_lt_of_cell? wr _ c0
      have HC := hide hc
      have HI := hide hI
      have HME := hide hme
      clear hc hI hme
      rcases hop : s.op with _ | ⟨o, rest⟩
      · rw [hop] at M
        simp only [List.length_nil]
        obtain ⟨MA, BA⟩ := M.out.two i hin c ⟨-1, 0, -1, 1⟩
        have MA' := hide MA
        have BA' := hide BA
        clear MA BA
        go_wp2_with fail
        simp only [Cel.fields, Sp.vals] at MA' BA'
        generalize hwA : World.alloc _ _ = w8 at MA' BA' ⊢
        clear hwA c0 c1 c2 c3 c4 c5 c6 c7 c8 l0 l1
        have hsl := HI.out.len
        have FA := first_any cs _ k i w8 (H.out.below MA'.out.F (Nat.le_refl _)) hin
        by_cases hf : firstP (cs.map Cel.pure) i = true
        · rw [hf] at FA
          refine FA.mono ?_
          rintro e w8' ⟨rfl, rfl⟩
          clear FA
          have M8 := hide MA'.out
          have B8 := hide BA'.out
          clear MA' BA'
          have t0 := M8.out.T.cell 0
          have t1 := M8.out.T.cell 1
          simp only [List.getElem?_cons_zero, List.getElem?_cons_succ] at t0 t1
          obtain ⟨up, hup⟩ : ∃ up : Sp, up = ⟨-1, 0, -1, 1⟩ := ⟨_, rfl⟩
          have hu0 : up.over = -1 := by rw [hup]
          have hu1 : up.nth = 0 := by rw [hup]
          have hu2 : up.before = -1 := by rw [hup]
          have hu3 : up.deep = 1 := by rw [hup]
          obtain ⟨d0, d1, d2, d3, -, -, -, -⟩ := box4 B8.out.S
          have hsl2 : i < (s.spots ++ List.replicate (cs.length - i) sp0).length := by simp; omega
          obtain ⟨a0, a1, a2, a3⟩ := M8.out.B.cells hsl2
          have e0 := Blk.frozen M8.out.B (i * 4)
          have e1 := Blk.frozen M8.out.B (i * 4 + 1)
          have e2 := Blk.frozen M8.out.B (i * 4 + 2)
          have e3 := Blk.frozen M8.out.B (i * 4 + 3)
          have M9 := hide (M8.out.setSpot i up hsl2)
          rw [hu0, hu1, hu2, hu3] at M9
          have B9 := hide ((((B8.out.set (w.heap.size + 1) (i * 4) (.int .i64 (-1)) (by omega) (by omega)).set (w.heap.size + 1) (i * 4 + 1) (.int .i64 0) (by omega) (by omega)).set (w.heap.size + 1) (i * 4 + 2) (.int .i64 (-1)) (by omega) (by omega)).set (w.heap.size + 1) (i * 4 + 3) (.int .i64 1) (by omega) (by omega))
          have UP := hide hup
          clear hup hu0 hu1 hu2 hu3
          obtain ⟨c0, c1, c2, c3, c4, c5, c6, c7, c8, -, -, -, -, -, -, -, -, -⟩ := box9 B8.out.C
          have q6 : ¬ wr.heap.size = w.heap.size + 1 := by omega
          have q7 : ¬ w.heap.size + 1 = wr.heap.size := by omega
          go_wp2_with fail
          clear a0 a1 a2 a3 e0 e1 e2 e3 c0 c1 c2 c3 c4 c5 c6 c7 c8 d0 d1 d2 d3 t0 t1
          generalize World.setCell _ _ _ = w9 at M9 B9 ⊢
          refine (below_any c _ (h4 c HME.out)).mono ?_
          rintro e w10 ⟨rfl, f10⟩
          have M10 := hide ((M9.out.below f10))
          clear M9 B9 M8 B8 f10
          have hlay : Hid (∀ t, t = pushP (cs.map Cel.pure) i ([]) → layN (cs.map Cel.pure) (i + 1) = some ⟨s.spots ++ [up], t, fun j => if j = i then -1 else s.last j⟩) := by
            rintro t rfl
            simp only [layN, HS.out, Option.bind_some, stepL, hop]
            rw [UP.out, if_pos hf]
          have hpp : pushP (cs.map Cel.pure) i ([]) = if 0 < belowK c.pure then i :: ([]) else [] := by unfold pushP; rw [cAt_map HC.out]
          have hset := set_next s.spots cs.length i up hsl hin
          by_cases hpu : 0 < belowK c.pure
          · rw [if_pos hpu] at hpp
            obtain ⟨xa', xc', w11, r11, o11, g11⟩ := append_int w10 (w.heap.size + 1 + 1 + 1 + 1) (.slice xa ([]).length xc) (opV ([])) ([]).length i M10.out.O (by rw [opV_length]; first | omega | (simp; done) | (simp; omega)) (by have := M10.out.F.size; have := (M10.out.L).lt; omega)
            have M11 := hide (M10.out.push i o11 g11)
            rw [hset] at M11
            clear M10 o11 g11
            try simp only [List.length_cons, List.length_nil] at r11
            go_wp2_with (at_builtin; refine wpList_append_run rfl _ _ _ _ rfl _ _ _ _ rfl rfl r11 ?_)
            go_roundw
            case rel => exact ⟨i + 1, ⟨s.spots ++ [up], i :: ([]), fun j => if j = i then -1 else s.last j⟩, xa', xc', by go_num, rfl, by omega, hlay.out _ hpp.symm, M11.out⟩
            case measure => simp [intOf]; omega
          · rw [if_neg hpu] at hpp
            rw [hset] at M10
            go_wp2_with fail
            go_roundw
            case rel => exact ⟨i + 1, ⟨s.spots ++ [up], [], fun j => if j = i then -1 else s.last j⟩, xa, xc, by go_num, rfl, by omega, hlay.out _ hpp.symm, M10.out⟩
            case measure => simp [intOf]; omega
        · have hf' : firstP (cs.map Cel.pure) i = false := by simpa using hf
          rw [hf'] at FA
          refine FA.mono ?_
          rintro e w8' ⟨rfl, rfl⟩
          clear FA
          have x0 := MA'.out.X.cell 0
          have x1 := MA'.out.X.cell 1
          have z0 := MA'.out.X.frozen 0
          have z1 := MA'.out.X.frozen 1
          have X8 := (MA'.out.X.set 0 (.slice none 0 0)).set 1 (.slice none 0 0)
          have F8 := (MA'.out.F.setCell (show w.heap.size ≤ (⟨w.heap.size, 0, none⟩ : Addr).block from Nat.le_refl _) (.slice none 0 0)).setCell (show w.heap.size ≤ (⟨w.heap.size, 1, none⟩ : Addr).block from Nat.le_refl _) (.slice none 0 0)
          have X8' := hide X8
          have F8' := hide F8
          have hlay : Hid (layP (cs.map Cel.pure) = none) := by
            have h1 : layN (cs.map Cel.pure) (i + 1) = none := by
              simp only [layN, HS.out, Option.bind_some, stepL, hop]
              rw [if_neg hf]
            have h2 := layN_none h1 (cs.map Cel.pure).length (by simp; omega)
            show _ = _
            unfold layP
            rw [h2]; rfl
          clear X8 F8 MA' BA'
          simp only [List.getElem?_cons_zero, List.getElem?_cons_succ] at x0 x1
          go_wp2_with fail
          exact bodyPost_ret (results_tree2 rfl _ _ w.heap.size _ _ rfl X8'.out) rfl ⟨false, none, 0, 0, none, 0, 0, rfl, .inl ⟨rfl, hlay.out⟩, F8'.out⟩
      · rw [hop] at M
        have ho := HI.out.op o (by simp [hop])
        have hol := HI.out.last o ho.1
        have lo := M.out.L.cell (j := o) (by omega)
        have o1 := M.out.O
        rw [opV_cons] at o1
        obtain ⟨g, rfl⟩ : ∃ g, xa = some ⟨g, 0, none⟩ := by
          rcases o1.2 with ⟨h0, h1⟩ | ⟨g, cap, cur, hv, _⟩
          · simp at h1
          · simp at hv; exact ⟨g, hv.1⟩
        have o2 := o1.cellAt rest.length (by simp)
        rw [List.getElem?_append_right (by simp [opV]), opV_length, Nat.sub_self] at o2
        simp only [List.getElem?_cons_zero] at o2
        have hoi : ¬ (o = i) := by omega
        have hrl : rest.length < 100000 := by have := HI.out.oplen; rw [hop] at this; simp at this; omega
        have q3 : g < wr.heap.size := (M.out.O.lt g rfl).2
        have q4 : g < wr.heap.size + 1 := by omega
        have q5 : ¬ g = w.heap.size + 1 + 1 + 1 := by have := (M.out.O.lt g rfl).1; omega
        have t0 := M.out.T.cell 0
        have t1 := M.out.T.cell 1
        simp only [List.getElem?_cons_zero, List.getElem?_cons_succ] at t0 t1
        clear o1
        simp only [List.length_cons]
        obtain ⟨MA, BA⟩ := M.out.two i hin c ⟨-1, 0, -1, 1⟩
        have MA' := hide MA
        have BA' := hide BA
        clear MA BA
        go_wp2_with fail
        simp only [Cel.fields, Sp.vals] at MA' BA'
        generalize hwA : World.alloc _ _ = wA at MA' BA' ⊢
        clear hwA c0 c1 c2 c3 c4 c5 c6 c7 c8 l0 l1 lo o2 t0 t1
        have fd : Below wA.heap.size wA wA.drew := Below.drewN' (Below.refl _ wA) 1
        have MD := hide (MA'.out.below fd)
        have BD := hide (BA'.out.below fd)
        have t0 := MD.out.T.cell 0
        have t1 := MD.out.T.cell 1
        simp only [List.getElem?_cons_zero, List.getElem?_cons_succ] at t0 t1
        have lo := MD.out.L.cell (j := o) (by omega)
        simp only [if_neg hoi] at lo
        have hsl := HI.out.len
        have hss : ∀ j, j < i → sAt (s.spots ++ List.replicate (cs.length - i) sp0) j = sAt s.spots j := fun j hj => by
          unfold sAt
          rw [List.getD_eq_getElem?_getD, List.getD_eq_getElem?_getD, List.getElem?_append_left (by omega)]
        have hrg : ∀ j, j < (s.spots ++ List.replicate (cs.length - i) sp0).length → -1000000 ≤ (sAt (s.spots ++ List.replicate (cs.length - i) sp0) j).nth ∧ (sAt (s.spots ++ List.replicate (cs.length - i) sp0) j).nth ≤ 1000000 ∧ -1000000 ≤ (sAt (s.spots ++ List.replicate (cs.length - i) sp0) j).deep ∧ (sAt (s.spots ++ List.replicate (cs.length - i) sp0) j).deep ≤ 1000000 := fun j hj => by
          by_cases hji : j < i
          · rw [hss j hji]
            have := HI.out.spot j hji
            omega
          · unfold sAt
            rw [List.getD_eq_getElem?_getD, List.getElem?_append_right (by omega), List.getElem?_replicate]
            split <;> simp [sp0]
        have U := under_any (s.spots ++ List.replicate (cs.length - i) sp0) (w.heap.size + 1) cs.length cs.length (some ⟨b, off, none⟩) cs.length k o (s.last o) wA.drew MD.out.B (by simp; omega) (by simp; omega) (by simp; omega) (by simp; omega) hrg
        have HU : Hid (underP (s.spots ++ List.replicate (cs.length - i) sp0) o (s.last o) = underP s.spots o (s.last o)) := by
          show _ = _
          unfold underP
          rw [hss o ho.1]
          congr 1
          split
          · rfl
          · rw [hss _ (by omega)]
        rw [HU.out] at U
        simp only [Sp.vals] at U
        have U' := hide U
        clear fd U hrg
        have hon : o < cs.length := by omega
        generalize hup : underP s.spots o (s.last o) = up at U'
        have UP := hide hup
        clear hup
        generalize hlso : s.last o = lso at *
        have LSO := hide hlso
        clear hlso
        go_region_law (first
          | (go_simp; go_at_call 64; refine U'.out.mono ?_; rintro r w5 ⟨rfl, f5⟩
             have MB := hide (MD.out.below f5)
             have BB := hide (BD.out.below f5)
             obtain ⟨d0, d1, d2, d3, e0, e1, e2, e3⟩ := box4 BB.out.S
             clear f5))
        all_goals
          have M6 := hide (MB.out.setB BB.out q0 up)
          have B6 := hide (BB.out.setS up)
          clear d0 d1 d2 d3 e0 e1 e2 e3 MB BB t0 t1 lo
          generalize World.setCell _ _ _ = w6 at M6 B6 ⊢
          have M7 := hide (M6.out.setLast o i hon)
          have B7 := hide (B6.out.set (w.heap.size + 1 + 1 + 1) o (.int .i64 i) (by omega) (by omega))
          have lo := M6.out.L.cell (j := o) hon
          have lf := Blk.frozen M6.out.L o
          obtain ⟨co, hco⟩ : ∃ co, cs[o]? = some co := ⟨cs[o], List.getElem?_eq_getElem hon⟩
          obtain ⟨b', off', hb', c0, c1, c2, c3, c4, c5, c6, c7, c8⟩ := (H.out.below M6.out.F (Nat.le_refl _)).cells hco
          cases hb'
          obtain ⟨d0, d1, d2, d3, e0, e1, e2, e3⟩ := box4 B6.out.S
          go_wp2_with fail
          have H7 := H.out.below M7.out.F (Nat.le_refl _)
          clear d0 d1 d2 d3 e0 e1 e2 e3 c0 c1 c2 c3 c4 c5 c6 c7 c8 lo lf M6 B6
          generalize World.setCell _ _ _ = w7 at M7 B7 H7 ⊢
          obtain ⟨b', off', hb', c0, c1, c2, c3, c4, c5, c6, c7, c8⟩ := H7.cells hco
          cases hb'
          obtain ⟨d0, d1, d2, d3, -, -, -, -⟩ := box4 B7.out.S
          have g0 := cell_regrown c0
          have g1 := cell_regrown c1
          have g2 := cell_regrown c2
          have g3 := cell_regrown c3
          have g4 := cell_regrown c4
          have g5 := cell_regrown c5
          have g6 := cell_regrown c6
          have g7 := cell_regrown c7
          have g8 := cell_regrown c8
          have s1 := cell_regrown d1
          have cB : ∀ d os, Calls Try.prog 65 #[.agg #[.int .i64 co.kind, .int .i64 co.at_, .int .i64 co.count, .int .i64 co.kids, .int .u8 co.byte, .bool co.full, .int .u64 co.val, .slice co.ka co.key.length co.kc, .slice co.pa co.ps.length co.pc]] (grow (redrawn w7 d) os) fun r w'' => r = .returned (.int .i64 (belowK co.pure)) ∧ ∃ p : Regrown, w'' = grow (redrawn w7 p.d) p.os := fun d os =>
            Calls.regrown_of (below_any co _ (h4 co (List.mem_of_getElem? hco)))
          have hcb : cAt (cs.map Cel.pure) o = co.pure := cAt_map hco
          have hun : 0 ≤ up.nth ∧ up.nth ≤ 1000000 := by
            have h1 := UP.out
            unfold underP at h1
            rw [← h1]
            simp only
            split
            · omega
            · have := (HI.out.spot lso.toNat (by omega)).1
              omega
          have CB := hide hcb
          have hwn : IntKind.i64.wrap (up.nth + 1) = up.nth + 1 := by rw [IntKind.wrap_i64]; omega
          clear c0 c1 c2 c3 c4 c5 c6 c7 c8 d0 d1 d2 d3 H7 hcb hco
          refine wp_region_quiet_below (by kernel_rfl) (by kernel_rfl) ?_
          repeat (quiet_step (first | (go_at_call 65; exact cB _ _)))
          refine wpQuiet_nil ?_
          intro _ hw'
          obtain ⟨⟨dq, osq⟩, hw''⟩ := hw'
          subst hw''
          clear cB g0 g1 g2 g3 g4 g5 g6 g7 g8 s1
          have M8 := hide (M7.out.below (below_regrown w7 dq osq))
          have B8 := hide (B7.out.below (below_regrown w7 dq osq))
          clear M7 B7
          generalize grow (redrawn w7 dq) osq = w8 at M8 B8 ⊢
          have t0 := M8.out.T.cell 0
          have t1 := M8.out.T.cell 1
          simp only [List.getElem?_cons_zero, List.getElem?_cons_succ] at t0 t1
          obtain ⟨d0, d1, d2, d3, -, -, -, -⟩ := box4 B8.out.S
          have hsl2 : i < (s.spots ++ List.replicate (cs.length - i) sp0).length := by simp; omega
          obtain ⟨a0, a1, a2, a3⟩ := M8.out.B.cells hsl2
          have e0 := Blk.frozen M8.out.B (i * 4)
          have e1 := Blk.frozen M8.out.B (i * 4 + 1)
          have e2 := Blk.frozen M8.out.B (i * 4 + 2)
          have e3 := Blk.frozen M8.out.B (i * 4 + 3)
          have M9 := hide (M8.out.setSpot i up hsl2)
          have B9 := hide ((((B8.out.set (w.heap.size + 1) (i * 4) (.int .i64 up.over) (by omega) (by omega)).set (w.heap.size + 1) (i * 4 + 1) (.int .i64 up.nth) (by omega) (by omega)).set (w.heap.size + 1) (i * 4 + 2) (.int .i64 up.before) (by omega) (by omega)).set (w.heap.size + 1) (i * 4 + 3) (.int .i64 up.deep) (by omega) (by omega))
          obtain ⟨c0, c1, c2, c3, c4, c5, c6, c7, c8, -, -, -, -, -, -, -, -, -⟩ := box9 B8.out.C
          have q6 : ¬ wr.heap.size = w.heap.size + 1 := by omega
          have q7 : ¬ w.heap.size + 1 = wr.heap.size := by omega
          by_cases hcl : up.nth + 1 = belowK co.pure
          · have hcl' : (up.nth + 1 == belowK co.pure) = true := by simpa using hcl
            have hxc : rest.length < xc := by
              rcases M8.out.O.2 with ⟨h0, h1⟩ | ⟨g', cap, cur, hv, _, _, h3, _⟩
              · simp at h1
              · simp at hv h3; omega
            have hx0 : ¬ xc = 0 := by omega
            have hxi : (rest.length : Int) ≤ (xc : Int) := by omega
            have hxn : rest.length ≤ xc := by omega
            go_wp2_with fail
            clear a0 a1 a2 a3 e0 e1 e2 e3 c0 c1 c2 c3 c4 c5 c6 c7 c8 d0 d1 d2 d3 t0 t1
            generalize World.setCell _ _ _ = w9 at M9 B9 ⊢
            refine (below_any c _ (h4 c HME.out)).mono ?_
            rintro e w10 ⟨rfl, f10⟩
            have M10 := hide ((M9.out.below f10).pop)
            clear M9 B9 M8 B8 f10
            have hlay : Hid (∀ t, t = pushP (cs.map Cel.pure) i (rest) → layN (cs.map Cel.pure) (i + 1) = some ⟨s.spots ++ [up], t, fun j => if j = o then i else if j = i then -1 else s.last j⟩) := by
              rintro t rfl
              simp only [layN, HS.out, Option.bind_some, stepL, hop]
              rw [LSO.out, UP.out, CB.out, if_pos hcl]
            have hpp : pushP (cs.map Cel.pure) i (rest) = if 0 < belowK c.pure then i :: (rest) else rest := by unfold pushP; rw [cAt_map HC.out]
            have hset := set_next s.spots cs.length i up hsl hin
            by_cases hpu : 0 < belowK c.pure
            · rw [if_pos hpu] at hpp
              obtain ⟨xa', xc', w11, r11, o11, g11⟩ := append_int w10 (w.heap.size + 1 + 1 + 1 + 1) (.slice (some ⟨g, 0, none⟩) (rest).length xc) (opV (rest)) (rest).length i M10.out.O (by rw [opV_length]; first | omega | (simp; done) | (simp; omega)) (by have := M10.out.F.size; have := (M10.out.L).lt; omega)
              have M11 := hide (M10.out.push i o11 g11)
              rw [hset] at M11
              clear M10 o11 g11
              try simp only [List.length_cons, List.length_nil] at r11
              go_wp2_with (at_builtin; refine wpList_append_run rfl _ _ _ _ rfl _ _ _ _ rfl rfl r11 ?_)
              go_roundw
              case rel => exact ⟨i + 1, ⟨s.spots ++ [up], i :: (rest), fun j => if j = o then i else if j = i then -1 else s.last j⟩, xa', xc', by go_num, rfl, by omega, hlay.out _ hpp.symm, M11.out⟩
              case measure => simp [intOf]; omega
            · rw [if_neg hpu] at hpp
              rw [hset] at M10
              go_wp2_with fail
              go_roundw
              case rel => exact ⟨i + 1, ⟨s.spots ++ [up], rest, fun j => if j = o then i else if j = i then -1 else s.last j⟩, (some ⟨g, 0, none⟩), xc, by go_num, rfl, by omega, hlay.out _ hpp.symm, M10.out⟩
              case measure => simp [intOf]; omega
          · have hcl' : (up.nth + 1 == belowK co.pure) = false := by simpa using hcl
            go_wp2_with fail
            clear a0 a1 a2 a3 e0 e1 e2 e3 c0 c1 c2 c3 c4 c5 c6 c7 c8 d0 d1 d2 d3 t0 t1
            generalize World.setCell _ _ _ = w9 at M9 B9 ⊢
            refine (below_any c _ (h4 c HME.out)).mono ?_
            rintro e w10 ⟨rfl, f10⟩
            have M10 := hide ((M9.out.below f10))
            clear M9 B9 M8 B8 f10
            have hlay : Hid (∀ t, t = pushP (cs.map Cel.pure) i (o :: rest) → layN (cs.map Cel.pure) (i + 1) = some ⟨s.spots ++ [up], t, fun j => if j = o then i else if j = i then -1 else s.last j⟩) := by
              rintro t rfl
              simp only [layN, HS.out, Option.bind_some, stepL, hop]
              rw [LSO.out, UP.out, CB.out, if_neg hcl]
            have hpp : pushP (cs.map Cel.pure) i (o :: rest) = if 0 < belowK c.pure then i :: (o :: rest) else o :: rest := by unfold pushP; rw [cAt_map HC.out]
            have hset := set_next s.spots cs.length i up hsl hin
            by_cases hpu : 0 < belowK c.pure
            · rw [if_pos hpu] at hpp
              obtain ⟨xa', xc', w11, r11, o11, g11⟩ := append_int w10 (w.heap.size + 1 + 1 + 1 + 1) (.slice (some ⟨g, 0, none⟩) (o :: rest).length xc) (opV (o :: rest)) (o :: rest).length i M10.out.O (by rw [opV_length]; first | omega | (simp; done) | (simp; omega)) (by have := M10.out.F.size; have := (M10.out.L).lt; omega)
              have M11 := hide (M10.out.push i o11 g11)
              rw [hset] at M11
              clear M10 o11 g11
              try simp only [List.length_cons, List.length_nil] at r11
              go_wp2_with (at_builtin; refine wpList_append_run rfl _ _ _ _ rfl _ _ _ _ rfl rfl r11 ?_)
              go_roundw
              case rel => exact ⟨i + 1, ⟨s.spots ++ [up], i :: (o :: rest), fun j => if j = o then i else if j = i then -1 else s.last j⟩, xa', xc', by go_num, rfl, by omega, hlay.out _ hpp.symm, M11.out⟩
              case measure => simp [intOf]; omega
            · rw [if_neg hpu] at hpp
              rw [hset] at M10
              go_wp2_with fail
              go_roundw
              case rel => exact ⟨i + 1, ⟨s.spots ++ [up], o :: rest, fun j => if j = o then i else if j = i then -1 else s.last j⟩, (some ⟨g, 0, none⟩), xc, by go_num, rfl, by omega, hlay.out _ hpp.symm, M10.out⟩
              case measure => simp [intOf]; omega
    · obtain rfl : i = cs.length := by omega
      have t0 := M.out.T.cell 0
      have t1 := M.out.T.cell 1
      have x0 := M.out.X.cell 0
      have x1 := M.out.X.cell 1
      have z0 := M.out.X.frozen 0
      have z1 := M.out.X.frozen 1
      simp only [List.getElem?_cons_zero, List.getElem?_cons_succ] at t0 t1 x0 x1
      have X9 := hide ((M.out.X.set 0 (.slice a cs.length k)).set 1 (.slice (some ⟨w.heap.size + 1, 0, none⟩) cs.length cs.length))
      have F9 := hide ((M.out.F.setCell (show w.heap.size ≤ (⟨w.heap.size, 0, none⟩ : Addr).block from Nat.le_refl _) (.slice a cs.length k)).setCell (show w.heap.size ≤ (⟨w.heap.size, 1, none⟩ : Addr).block from Nat.le_refl _) (.slice (some ⟨w.heap.size + 1, 0, none⟩) cs.length cs.length))
      have S9 : Hid (Sps ((wr.setCell ⟨w.heap.size, 0, none⟩ (.slice a cs.length k)).setCell ⟨w.heap.size, 1, none⟩ (.slice (some ⟨w.heap.size + 1, 0, none⟩) cs.length cs.length)) (w.heap.size + 1) s.spots) := by
        have := Blk.other (v := .slice (some ⟨w.heap.size + 1, 0, none⟩) cs.length cs.length) (o := 1) (Blk.other (v := .slice a cs.length k) (o := 0) M.out.B (show w.heap.size + 1 ≠ w.heap.size by omega)) (show w.heap.size + 1 ≠ w.heap.size by omega)
        rw [Nat.sub_self, List.replicate_zero, List.append_nil] at this
        exact this
      have HL : Hid (layP (cs.map Cel.pure) = if s.op = [] then some s.spots else none) := by
        show _ = _
        unfold layP
        rw [List.length_map, HS.out]; rfl
      go_wp2_with fail
      refine bodyPost_ret (results_tree2 rfl _ _ w.heap.size _ _ rfl X9.out) rfl ⟨((s.op.length : Int) == 0), a, cs.length, k, some ⟨w.heap.size + 1, 0, none⟩, cs.length, cs.length, rfl, ?_, F9.out⟩
      by_cases hop : s.op = []
      · refine .inr ⟨by rw [hop]; rfl, s.spots, w.heap.size + 1, by rw [HL.out, if_pos hop], ⟨rfl, rfl, rfl, rfl, rfl, rfl⟩, by omega, S9.out⟩
      · refine .inl ⟨?_, by rw [HL.out, if_neg hop]⟩
        rw [beq_eq_false_iff_ne]
        have : s.op.length ≠ 0 := fun h => hop (List.eq_nil_of_length_eq_zero h)
        omega
end Go.Proofs.Ytnedcoomldmhhaa
