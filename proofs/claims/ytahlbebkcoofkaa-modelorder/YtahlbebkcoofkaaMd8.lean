/- Pairs that are answered: copies of their own; Select, Floor, Ceil. -/
import Derived.Test.YtahlbebkcoofkaaMd7
import Derived.Laws.Rows
namespace Go.Proofs.Ytahlbebkcoofkaa
set_option maxRecDepth 20000
open Go.RowKit Go.Sort
set_option linter.unusedVariables false

/-- A pair in a box of its own. -/
def boxP (a : Option Addr) (n c : Nat) (v : Int) : Obj := .cells #[.slice a n c, .int .u64 v] 54 (0, 0)

theorem size_pair : (Try.prog.info? 54).map (·.size) = some 2 := by kernel_rfl
/-- A pair that is answered, out of its box. -/
theorem results_pair {fn : Func} {p : Tmp} (h : fn.results = #[.cell p 54]) (tmps : Array Value) (w : World) (g : Nat) (x y : Value) (hp : tmps.getD p undef = .pointer (some ⟨g, 0, none⟩)) (hg : Blk w g 54 [x, y]) :
    (results fn tmps).run Try.prog w = .ok (.agg #[x, y]) w :=
  results_cell_row h tmps w g _ #[x, y] _ _ hp hg Try.underlying54 rfl size_pair
theorem results_pair2 {fn : Func} {p u : Tmp} (h : fn.results = #[.cell p 54, .tmp u]) (tmps : Array Value) (w : World) (g : Nat) (x y : Value) (hp : tmps.getD p undef = .pointer (some ⟨g, 0, none⟩)) (hg : Blk w g 54 [x, y]) :
    (results fn tmps).run Try.prog w = .ok (.tuple #[.agg #[x, y], tmps.getD u undef]) w := by
  have hp' : tmps[p]?.getD undef = .pointer (some ⟨g, 0, none⟩) := by simpa using hp
  have hr := run_loadVar_row (P := Try.prog) w g _ 54 #[x, y] _ _ hg Try.underlying54 rfl size_pair
  simp [results, h, hp', asAddr, hr]
theorem Blk.pair {w : World} {g : Nat} {x y x' y' : Value} (h : Blk w g 54 [x, y]) : Blk ((w.setCell ⟨g, 0, none⟩ x').setCell ⟨g, 1, none⟩ y') g 54 [x', y'] := (h.set 0 x').set 1 y'

set_option maxHeartbeats 1000000 in
theorem copied_any (e : Ent) (w : World) (he : Rd w e.a e.k) (hl : e.k.length ≤ 1000000) :
    Calls Try.prog 41 #[.agg #[.slice e.a e.k.length e.c, .int .u64 e.v]] w fun r w' => ∃ g, w.heap.size ≤ g ∧ r = .returned (.agg #[.slice (some ⟨g, 0, none⟩) e.k.length e.k.length, .int .u64 e.v]) ∧ Blk w' g 5 (u8s e.k) ∧ Below w.heap.size w w' := by
  obtain ⟨ea, ec, ek, ev⟩ := e
  simp only at he hl ⊢
  have f0 : Below w.heap.size w ((w.alloc (boxP ea ek.length ec ev)).alloc (boxP none 0 0 0)) := ((Below.refl _ w).alloc (Nat.le_refl _) _).alloc (by simp) _
  have x0 : Blk ((w.alloc (boxP ea ek.length ec ev)).alloc (boxP none 0 0 0)) w.heap.size 54 [.slice ea ek.length ec, .int .u64 ev] := (Blk.new w _ _ _ rfl).alloc _
  have x1 : Blk ((w.alloc (boxP ea ek.length ec ev)).alloc (boxP none 0 0 0)) (w.heap.size + 1) 54 [.slice none 0 0, .int .u64 0] := by
    have h := Blk.new (w.alloc (boxP ea ek.length ec ev)) 54 [.slice none 0 0, .int .u64 0] _ rfl
    rwa [show (w.alloc (boxP ea ek.length ec ev)).heap.size = w.heap.size + 1 by simp] at h
  have hs0 : ((w.alloc (boxP ea ek.length ec ev)).alloc (boxP none 0 0 0)).heap.size = w.heap.size + 1 + 1 := by simp
  have h0 := he.below f0 (Nat.le_refl _)
  have c0 := x0.cell 0
  unfold boxP at f0 x0 x1 hs0 h0 c0
  generalize hw0 : ((w.alloc (.cells #[.slice ea ek.length ec, .int .u64 ev] 54 (0, 0))).alloc (.cells #[.slice none 0 0, .int .u64 0] 54 (0, 0))) = w0 at f0 x0 x1 hs0 h0 c0
  obtain ⟨w1, r1, b1, f1, s1⟩ := make_u8 w0 .i64 .i64 ek.length ek.length ek.length ek.length rfl rfl (Nat.le_refl _) (by omega)
  have h1 := h0.below f1 (Nat.le_refl _)
  obtain ⟨w2, r2, b2, g2, s2⟩ := run_copy_rd (P := Try.prog) 24 24 3 5 5 Try.underlying24 size_u8 w0.heap.size _ b1 ek.length ek.length (by simp) h1 ec
  have e2 : u8s (ek.take ek.length) ++ (List.replicate ek.length (Value.int .u8 0)).drop (ek.take ek.length).length = u8s ek := by simp
  rw [e2] at b2
  have y0 := x0.below f1 (by omega)
  have y1 := x1.below f1 (by omega)
  have z0 : Blk w2 w.heap.size 54 [.slice ea ek.length ec, .int .u64 ev] := (g2.block _ (by omega) (by simp; omega)).trans y0
  have z1 : Blk w2 (w.heap.size + 1) 54 [.slice none 0 0, .int .u64 0] := (g2.block _ (by omega) (by simp; omega)).trans y1
  have k0 := y0.cell 0
  have k1 := z0.cell 1
  have k2 := z1.cell 0
  have k3 := z1.cell 1
  have k4 := z1.frozen 0
  have k5 := z1.frozen 1
  have F2 : Hid (Below w.heap.size w w2) := by
    have h := (f0.trans (f1.mono (by omega)))
    exact h.grown g2 (by have := h.size; omega) (fun k hk => by cases hk; omega)
  have B2 := hide b2
  have S2 := hide hs0
  simp only [Nat.min_self] at r2
  rw [hs0] at r1 r2 B2
  simp only [List.getElem?_cons_zero, List.getElem?_cons_succ] at c0 k0 k1 k2 k3
  clear he h0 h1 b1 b2 f0 f1 g2 e2 s1 s2 hs0 x0 x1 y0 y1 z0
  go_enter Try.func41, Try.ntmps41
  have Z1 := hide z1
  clear z1
  go_wp2_with fail
  have hb := Z1.out.pair (x' := .slice (some ⟨w.heap.size + 1 + 1, 0, none⟩) ek.length ek.length) (y' := .int .u64 ev)
  refine bodyPost_ret (results_pair rfl _ _ (w.heap.size + 1) _ _ rfl hb) rfl ?_
  refine ⟨w.heap.size + 1 + 1, by omega, rfl, ?_, ?_⟩
  · exact (Below.heap_setCell _ ⟨w.heap.size + 1, 1, none⟩ _ _ (by show _ ≠ w.heap.size + 1; omega)).trans ((Below.heap_setCell _ ⟨w.heap.size + 1, 0, none⟩ _ _ (by show _ ≠ w.heap.size + 1; omega)).trans B2.out)
  · exact (F2.out.setCell (by show _ ≤ w.heap.size + 1; omega) _).setCell (by show _ ≤ w.heap.size + 1; omega) _
/-- A pair that is answered, its key in memory of its own. -/
def Ans (w w' : World) (o : Option KV) (r : Ending) : Prop := ∃ a c, r = .returned (.tuple #[.agg #[.slice a (keyO o).length c, .int .u64 (valO o)], .bool o.isSome]) ∧
  w'.ownsRow w.heap.size 5 1 (.slice a (keyO o).length c) (keyO o).length (u8s (keyO o)) ∧ IsBytes (keyO o) ∧ Below w.heap.size w w'
theorem Ans.later {w w1 w' : World} {o : Option KV} {r : Ending} (h : Ans w1 w' o r) (f : Below w.heap.size w w1) : Ans w w' o r := by
  obtain ⟨a, c, e, ho, hb, f2⟩ := h
  refine ⟨a, c, e, ⟨ho.1, ?_⟩, hb, f.trans (f2.mono f.size)⟩
  rcases ho.2 with h | ⟨g, cap, cur, h1, h2, h3⟩
  · exact .inl h
  · exact .inr ⟨g, cap, cur, h1, by have := f.size; omega, h3⟩
theorem ans_none (w w' : World) (f : Below w.heap.size w w') : Ans w w' none (.returned (.tuple #[.agg #[.slice none 0 0, .int .u64 0], .bool false])) :=
  ⟨none, 0, rfl, World.ownsRow_nil _ _ _ _, by intro x hx; simp [keyO] at hx, f⟩

set_option maxHeartbeats 1000000 in
theorem select_any {g : Nat} {ps : List KV} {K : Nat → Prop} (i : Int) (w : World) (h : Md g ps K w) (h0 : -9223372036854775808 ≤ i) (h1 : i ≤ 9223372036854775807) :
    Calls Try.prog 28 #[.pointer (some ⟨g, 0, none⟩), .int .i64 i] w fun r w' => Ans w w' (selM i ps) r := by
  have hl2 : ps.length ≤ 1000000 := by obtain ⟨F, v, es, h⟩ := h; rw [h.len]; exact h.ln
  have f0 : Below w.heap.size w (w.alloc (boxP none 0 0 0)) := (Below.refl _ w).alloc (Nat.le_refl _) _
  have x0 : Blk (w.alloc (boxP none 0 0 0)) w.heap.size 54 [.slice none 0 0, .int .u64 0] := Blk.new w _ _ _ rfl
  have hm := (Md.lies g ps).below h f0
  unfold boxP at f0 x0 hm
  generalize hw0 : (w.alloc (.cells #[.slice none 0 0, .int .u64 0] 54 (0, 0))) = w0 at f0 x0 hm
  by_cases hi : 0 ≤ i ∧ i < ps.length
  · obtain ⟨n, rfl⟩ : ∃ n : Nat, i = (n : Int) := ⟨i.toNat, by omega⟩
    obtain ⟨p, hp⟩ : ∃ p, ps[n]? = some p := ⟨ps[n]'(by omega), List.getElem?_eq_getElem (by omega)⟩
    have hv : Hid (selM (n : Int) ps = some p) := by
      show _ = _
      unfold selM
      rw [if_neg (by omega)]
      simpa using hp
    have HL := hide (len_any w0 hm)
    obtain ⟨F, v, es, h'⟩ := hm
    obtain ⟨b, c, e, rfl, he, hk, hil, c0, c1⟩ := h'.cells hp
    have d0 := h'.hd.cell 0
    simp only [List.getElem?_cons_zero] at d0
    have hme := List.mem_of_getElem? he
    have hks := h'.ks e hme
    have C := fun w' (f : Below w0.heap.size w0 w') => copied_any e w' (hks.1.1.below f (Nat.le_refl _)) (by omega)
    have HC := hide C
    have hd : decide ((n : Int) < 0) = false := by simp
    have hlt : n < ps.length := by omega
    have F0 := hide f0
    have X0 := hide x0
    have HS : Hid (w0.heap.size = w.heap.size + 1) := by show _ = _; rw [← hw0]; simp
    have HKV := hide hk
    have hln := h'.ln
    have HIB := hide hks.1.1.1
    have HKL : Hid (e.k.length ≤ 65535) := hks.2.1
    clear h' hks hme C h hp he hi hk f0 x0
    go_enter Try.func28, Try.ntmps28
    go_wp2_with fail
    refine HL.out.mono ?_
    rintro r w1 ⟨rfl, hw⟩
    subst hw
    go_wp2_with fail
    refine (HC.out _ (Below.refl _ _)).mono ?_
    rintro r w2 ⟨q, hq, rfl, b2, f2⟩
    have x2 := X0.out.below f2 X0.out.lt
    have k0 := x2.cell 0
    have k1 := x2.cell 1
    have k2 := x2.frozen 0
    have k3 := x2.frozen 1
    have B2 := hide b2
    have F2 := hide f2
    have X2 := hide x2
    simp only [List.getElem?_cons_zero, List.getElem?_cons_succ] at k0 k1
    clear b2 f2 x2
    go_wp2_with fail
    have hb := X2.out.pair (x' := .slice (some ⟨q, 0, none⟩) e.k.length e.k.length) (y' := .int .u64 e.v)
    refine bodyPost_ret (results_pair2 rfl _ _ w.heap.size _ _ rfl hb) rfl ?_
    have hs := HS.out
    have hsz := X0.out.lt
    have ek := congrArg Prod.fst HKV.out
    have ev := congrArg Prod.snd HKV.out
    rw [hv.out]
    have hkl := HKL.out
    refine ⟨some ⟨q, 0, none⟩, e.k.length, ?_, ?_, ?_, ?_⟩
    · show _ = Ending.returned (.tuple #[.agg #[.slice (some ⟨q, 0, none⟩) p.1.length e.k.length, .int .u64 p.2], .bool true])
      rw [← ek, ← ev]
      rfl
    · show World.ownsRow _ _ _ _ (.slice (some ⟨q, 0, none⟩) p.1.length e.k.length) p.1.length (u8s p.1)
      rw [← ek]
      have hblk := (Below.heap_setCell (w2.setCell ⟨w.heap.size, 0, none⟩ (.slice (some ⟨q, 0, none⟩) e.k.length e.k.length)) ⟨w.heap.size, 1, none⟩ (.int .u64 e.v) q (by show _ ≠ w.heap.size; omega)).trans ((Below.heap_setCell w2 ⟨w.heap.size, 0, none⟩ (.slice (some ⟨q, 0, none⟩) e.k.length e.k.length) q (by show _ ≠ w.heap.size; omega)).trans B2.out)
      have ho := blk_owns (base := w.heap.size) (n := e.k.length) hblk (by omega) (by simp [u8s]) (by simp [u8s, maxLen]; omega)
      rw [u8s_length, List.take_of_length_le (by simp [u8s])] at ho
      exact ho
    · show IsBytes p.1
      rw [← ek]; exact HIB.out
    · have f := (F0.out.trans (F2.out.mono (by omega)))
      exact (f.setCell (by show _ ≤ w.heap.size; omega) _).setCell (by show _ ≤ w.heap.size; omega) _
  · have hv : Hid (selM i ps = none) := by
      show _ = _
      unfold selM
      by_cases h2 : i < 0
      · rw [if_pos h2]
      · rw [if_neg h2]
        exact List.getElem?_eq_none (by omega)
    have HL := hide (len_any w0 hm)
    have F0 := hide f0
    have X0 := hide x0
    have k0 := x0.cell 0
    have k1 := x0.cell 1
    have k2 := x0.frozen 0
    have k3 := x0.frozen 1
    simp only [List.getElem?_cons_zero, List.getElem?_cons_succ] at k0 k1
    clear hm f0 x0 h
    by_cases h2 : i < 0
    · have hd : decide (i < 0) = true := by simpa using h2
      go_enter Try.func28, Try.ntmps28
      go_wp2_with fail
      have hb := X0.out.pair (x' := .slice none 0 0) (y' := .int .u64 0)
      refine bodyPost_ret (results_pair2 rfl _ _ w.heap.size _ _ rfl hb) rfl ?_
      rw [hv.out]
      exact ans_none _ _ ((F0.out.setCell (by show _ ≤ w.heap.size; omega) _).setCell (by show _ ≤ w.heap.size; omega) _)
    · have hd : decide (i < 0) = false := by simpa using h2
      have hge : (ps.length : Int) ≤ i := by omega
      go_enter Try.func28, Try.ntmps28
      go_wp2_with fail
      refine HL.out.mono ?_
      rintro r w1 ⟨rfl, hw⟩
      subst hw
      go_wp2_with fail
      have hb := X0.out.pair (x' := .slice none 0 0) (y' := .int .u64 0)
      refine bodyPost_ret (results_pair2 rfl _ _ w.heap.size _ _ rfl hb) rfl ?_
      rw [hv.out]
      exact ans_none _ _ ((F0.out.setCell (by show _ ≤ w.heap.size; omega) _).setCell (by show _ ≤ w.heap.size; omega) _)
set_option maxHeartbeats 1000000 in
theorem select_nil (i : Int) (w : World) (h0 : -9223372036854775808 ≤ i) (h1 : i ≤ 9223372036854775807) :
    Calls Try.prog 28 #[.pointer none, .int .i64 i] w fun r w' => Ans w w' none r := by
  have f0 : Below w.heap.size w (w.alloc (boxP none 0 0 0)) := (Below.refl _ w).alloc (Nat.le_refl _) _
  have x0 : Blk (w.alloc (boxP none 0 0 0)) w.heap.size 54 [.slice none 0 0, .int .u64 0] := Blk.new w _ _ _ rfl
  unfold boxP at f0 x0
  generalize hw0 : (w.alloc (.cells #[.slice none 0 0, .int .u64 0] 54 (0, 0))) = w0 at f0 x0
  have HL := hide (len_nil w0)
  have F0 := hide f0
  have X0 := hide x0
  have k0 := x0.cell 0
  have k1 := x0.cell 1
  have k2 := x0.frozen 0
  have k3 := x0.frozen 1
  simp only [List.getElem?_cons_zero, List.getElem?_cons_succ] at k0 k1
  clear f0 x0
  by_cases h2 : i < 0
  · have hd : decide (i < 0) = true := by simpa using h2
    go_enter Try.func28, Try.ntmps28
    go_wp2_with fail
    have hb := X0.out.pair (x' := .slice none 0 0) (y' := .int .u64 0)
    refine bodyPost_ret (results_pair2 rfl _ _ w.heap.size _ _ rfl hb) rfl ?_
    exact ans_none _ _ ((F0.out.setCell (by show _ ≤ w.heap.size; omega) _).setCell (by show _ ≤ w.heap.size; omega) _)
  · have hd : decide (i < 0) = false := by simpa using h2
    have hge : 0 ≤ i := by omega
    go_enter Try.func28, Try.ntmps28
    go_wp2_with fail
    refine HL.out.mono ?_
    rintro r w1 ⟨rfl, hw⟩
    subst hw
    go_wp2_with fail
    have hb := X0.out.pair (x' := .slice none 0 0) (y' := .int .u64 0)
    refine bodyPost_ret (results_pair2 rfl _ _ w.heap.size _ _ rfl hb) rfl ?_
    exact ans_none _ _ ((F0.out.setCell (by show _ ≤ w.heap.size; omega) _).setCell (by show _ ≤ w.heap.size; omega) _)

theorem MdF.small {g : Nat} {ps : List KV} {K : Nat → Prop} {w : World} (h : Md g ps K w) : ps.length ≤ 1000000 := by obtain ⟨F, v, es, h⟩ := h; rw [h.len]; exact h.ln
/-- An answer that passes through the box of the result. -/
theorem ans_box {w w1 w2 : World} {o : Option KV} {a : Option Addr} {c : Nat} {kk : List Int} {vv : Int} {bb : Bool} (X Y : Value) (hk : keyO o = kk) (hv : valO o = vv) (hbb : o.isSome = bb)
    (ho : w2.ownsRow w1.heap.size 5 1 (.slice a kk.length c) kk.length (u8s kk)) (hb : IsBytes kk) (f2 : Below w.heap.size w w2) (fs : w.heap.size < w1.heap.size) :
    Ans w ((w2.setCell ⟨w.heap.size, 0, none⟩ X).setCell ⟨w.heap.size, 1, none⟩ Y) o (.returned (.tuple #[.agg #[.slice a kk.length c, .int .u64 vv], .bool bb])) := by
  subst hk hv hbb
  refine ⟨a, c, rfl, ?_, hb, (f2.setCell (by show _ ≤ w.heap.size; omega) _).setCell (by show _ ≤ w.heap.size; omega) _⟩
  have h : ((w2.setCell ⟨w.heap.size, 0, none⟩ X).setCell ⟨w.heap.size, 1, none⟩ Y).ownsRow w1.heap.size 5 1 (.slice a (keyO o).length c) (keyO o).length (u8s (keyO o)) := by
    refine owns_same ho (fun k hk => ?_)
    have := (ho.lt k hk).1
    exact (Below.heap_setCell _ ⟨w.heap.size, 1, none⟩ _ _ (by show k ≠ w.heap.size; omega)).trans (Below.heap_setCell _ ⟨w.heap.size, 0, none⟩ _ _ (by show k ≠ w.heap.size; omega))
  refine ⟨h.1, ?_⟩
  rcases h.2 with h | ⟨g, cap, cur, h1, h2, h3⟩
  · exact .inl h
  · exact .inr ⟨g, cap, cur, h1, by omega, h3⟩

set_option maxHeartbeats 1000000 in
theorem floor_any {g : Nat} {ps : List KV} {K : Nat → Prop} (ka : Option Addr) (kc : Nat) (k : List Int) (w : World) (h : Md g ps K w) (ht : Rd w ka k) :
    Calls Try.prog 26 #[.pointer (some ⟨g, 0, none⟩), .slice ka k.length kc] w fun r w' => Ans w w' (floorM k ps) r := by
  have hl := rank_le k ps
  have hl2 := MdF.small h
  have f0 : Below w.heap.size w (w.alloc (boxP none 0 0 0)) := (Below.refl _ w).alloc (Nat.le_refl _) _
  have x0 : Blk (w.alloc (boxP none 0 0 0)) w.heap.size 54 [.slice none 0 0, .int .u64 0] := Blk.new w _ _ _ rfl
  have hm := (Md.lies g ps).below h f0
  have ht0 := ht.below f0 (Nat.le_refl _)
  unfold boxP at f0 x0 hm ht0
  generalize hw0 : (w.alloc (.cells #[.slice none 0 0, .int .u64 0] 54 (0, 0))) = w0 at f0 x0 hm ht0
  have U := hide (upTo_any ka kc k w0 hm ht0)
  obtain ⟨z, hz⟩ : ∃ z : Int, (if isIn k ps then (rankM k ps : Int) + 1 else (rankM k ps : Int)) = z := ⟨_, rfl⟩
  have hzb : 0 ≤ z ∧ z ≤ 1000001 := by rw [← hz]; split <;> omega
  have S := fun w' (f : Below w0.heap.size w0 w') => select_any (z - 1) w' ((Md.lies g ps).below hm f) (by omega) (by omega)
  have hfl : Hid (selM (z - 1) ps = floorM k ps) := by
    show _ = _
    unfold floorM
    congr 1
    rw [← hz]
    split <;> omega
  rw [hz] at U
  have HS := hide S
  have F0 := hide f0
  have X0 := hide x0
  clear hm ht0 S f0 x0 h ht hl hl2 hz
  go_enter Try.func26, Try.ntmps26
  go_wp2_with fail
  refine U.out.mono ?_
  rintro r w1 ⟨rfl, f1⟩
  have S1 := HS.out _ f1
  have F1 := hide f1
  clear f1
  go_wp2_with fail
  refine S1.mono ?_
  rintro r w2 ⟨a, c, rfl, o, hb, f⟩
  have f2 := F1.out.trans (f.mono F1.out.size)
  have x2 := X0.out.below f2 X0.out.lt
  have k0 := x2.cell 0
  have k1 := x2.cell 1
  have k2 := x2.frozen 0
  have k3 := x2.frozen 1
  simp only [List.getElem?_cons_zero, List.getElem?_cons_succ] at k0 k1
  have X2 := hide x2
  have O := hide o
  have HB := hide hb
  have F2 := hide (F0.out.trans (f2.mono F0.out.size))
  have FS : Hid (w.heap.size < w1.heap.size) := by have := F1.out.size; have := X0.out.lt; show _ < _; omega
  obtain ⟨kk, hkk⟩ : ∃ kk, keyO (selM (z - 1) ps) = kk := ⟨_, rfl⟩
  obtain ⟨vv, hvv⟩ : ∃ vv, valO (selM (z - 1) ps) = vv := ⟨_, rfl⟩
  obtain ⟨bb, hbb⟩ : ∃ bb, Option.isSome (selM (z - 1) ps) = bb := ⟨_, rfl⟩
  rw [hkk] at O HB ⊢
  rw [hvv, hbb]
  have HKK := hide hkk
  have HVV := hide hvv
  have HBB := hide hbb
  clear x2 o hb f f2 S1 hw0 hkk hvv hbb
  go_wp2_with fail
  have hbx := X2.out.pair (x' := .slice a kk.length c) (y' := .int .u64 vv)
  refine bodyPost_ret (results_pair2 rfl _ _ w.heap.size _ _ rfl hbx) rfl ?_
  rw [← hfl.out]
  exact ans_box _ _ HKK.out HVV.out HBB.out O.out HB.out F2.out FS.out
set_option maxHeartbeats 1000000 in
theorem ceil_any {g : Nat} {ps : List KV} {K : Nat → Prop} (ka : Option Addr) (kc : Nat) (k : List Int) (w : World) (h : Md g ps K w) (ht : Rd w ka k) :
    Calls Try.prog 27 #[.pointer (some ⟨g, 0, none⟩), .slice ka k.length kc] w fun r w' => Ans w w' (ceilM k ps) r := by
  unfold ceilM
  have hl := rank_le k ps
  have hl2 := MdF.small h
  have f0 : Below w.heap.size w (w.alloc (boxP none 0 0 0)) := (Below.refl _ w).alloc (Nat.le_refl _) _
  have x0 : Blk (w.alloc (boxP none 0 0 0)) w.heap.size 54 [.slice none 0 0, .int .u64 0] := Blk.new w _ _ _ rfl
  have hm := (Md.lies g ps).below h f0
  have ht0 := ht.below f0 (Nat.le_refl _)
  unfold boxP at f0 x0 hm ht0
  generalize hw0 : (w.alloc (.cells #[.slice none 0 0, .int .u64 0] 54 (0, 0))) = w0 at f0 x0 hm ht0
  have U := hide (rank_any ka kc k w0 hm ht0)
  generalize rankM k ps = z at U hl ⊢
  have S := fun w' (f : Below w0.heap.size w0 w') => select_any (z : Int) w' ((Md.lies g ps).below hm f) (by omega) (by omega)
  have HS := hide S
  have F0 := hide f0
  have X0 := hide x0
  clear hm ht0 S f0 x0 h ht hl2
  go_enter Try.func27, Try.ntmps27
  go_wp2_with fail
  refine U.out.mono ?_
  rintro r w1 ⟨rfl, f1⟩
  have S1 := HS.out _ f1
  have F1 := hide f1
  clear f1
  go_wp2_with fail
  refine S1.mono ?_
  rintro r w2 ⟨a, c, rfl, o, hb, f⟩
  have f2 := F1.out.trans (f.mono F1.out.size)
  have x2 := X0.out.below f2 X0.out.lt
  have k0 := x2.cell 0
  have k1 := x2.cell 1
  have k2 := x2.frozen 0
  have k3 := x2.frozen 1
  simp only [List.getElem?_cons_zero, List.getElem?_cons_succ] at k0 k1
  have X2 := hide x2
  have O := hide o
  have HB := hide hb
  have F2 := hide (F0.out.trans (f2.mono F0.out.size))
  have FS : Hid (w.heap.size < w1.heap.size) := by have := F1.out.size; have := X0.out.lt; show _ < _; omega
  obtain ⟨kk, hkk⟩ : ∃ kk, keyO (selM (z : Int) ps) = kk := ⟨_, rfl⟩
  obtain ⟨vv, hvv⟩ : ∃ vv, valO (selM (z : Int) ps) = vv := ⟨_, rfl⟩
  obtain ⟨bb, hbb⟩ : ∃ bb, Option.isSome (selM (z : Int) ps) = bb := ⟨_, rfl⟩
  rw [hkk] at O HB ⊢
  rw [hvv, hbb]
  have HKK := hide hkk
  have HVV := hide hvv
  have HBB := hide hbb
  clear x2 o hb f f2 S1 hw0 hkk hvv hbb
  go_wp2_with fail
  have hbx := X2.out.pair (x' := .slice a kk.length c) (y' := .int .u64 vv)
  refine bodyPost_ret (results_pair2 rfl _ _ w.heap.size _ _ rfl hbx) rfl ?_
  exact ans_box _ _ HKK.out HVV.out HBB.out O.out HB.out F2.out FS.out
set_option maxHeartbeats 1000000 in
theorem floor_nil (ka : Option Addr) (kc : Nat) (k : List Int) (w : World) (ht : Rd w ka k) :
    Calls Try.prog 26 #[.pointer none, .slice ka k.length kc] w fun r w' => Ans w w' none r := by
  have f0 : Below w.heap.size w (w.alloc (boxP none 0 0 0)) := (Below.refl _ w).alloc (Nat.le_refl _) _
  have x0 : Blk (w.alloc (boxP none 0 0 0)) w.heap.size 54 [.slice none 0 0, .int .u64 0] := Blk.new w _ _ _ rfl
  have ht0 := ht.below f0 (Nat.le_refl _)
  unfold boxP at f0 x0 ht0
  generalize hw0 : (w.alloc (.cells #[.slice none 0 0, .int .u64 0] 54 (0, 0))) = w0 at f0 x0 ht0
  have U := hide (upTo_nil ka kc k w0 ht0)
  have S := fun w' (f : Below w0.heap.size w0 w') => select_nil (0 - 1) w' (by omega) (by omega)
  have HS := hide S
  have F0 := hide f0
  have X0 := hide x0
  clear ht0 S f0 x0 ht
  go_enter Try.func26, Try.ntmps26
  go_wp2_with fail
  refine U.out.mono ?_
  rintro r w1 ⟨rfl, f1⟩
  have S1 := HS.out _ f1
  have F1 := hide f1
  clear f1
  go_wp2_with fail
  refine S1.mono ?_
  rintro r w2 ⟨a, c, rfl, o, hb, f⟩
  have f2 := F1.out.trans (f.mono F1.out.size)
  have x2 := X0.out.below f2 X0.out.lt
  have k0 := x2.cell 0
  have k1 := x2.cell 1
  have k2 := x2.frozen 0
  have k3 := x2.frozen 1
  simp only [List.getElem?_cons_zero, List.getElem?_cons_succ] at k0 k1
  have X2 := hide x2
  have O := hide o
  have HB := hide hb
  have F2 := hide (F0.out.trans (f2.mono F0.out.size))
  have FS : Hid (w.heap.size < w1.heap.size) := by have := F1.out.size; have := X0.out.lt; show _ < _; omega
  obtain ⟨kk, hkk⟩ : ∃ kk, keyO (none : Option KV) = kk := ⟨_, rfl⟩
  obtain ⟨vv, hvv⟩ : ∃ vv, valO (none : Option KV) = vv := ⟨_, rfl⟩
  obtain ⟨bb, hbb⟩ : ∃ bb, Option.isSome (none : Option KV) = bb := ⟨_, rfl⟩
  rw [hkk] at O HB ⊢
  rw [hvv, hbb]
  have HKK := hide hkk
  have HVV := hide hvv
  have HBB := hide hbb
  clear x2 o hb f f2 S1 hw0 hkk hvv hbb
  go_wp2_with fail
  have hbx := X2.out.pair (x' := .slice a kk.length c) (y' := .int .u64 vv)
  refine bodyPost_ret (results_pair2 rfl _ _ w.heap.size _ _ rfl hbx) rfl ?_
  exact ans_box _ _ HKK.out HVV.out HBB.out O.out HB.out F2.out FS.out
end Go.Proofs.Ytahlbebkcoofkaa
