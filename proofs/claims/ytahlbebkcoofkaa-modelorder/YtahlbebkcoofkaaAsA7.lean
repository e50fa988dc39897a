/- What bramblelaw7.asked has answered, and how it stands. -/
import Derived.Test.YtahlbebkcoofkaaRfH
import Derived.Test.YtahlbebkcoofkaaCp8
import Derived.Test.YtahlbebkcoofkaaPr7
namespace Go.Proofs.Ytahlbebkcoofkaa
open Go.RowKit Go.Sort
set_option linter.unusedVariables false
set_option linter.unusedSimpArgs false
set_option maxRecDepth 20000

/-- A key that was answered: in a block of its own from lo on, below hi. -/
structure It (w : World) (lo hi : Nat) (a : Option Addr) (c : Nat) (k : List Int) : Prop where
  o : w.ownsRow lo 5 1 (.slice a k.length c) k.length (u8s k)
  t : ∀ x, (Value.slice a k.length c).ownBlock = some x → x < hi
  b : IsBytes k
section
variable {w w' w1 : World} {lo hi c : Nat} {a : Option Addr} {k : List Int} {K : Nat → Prop}
theorem It.below (h : It w lo hi a c k) (f : Below w.heap.size w w') : It w' lo hi a c k := ⟨owns_same h.o (fun x hx => f.block x (h.o.lt x hx).2), h.t, h.b⟩
theorem It.kp (h : It w lo hi a c k) (f : Kp K w w') (hK : ∀ x, lo ≤ x → K x) : It w' lo hi a c k := ⟨owns_kp h.o f (fun x hx => hK x (h.o.lt x hx).1), h.t, h.b⟩
theorem It.rd (h : It w lo hi a c k) : Rd w a k := by
  obtain ⟨a', c', e, r, _⟩ := owns_rd h.o h.b
  simp only [Value.slice.injEq] at e
  obtain ⟨rfl, -, rfl⟩ := e
  exact r
end
/-- A pair that was answered. -/
theorem ans_it {w w' : World} {o : Option KV} {r : Ending} (h : Ans w w' o r) : ∃ a c, r = .returned (.tuple #[.agg #[.slice a (keyO o).length c, .int .u64 (valO o)], .bool o.isSome]) ∧ It w' w.heap.size w'.heap.size a c (keyO o) ∧ Below w.heap.size w w' := by
  obtain ⟨a, c, e, ho, hb, f⟩ := h
  exact ⟨a, c, e, ⟨ho, fun x hx => (ho.lt x hx).2, hb⟩, f⟩
/-- The same by letters. -/
theorem ans_let {w w' : World} {o : Option KV} {r : Ending} {q : List Int} {u : Int} {t : Bool} (h : Ans w w' o r) (hq : keyO o = q) (hu : valO o = u) (ht : o.isSome = t) : ∃ a c, r = .returned (.tuple #[.agg #[.slice a q.length c, .int .u64 u], .bool t]) ∧ It w' w.heap.size w'.heap.size a c q ∧ Below w.heap.size w w' := by
  subst hq hu ht
  exact ans_it h
theorem lst_lk {B : Nat} {w : World} {v : Value} {es : List Ent} (h : Lst B w v es) : Rf.Lk B w v es := by
  refine ⟨h.row, fun e he => ?_, h.ln⟩
  obtain ⟨b, h1, h2, h3, h4, h5, h6, h7⟩ := h.own.ks e he
  refine ⟨⟨by simp [u8s], .inr ⟨b, e.k.length, (u8s e.k).toArray, by rw [h1, h4], h2, h3, Nat.le_refl _, by unfold maxLen; omega, by simp [u8s], by simp [u8s, List.take_of_length_le]⟩⟩, h5, h7⟩
theorem lst_apart {B : Nat} {w : World} {v : Value} {es : List Ent} (h : Lst B w v es) : Apart es := by
  have hd := h.own.ds
  have hk := h.own.ks
  clear h
  unfold Apart
  induction es with
  | nil => exact List.Pairwise.nil
  | cons x xs ih =>
    rw [List.pairwise_cons] at hd ⊢
    refine ⟨fun y hy k h1 h2 => ?_, ih hd.2 (fun e he => hk e (by simp [he]))⟩
    obtain ⟨b1, e1, _⟩ := hk x (by simp)
    obtain ⟨b2, e2, _⟩ := hk y (by simp [hy])
    have := hd.1 y hy
    rw [e1] at h1 this
    rw [e2] at h2 this
    simp only [Value.ownBlock, Option.some.injEq] at h1 h2
    exact this (by rw [h1, h2])
/-- What lies from B on stands where that is kept. -/
theorem lst_kp {B : Nat} {w w' : World} {v : Value} {es : List Ent} {K : Nat → Prop} (h : Lst B w v es) (f : Kp K w w') (hK : ∀ x, B ≤ x → K x) : Lst B w' v es :=
  ⟨owns_kp h.row f (fun x hx => hK x (h.row.lt x hx).1), ⟨fun e he => by
    obtain ⟨b, h1, h2, h3, h4⟩ := h.own.ks e he
    exact ⟨b, h1, h2, h3.kp f (hK b h2), h4⟩, h.own.ds⟩, h.ln⟩

/-- Both maps, and the key that was lent. -/
structure SA (gm gw : Nat) (Q : List KV) (K : Nat → Prop) (w0 : World) (gin : Nat) (k : List Int) (w : World) : Prop where
  b : Both (Md gm Q) (Rf.Md gw Q) K w
  f : Below w0.heap.size w0 w
  i : Blk w gin 5 (u8s (lentK k 3))
  g : w0.heap.size ≤ gin
section
variable {gm gw gin : Nat} {Q : List KV} {K : Nat → Prop} {w0 w w' : World} {k : List Int}
theorem SA.below (h : SA gm gw Q K w0 gin k w) (f : Below w.heap.size w w') : SA gm gw Q K w0 gin k w' :=
  ⟨(Both.lies _ _).below h.b f, h.f.trans (f.mono h.f.size), h.i.below f h.i.lt, h.g⟩
theorem SA.still (h : SA gm gw Q K w0 gin k w) (f : Still w w') : SA gm gw Q K w0 gin k w' := by
  obtain ⟨d, rfl⟩ := f
  exact h.below ⟨rfl, rfl, rfl, Nat.le_refl _, fun _ _ => rfl⟩
/-- What lies between N0 and N1 may turn. -/
theorem SA.more (h : SA gm gw Q K w0 gin k w) (f : Below w.heap.size w w') : SA gm gw Q (fun x => K x ∨ w.heap.size ≤ x ∧ x < w'.heap.size) w0 gin k w' :=
  ⟨(Both.lies _ _).more h.b f, h.f.trans (f.mono h.f.size), h.i.below f h.i.lt, h.g⟩
theorem SA.md (h : SA gm gw Q K w0 gin k w) : ∃ K1, Md gm Q K1 w := let ⟨K1, _, a, _⟩ := h.b.left; ⟨K1, a⟩
theorem SA.rf (h : SA gm gw Q K w0 gin k w) : ∃ K1, Rf.Md gw Q K1 w := let ⟨K1, _, a, _⟩ := h.b.right; ⟨K1, a⟩
theorem lent_rd {w : World} {g : Nat} {k : List Int} (h : Blk w g 5 (u8s (lentK k 3))) (hb : IsBytes k) (hl : k.length ≤ 1000000) : Rd w (some ⟨g, 0, none⟩) k := by
  refine ⟨hb, by unfold maxLen; omega, .inr ⟨g, 0, rfl, fun i hi => ?_⟩⟩
  rw [Nat.zero_add, h.cell i]
  unfold lentK u8s
  rw [List.map_append, List.getElem?_append_left (by simpa using hi)]
  simp [List.getD_eq_getElem?_getD, hi]
/-- Two answers are held against each other, the first one is written over. -/
theorem SA.pair {N0 N1 lo hi : Nat} (h : SA gm gw Q (fun x => K x ∨ N0 ≤ x ∧ x < N1) w0 gin k w) (hg : gin < N0) {a b : Option Addr} {ca cb : Nat} {q : List Int} (i1 : It w lo hi a ca q) (i2 : Rd w b q) (hlo : N0 ≤ lo) (hhi : hi ≤ N1) (hls : lo ≤ w.heap.size) (hq : q.length ≤ 1000000) (v : Int) (ok : Bool) :
    Calls Try.prog 53 #[.agg #[.slice a q.length ca, .int .u64 v], .bool ok, .agg #[.slice b q.length cb, .int .u64 v], .bool ok] w fun r w' => r = .returned (.bool true) ∧ SA gm gw Q (fun x => K x ∨ N0 ≤ x ∧ x < N1) w0 gin k w' ∧ Kp (fun x => x < lo ∨ hi ≤ x) w w' ∧ ∀ (g : Nat) (e : TypeId) (cur : List Value), 5 ≠ e → Blk w g e cur → Blk w' g e cur := by
  refine (pair7_any a b ca cb q v ok lo w i1.o i2 hq hls).mono ?_
  rintro r w' ⟨rfl, w1, f1, g1⟩
  have hrow : ∀ x, (Value.slice a q.length ca).ownBlock = some x → lo ≤ x ∧ x < hi := fun x hx => ⟨(i1.o.lt x hx).1, i1.t x hx⟩
  have h1 := h.below f1
  refine ⟨rfl, ⟨(Both.lies _ _).grown h1.b g1 (fun x hx => .inr ⟨by have := (hrow x hx).1; omega, by have := (hrow x hx).2; omega⟩), h1.f.grown g1 h1.f.size (fun x hx => by have := (hrow x hx).1; have := h.g; omega), ?_, h.g⟩, ?_⟩
  · exact (g1.block gin h1.i.lt (fun e => by have := (hrow gin e.symm).1; omega)).trans h1.i
  · refine ⟨(⟨f1.os, f1.tape, f1.output, f1.size, fun x _ hl => f1.block x hl⟩ : Kp (fun x => x < lo ∨ hi ≤ x) w w1).grown g1 (fun x hx hk => by have := hrow x hx; omega), ?_⟩
    intro g e cur he hb
    exact (g1.block g (Nat.lt_of_lt_of_le hb.lt f1.size) (fun e2 => owns_apart i1.o hb he e2.symm)).trans (hb.below f1 hb.lt)

abbrev Itm := Nat × Nat × Option Addr × Nat × List Int
/-- How the answers lie behind one another. -/
structure Beh (N0 N1 B : Nat) (L : List Itm) : Prop where
  pw : L.Pairwise (fun s t => s.2.1 ≤ t.1)
  n : ∀ t ∈ L, N0 ≤ t.1 ∧ t.1 ≤ t.2.1 ∧ t.2.1 ≤ N1 ∧ t.2.1 ≤ B
/-- All that the compares read. -/
structure SR (gm gw : Nat) (Q : List KV) (K : Nat → Prop) (w0 : World) (gin : Nat) (k : List Int) (N0 N1 : Nat) (hd : Value) (G : List (Nat × Value × Value)) (L : List Itm) (B : Nat) (v : Value) (fs : List Ent) (w : World) : Prop where
  s : SA gm gw Q (fun x => K x ∨ N0 ≤ x ∧ x < N1) w0 gin k w
  h : Blk w gw 50 [hd]
  x : ∀ p ∈ G, Blk w p.1 54 [p.2.1, p.2.2]
  it : ∀ t ∈ L, It w t.1 t.2.1 t.2.2.1 t.2.2.2.1 t.2.2.2.2
  l : Lst B w v fs
  gl : gin < N0
  nl : N1 ≤ w.heap.size
variable {N0 N1 B : Nat} {hd v : Value} {G : List (Nat × Value × Value)} {L : List Itm} {fs : List Ent}
theorem SR.below (h : SR gm gw Q K w0 gin k N0 N1 hd G L B v fs w) (f : Below w.heap.size w w') : SR gm gw Q K w0 gin k N0 N1 hd G L B v fs w' :=
  ⟨h.s.below f, h.h.below f h.h.lt, fun p hp => (h.x p hp).below f (h.x p hp).lt, fun t ht => (h.it t ht).below f, h.l.below f, h.gl, Nat.le_trans h.nl f.size⟩
theorem SR.still (h : SR gm gw Q K w0 gin k N0 N1 hd G L B v fs w) (f : Still w w') : SR gm gw Q K w0 gin k N0 N1 hd G L B v fs w' := by
  obtain ⟨d, rfl⟩ := f
  exact h.below ⟨rfl, rfl, rfl, Nat.le_refl _, fun _ _ => rfl⟩
theorem SR.drew (h : SR gm gw Q K w0 gin k N0 N1 hd G L B v fs w) : SR gm gw Q K w0 gin k N0 N1 hd G L B v fs w.drew := h.still ⟨1, rfl⟩
theorem SR.pair {lo hi lo' hi' : Nat} {a b : Option Addr} {ca cb : Nat} {q : List Int} (h : SR gm gw Q K w0 gin k N0 N1 hd G ((lo, hi, a, ca, q) :: (lo', hi', b, cb, q) :: L) B v fs w) (st : Beh N0 N1 B ((lo, hi, a, ca, q) :: (lo', hi', b, cb, q) :: L)) (hq : q.length ≤ 1000000) (u : Int) (ok : Bool) :
    Calls Try.prog 53 #[.agg #[.slice a q.length ca, .int .u64 u], .bool ok, .agg #[.slice b q.length cb, .int .u64 u], .bool ok] w fun r w' => r = .returned (.bool true) ∧ SR gm gw Q K w0 gin k N0 N1 hd G L B v fs w' := by
  have i1 := h.it _ (List.mem_cons_self ..)
  have i2 := h.it _ (List.mem_cons_of_mem _ (List.mem_cons_self ..))
  have n1 := st.n _ (List.mem_cons_self ..)
  have pw := (List.pairwise_cons.1 st.pw).1
  simp only at i1 i2 n1
  have hnl := h.nl
  refine (h.s.pair h.gl i1 i2.rd n1.1 n1.2.2.1 (by omega) hq u ok).mono ?_
  rintro r w' ⟨rfl, s, kp, bx⟩
  refine ⟨rfl, s, bx _ _ _ (by decide) h.h, fun p hp => bx _ _ _ (by decide) (h.x p hp), fun t ht => ?_, lst_kp h.l kp (fun x hx => .inr (by omega)), h.gl, Nat.le_trans h.nl kp.size⟩
  have h1 := h.it t (List.mem_cons_of_mem _ (List.mem_cons_of_mem _ ht))
  have h2 := pw t (List.mem_cons_of_mem _ ht)
  exact h1.kp kp (fun x hx => .inr (Nat.le_trans h2 hx))
theorem Beh.tail {s t : Itm} (h : Beh N0 N1 B (s :: t :: L)) : Beh N0 N1 B L :=
  ⟨(List.pairwise_cons.1 (List.pairwise_cons.1 h.pw).2).2, fun x hx => h.n x (List.mem_cons_of_mem _ (List.mem_cons_of_mem _ hx))⟩
theorem SR.rank (h : SR gm gw Q K w0 gin k N0 N1 hd G L B v fs w) (hb : IsBytes k) (hl : k.length ≤ 40) : Calls Try.prog 29 #[.pointer (some ⟨gm, 0, none⟩), .slice (some ⟨gin, 0, none⟩) k.length (k.length + 3)] w fun r w' => r = .returned (.int .i64 (rankM k Q : Nat)) ∧ SR gm gw Q K w0 gin k N0 N1 hd G L B v fs w' := by
  obtain ⟨K1, a⟩ := h.s.md
  exact (rank_any _ _ k w a (lent_rd h.s.i hb (by omega))).mono fun r w' ⟨e, f⟩ => ⟨e, h.below f⟩
theorem SR.rrank (h : SR gm gw Q K w0 gin k N0 N1 hd G L B v fs w) {ka : Option Addr} {kc : Nat} (hk : Rd w0 ka k) : Calls Try.prog 54 #[.pointer (some ⟨gw, 0, none⟩), .slice ka k.length kc] w fun r w' => r = .returned (.int .i64 (rankM k Q : Nat)) ∧ SR gm gw Q K w0 gin k N0 N1 hd G L B v fs w' := by
  obtain ⟨K1, a⟩ := h.s.rf
  exact (Rf.rank_any ka kc k w a (hk.below h.s.f (Nat.le_refl _))).mono fun r w' ⟨e, f⟩ => ⟨e, h.below f⟩
theorem SR.rfrom (h : SR gm gw Q K w0 gin k N0 N1 hd G L B v fs w) {ka : Option Addr} {kc : Nat} (hk : Rd w0 ka k) (n : Int) (h0 : -9223372036854775808 ≤ n) (h1 : n ≤ 9223372036854775807) : Calls Try.prog 55 #[.pointer (some ⟨gw, 0, none⟩), .slice ka k.length kc, .int .i64 n] w fun r w' => ∃ a c es, r = .returned (.slice a es.length c) ∧ Rp w' a es ∧ es.map Ent.kv = fromM k n Q ∧ SR gm gw Q K w0 gin k N0 N1 hd G L B v fs w' := by
  obtain ⟨K1, a⟩ := h.s.rf
  refine (Rf.from_any ka kc k n w a (hk.below h.s.f (Nat.le_refl _)) h0 h1).mono ?_
  rintro r w' ⟨a, c, es, rfl, hr, hm, f⟩
  exact ⟨a, c, es, rfl, hr, hm, h.below f⟩
theorem SR.same {al : Option Addr} {cl : Nat} (h : SR gm gw Q K w0 gin k N0 N1 hd G L B (.slice al fs.length cl) fs w) {a : Option Addr} {c : Nat} {es : List Ent} (hr : Rp w a es) (he : fs.map Ent.kv = es.map Ent.kv) : Calls Try.prog 24 #[.slice al fs.length cl, .slice a es.length c] w fun r w' => r = .returned (.bool true) ∧ SR gm gw Q K w0 gin k N0 N1 hd G L B (.slice al fs.length cl) fs w' := by
  obtain ⟨a', c', e, hl⟩ := h.l.rp
  simp only [Value.slice.injEq] at e
  obtain ⟨rfl, -, rfl⟩ := e
  refine (samePairs_any fs es al a cl c w hl hr).mono ?_
  rintro r w' ⟨rfl, st⟩
  exact ⟨by rw [decide_eq_true he], h.still st⟩
theorem SR.len (h : SR gm gw Q K w0 gin k N0 N1 hd G L B v fs w) : Calls Try.prog 25 #[.pointer (some ⟨gm, 0, none⟩)] w fun r w' => r = .returned (.int .i64 (Q.length : Nat)) ∧ SR gm gw Q K w0 gin k N0 N1 hd G L B v fs w' := by
  obtain ⟨K1, a⟩ := h.s.md
  exact (len_any w a).mono fun r w' ⟨e, f⟩ => ⟨e, by rw [f]; exact h⟩
theorem SR.box (h : SR gm gw Q K w0 gin k N0 N1 hd G L B v fs w) {g : Nat} {x y : Value} (hm : (g, x, y) ∈ G) : w.cell? ⟨g, 0, none⟩ = some x ∧ w.cell? ⟨g, 1, none⟩ = some y := by
  have b := h.x _ hm
  exact ⟨b.cell 0, b.cell 1⟩
theorem SR.cells8 {g0 g1 g2 g3 g4 g5 g6 g7 : Nat} {x0 x1 x2 x3 x4 x5 x6 x7 y0 y1 y2 y3 y4 y5 y6 y7 : Value} (h : SR gm gw Q K w0 gin k N0 N1 hd [(g0, x0, y0), (g1, x1, y1), (g2, x2, y2), (g3, x3, y3), (g4, x4, y4), (g5, x5, y5), (g6, x6, y6), (g7, x7, y7)] L B v fs w) : w.cell? ⟨gw, 0, none⟩ = some hd ∧ w.cell? ⟨g0, 0, none⟩ = some x0 ∧ w.cell? ⟨g0, 1, none⟩ = some y0 ∧ w.cell? ⟨g1, 0, none⟩ = some x1 ∧ w.cell? ⟨g1, 1, none⟩ = some y1 ∧ w.cell? ⟨g2, 0, none⟩ = some x2 ∧ w.cell? ⟨g2, 1, none⟩ = some y2 ∧ w.cell? ⟨g3, 0, none⟩ = some x3 ∧ w.cell? ⟨g3, 1, none⟩ = some y3 ∧ w.cell? ⟨g4, 0, none⟩ = some x4 ∧ w.cell? ⟨g4, 1, none⟩ = some y4 ∧ w.cell? ⟨g5, 0, none⟩ = some x5 ∧ w.cell? ⟨g5, 1, none⟩ = some y5 ∧ w.cell? ⟨g6, 0, none⟩ = some x6 ∧ w.cell? ⟨g6, 1, none⟩ = some y6 ∧ w.cell? ⟨g7, 0, none⟩ = some x7 ∧ w.cell? ⟨g7, 1, none⟩ = some y7 := by
  have b0 := h.box (g := g0) (x := x0) (y := y0) (by simp)
  have b1 := h.box (g := g1) (x := x1) (y := y1) (by simp)
  have b2 := h.box (g := g2) (x := x2) (y := y2) (by simp)
  have b3 := h.box (g := g3) (x := x3) (y := y3) (by simp)
  have b4 := h.box (g := g4) (x := x4) (y := y4) (by simp)
  have b5 := h.box (g := g5) (x := x5) (y := y5) (by simp)
  have b6 := h.box (g := g6) (x := x6) (y := y6) (by simp)
  have b7 := h.box (g := g7) (x := x7) (y := y7) (by simp)
  exact ⟨h.h.cell 0, b0.1, b0.2, b1.1, b1.2, b2.1, b2.2, b3.1, b3.2, b4.1, b4.2, b5.1, b5.2, b6.1, b6.2, b7.1, b7.2⟩
/-- The list that was answered is written over. -/
theorem SR.over {al : Option Addr} {cl : Nat} (h : SR gm gw Q K w0 gin k N0 N1 hd G [] B (.slice al fs.length cl) fs w) (hN : ∀ x, ((Value.slice al fs.length cl).ownBlock = some x ∨ ∃ e ∈ fs, (Value.slice e.a e.k.length e.c).ownBlock = some x) → x < N1) (hk : ∀ e ∈ fs, e.k.length ≤ 65535) (hB : N0 ≤ B ∧ B ≤ N1) :
    Calls Try.prog 14 #[.slice al fs.length cl] w fun r w' => r = .returned (.tuple #[]) ∧ SA gm gw Q K w0 gin k w' := by
  have hnl := h.nl
  refine (over_in fs al cl B w (lst_lk h.l) (lst_apart h.l) (by omega) N1 hN hk).mono ?_
  rintro r w' ⟨rfl, kp⟩
  have hgl := h.gl
  have hg := h.s.g
  refine ⟨rfl, (Both.lies _ _).weaken ((Both.lies _ _).kp h.s.b kp (fun x _ hx => ?_)) (fun x hx => .inl hx), h.s.f.trans (kp.below h.s.f.size (fun x hx => .inl (by omega))), h.s.i.kp kp (.inl (by omega)), h.s.g⟩
  rcases Nat.lt_or_ge x B with h1 | h1
  · exact .inl h1
  · refine .inr ?_
    rcases Nat.lt_or_ge x N1 with h2 | h2
    · exact absurd (.inr ⟨by omega, h2⟩) hx
    · exact h2
theorem SA.kept (h : SA gm gw Q K w0 gin k w) {ka : Option Addr} {kc : Nat} (hk : Rd w0 ka k) (hl : k.length ≤ 40) : Calls Try.prog 56 #[.slice (some ⟨gin, 0, none⟩) k.length (k.length + 3), .slice ka k.length kc] w fun r w' => r = .returned (.bool true) ∧ SA gm gw Q K w0 gin k w' :=
  (kept_any gin ka k kc w h.i (hk.below h.f (Nat.le_refl _)) (by omega)).mono fun r w' ⟨e, st⟩ => ⟨e, h.still st⟩
theorem lst_lt {B : Nat} {w : World} {v : Value} {es : List Ent} (h : Lst B w v es) : ∀ x, (v.ownBlock = some x ∨ ∃ e ∈ es, (Value.slice e.a e.k.length e.c).ownBlock = some x) → x < w.heap.size := by
  rintro x (hx | ⟨e, he, hx⟩)
  · exact (h.row.lt x hx).2
  · obtain ⟨b, h1, h2, h3, h4⟩ := h.own.ks e he
    rw [h1] at hx
    simp only [Value.ownBlock, Option.some.injEq] at hx
    rw [← hx]
    exact h3.lt
end
end Go.Proofs.Ytahlbebkcoofkaa
