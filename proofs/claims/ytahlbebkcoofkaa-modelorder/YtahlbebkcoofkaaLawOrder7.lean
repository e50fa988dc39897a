/- ModelOrder. -/
import Derived.Test.YtahlbebkcoofkaaOrd7
import Derived.Test.YtahlbebkcoofkaaAsA7
import Derived.Deep.RegionHeld3
import Derived.Deep.DeepCutAuto
import Derived.Deep.CutBlock
import Derived.Deep.LoopGhost
namespace Go.Proofs.Ytahlbebkcoofkaa
open Go.RowKit Go.Sort
set_option linter.unusedVariables false
set_option linter.unusedSimpArgs false
set_option maxRecDepth 20000

/-- The map, and the list that it answered. -/
structure MO (w0 : World) (g : Nat) (M : List KV) (K : Nat → Prop) (B : Nat) (a : Option Addr) (c : Nat) (al : List Ent) (w : World) : Prop where
  m : Md g M K w
  f : Below w0.heap.size w0 w
  l : Lst B w (.slice a al.length c) al
  e : al.map Ent.kv = M
  b : w0.heap.size ≤ B
section
variable {w0 w w' : World} {g B c : Nat} {M : List KV} {K : Nat → Prop} {a : Option Addr} {al : List Ent}
theorem MO.below (h : MO w0 g M K B a c al w) (f : Below w.heap.size w w') : MO w0 g M K B a c al w' := ⟨(Md.lies _ _).below h.m f, h.f.trans (f.mono h.f.size), h.l.below f, h.e, h.b⟩
theorem MO.drew (h : MO w0 g M K B a c al w) : MO w0 g M K B a c al w.drew := h.below ⟨rfl, rfl, rfl, Nat.le_refl _, fun _ _ => rfl⟩
theorem MO.rp (h : MO w0 g M K B a c al w) : Rp w a al := by
  obtain ⟨a', c', e, hr⟩ := h.l.rp
  simp only [Value.slice.injEq] at e
  obtain ⟨rfl, -, rfl⟩ := e
  exact hr
theorem MO.len (h : MO w0 g M K B a c al w) : al.length = M.length := by rw [← h.e, List.length_map]
theorem MO.at (h : MO w0 g M K B a c al w) {i : Nat} (hi : i < M.length) : ∃ b off e, a = some ⟨b, off, none⟩ ∧ al[i]? = some e ∧ M[i]? = some e.kv ∧ ∀ w', Below w.heap.size w w' → w'.cell? ⟨b, off + i * 2, none⟩ = some (.slice e.a e.k.length e.c) ∧ w'.cell? ⟨b, off + i * 2 + 1, none⟩ = some (.int .u64 e.v) ∧ Rd w' e.a e.k := by
  have hl := h.len
  obtain ⟨e, he⟩ : ∃ e, al[i]? = some e := ⟨al[i]'(by omega), List.getElem?_eq_getElem (by omega)⟩
  have hr := h.rp
  obtain ⟨b, off, rfl, c0, c1⟩ := hr.cells he
  refine ⟨b, off, e, rfl, he, by rw [← h.e]; simp [he], fun w' f => ?_⟩
  obtain ⟨b', off', e', d0, d1⟩ := (hr.below f (Nat.le_refl _)).cells he
  simp only [Option.some.injEq, Addr.mk.injEq] at e'
  obtain ⟨rfl, rfl, -⟩ := e'
  exact ⟨d0, d1, ((hr.below f (Nat.le_refl _)).2.1 e (List.mem_of_getElem? he)).1⟩
end
theorem rp3 {w : World} {b : Nat} {x y z : Ent} (h : Blk w b 54 [.slice x.a x.k.length x.c, .int .u64 x.v, .slice y.a y.k.length y.c, .int .u64 y.v, .slice z.a z.k.length z.c, .int .u64 z.v]) (hx : Ok w x) (hy : Ok w y) (hz : Ok w z) : Rp w (some ⟨b, 0, none⟩) [x, y, z] := by
  refine ⟨by simp, fun e he => ?_, .inr ⟨b, 0, rfl, fun i e he => ?_⟩⟩
  · simp at he
    rcases he with rfl | rfl | rfl <;> assumption
  · match i, he with
    | 0, he => simp at he; subst he; exact ⟨h.cell 0, h.cell 1⟩
    | 1, he => simp at he; subst he; exact ⟨h.cell 2, h.cell 3⟩
    | 2, he => simp at he; subst he; exact ⟨h.cell 4, h.cell 5⟩
    | n + 3, he => simp at he
/-- What a round of the first loop reads. -/
structure LO (w0 : World) (g : Nat) (M : List KV) (K : Nat → Prop) (B : Nat) (qb qo c : Nat) (al : List Ent) (i : Nat) (e : Ent) (g0 g1 g2 : Nat) (E0 E1 E2 : Ent) (w : World) : Prop where
  s : MO w0 g M K B (some ⟨qb, qo, none⟩) c al w
  c0 : w.cell? ⟨qb, qo + i * 2, none⟩ = some (.slice e.a e.k.length e.c)
  c1 : w.cell? ⟨qb, qo + i * 2 + 1, none⟩ = some (.int .u64 e.v)
  x0 : Blk w g0 54 E0.cells
  x1 : Blk w g1 54 E1.cells
  x2 : Blk w g2 54 E2.cells
  r : Ok w e
  r0 : Ok w E0
  r1 : Ok w E1
  r2 : Ok w E2
section
variable {w0 w w' : World} {g B c qb qo i g0 g1 g2 : Nat} {M : List KV} {K : Nat → Prop} {al : List Ent} {e E0 E1 E2 : Ent}
theorem LO.below (h : LO w0 g M K B qb qo c al i e g0 g1 g2 E0 E1 E2 w) (f : Below w.heap.size w w') : LO w0 g M K B qb qo c al i e g0 g1 g2 E0 E1 E2 w' :=
  ⟨h.s.below f, (f.cell (World.block_lt_of_cell? w _ h.c0)).trans h.c0, (f.cell (World.block_lt_of_cell? w _ h.c1)).trans h.c1, h.x0.below f h.x0.lt, h.x1.below f h.x1.lt, h.x2.below f h.x2.lt, h.r.below f (Nat.le_refl _), h.r0.below f (Nat.le_refl _), h.r1.below f (Nat.le_refl _), h.r2.below f (Nat.le_refl _)⟩
theorem LO.drew (h : LO w0 g M K B qb qo c al i e g0 g1 g2 E0 E1 E2 w) : LO w0 g M K B qb qo c al i e g0 g1 g2 E0 E1 E2 w.drew := h.below ⟨rfl, rfl, rfl, Nat.le_refl _, fun _ _ => rfl⟩
theorem LO.alloc (h : LO w0 g M K B qb qo c al i e g0 g1 g2 E0 E1 E2 w) (o : Obj) : LO w0 g M K B qb qo c al i e g0 g1 g2 E0 E1 E2 (w.alloc o) := h.below ((Below.refl _ _).alloc (Nat.le_refl _) _)
theorem LO.cells (h : LO w0 g M K B qb qo c al i e g0 g1 g2 E0 E1 E2 w) : w.cell? ⟨qb, qo + i * 2, none⟩ = some (.slice e.a e.k.length e.c) ∧ w.cell? ⟨qb, qo + i * 2 + 1, none⟩ = some (.int .u64 e.v) ∧ w.cell? ⟨g0, 0, none⟩ = some (.slice E0.a E0.k.length E0.c) ∧ w.cell? ⟨g0, 1, none⟩ = some (.int .u64 E0.v) ∧ w.cell? ⟨g1, 0, none⟩ = some (.slice E1.a E1.k.length E1.c) ∧ w.cell? ⟨g1, 1, none⟩ = some (.int .u64 E1.v) ∧ w.cell? ⟨g2, 0, none⟩ = some (.slice E2.a E2.k.length E2.c) ∧ w.cell? ⟨g2, 1, none⟩ = some (.int .u64 E2.v) :=
  ⟨h.c0, h.c1, h.x0.cell 0, h.x0.cell 1, h.x1.cell 0, h.x1.cell 1, h.x2.cell 0, h.x2.cell 1⟩
theorem LO.rank (h : LO w0 g M K B qb qo c al i e g0 g1 g2 E0 E1 E2 w) (hr : rankM e.k M = i) : Calls Try.prog 29 #[.pointer (some ⟨g, 0, none⟩), .slice e.a e.k.length e.c] w fun r w' => r = .returned (.int .i64 (i : Nat)) ∧ LO w0 g M K B qb qo c al i e g0 g1 g2 E0 E1 E2 w' := by
  have P := rank_any e.a e.c e.k w h.s.m h.r.1
  rw [hr] at P
  exact P.mono fun r w' ⟨e, f⟩ => ⟨e, h.below f⟩
theorem LO.sameAB {a0 a1 a2 : Option Addr} {c0 c1 c2 : Nat} (h : LO w0 g M K B qb qo c al i e g0 g1 g2 ⟨a0, c0, e.k, e.v⟩ ⟨a1, c1, e.k, e.v⟩ ⟨a2, c2, e.k, e.v⟩ w) :
    Calls Try.prog 24 #[.slice (some ⟨w.heap.size, 0, none⟩) 3 3, .slice (some ⟨w.heap.size + 1, 0, none⟩) 3 3] ((w.alloc (.cells #[.slice a0 e.k.length c0, .int .u64 e.v, .slice a1 e.k.length c1, .int .u64 e.v, .slice a2 e.k.length c2, .int .u64 e.v] 54 (0, 0))).alloc (.cells #[.slice e.a e.k.length e.c, .int .u64 e.v, .slice e.a e.k.length e.c, .int .u64 e.v, .slice e.a e.k.length e.c, .int .u64 e.v] 54 (0, 0))) fun r w' => r = .returned (.bool true) ∧ LO w0 g M K B qb qo c al i e g0 g1 g2 ⟨a0, c0, e.k, e.v⟩ ⟨a1, c1, e.k, e.v⟩ ⟨a2, c2, e.k, e.v⟩ w' := by
  have b1 : Blk (w.alloc (.cells #[.slice a0 e.k.length c0, .int .u64 e.v, .slice a1 e.k.length c1, .int .u64 e.v, .slice a2 e.k.length c2, .int .u64 e.v] 54 (0, 0))) w.heap.size 54 [.slice a0 e.k.length c0, .int .u64 e.v, .slice a1 e.k.length c1, .int .u64 e.v, .slice a2 e.k.length c2, .int .u64 e.v] := Blk.new w _ _ _ rfl
  have h1 := h.alloc (.cells #[.slice a0 e.k.length c0, .int .u64 e.v, .slice a1 e.k.length c1, .int .u64 e.v, .slice a2 e.k.length c2, .int .u64 e.v] 54 (0, 0))
  have hs : (w.alloc (.cells #[.slice a0 e.k.length c0, .int .u64 e.v, .slice a1 e.k.length c1, .int .u64 e.v, .slice a2 e.k.length c2, .int .u64 e.v] 54 (0, 0))).heap.size = w.heap.size + 1 := by simp
  generalize (w.alloc (.cells #[.slice a0 e.k.length c0, .int .u64 e.v, .slice a1 e.k.length c1, .int .u64 e.v, .slice a2 e.k.length c2, .int .u64 e.v] 54 (0, 0))) = w1 at *
  have b2 := Blk.new w1 54 [.slice e.a e.k.length e.c, .int .u64 e.v, .slice e.a e.k.length e.c, .int .u64 e.v, .slice e.a e.k.length e.c, .int .u64 e.v] _ rfl
  rw [hs] at b2
  have h2 := h1.alloc (.cells #[.slice e.a e.k.length e.c, .int .u64 e.v, .slice e.a e.k.length e.c, .int .u64 e.v, .slice e.a e.k.length e.c, .int .u64 e.v] 54 (0, 0))
  have P := samePairs_any [⟨a0, c0, e.k, e.v⟩, ⟨a1, c1, e.k, e.v⟩, ⟨a2, c2, e.k, e.v⟩] [e, e, e] _ _ 3 3 _ (rp3 (b1.alloc _) h2.r0 h2.r1 h2.r2) (rp3 b2 h2.r h2.r h2.r)
  rw [decide_eq_true (by simp [Ent.kv])] at P
  exact P.mono fun r w' ⟨e, st⟩ => ⟨e, h2.below (st.below _)⟩
theorem LO.sameBA {a0 a1 a2 : Option Addr} {c0 c1 c2 : Nat} (h : LO w0 g M K B qb qo c al i e g0 g1 g2 ⟨a0, c0, e.k, e.v⟩ ⟨a1, c1, e.k, e.v⟩ ⟨a2, c2, e.k, e.v⟩ w) :
    Calls Try.prog 24 #[.slice (some ⟨w.heap.size + 1, 0, none⟩) 3 3, .slice (some ⟨w.heap.size, 0, none⟩) 3 3] ((w.alloc (.cells #[.slice e.a e.k.length e.c, .int .u64 e.v, .slice e.a e.k.length e.c, .int .u64 e.v, .slice e.a e.k.length e.c, .int .u64 e.v] 54 (0, 0))).alloc (.cells #[.slice a0 e.k.length c0, .int .u64 e.v, .slice a1 e.k.length c1, .int .u64 e.v, .slice a2 e.k.length c2, .int .u64 e.v] 54 (0, 0))) fun r w' => r = .returned (.bool true) ∧ LO w0 g M K B qb qo c al i e g0 g1 g2 ⟨a0, c0, e.k, e.v⟩ ⟨a1, c1, e.k, e.v⟩ ⟨a2, c2, e.k, e.v⟩ w' := by
  have b1 : Blk (w.alloc (.cells #[.slice e.a e.k.length e.c, .int .u64 e.v, .slice e.a e.k.length e.c, .int .u64 e.v, .slice e.a e.k.length e.c, .int .u64 e.v] 54 (0, 0))) w.heap.size 54 [.slice e.a e.k.length e.c, .int .u64 e.v, .slice e.a e.k.length e.c, .int .u64 e.v, .slice e.a e.k.length e.c, .int .u64 e.v] := Blk.new w _ _ _ rfl
  have h1 := h.alloc (.cells #[.slice e.a e.k.length e.c, .int .u64 e.v, .slice e.a e.k.length e.c, .int .u64 e.v, .slice e.a e.k.length e.c, .int .u64 e.v] 54 (0, 0))
  have hs : (w.alloc (.cells #[.slice e.a e.k.length e.c, .int .u64 e.v, .slice e.a e.k.length e.c, .int .u64 e.v, .slice e.a e.k.length e.c, .int .u64 e.v] 54 (0, 0))).heap.size = w.heap.size + 1 := by simp
  generalize (w.alloc (.cells #[.slice e.a e.k.length e.c, .int .u64 e.v, .slice e.a e.k.length e.c, .int .u64 e.v, .slice e.a e.k.length e.c, .int .u64 e.v] 54 (0, 0))) = w1 at *
  have b2 := Blk.new w1 54 [.slice a0 e.k.length c0, .int .u64 e.v, .slice a1 e.k.length c1, .int .u64 e.v, .slice a2 e.k.length c2, .int .u64 e.v] _ rfl
  rw [hs] at b2
  have h2 := h1.alloc (.cells #[.slice a0 e.k.length c0, .int .u64 e.v, .slice a1 e.k.length c1, .int .u64 e.v, .slice a2 e.k.length c2, .int .u64 e.v] 54 (0, 0))
  have P := samePairs_any [⟨a0, c0, e.k, e.v⟩, ⟨a1, c1, e.k, e.v⟩, ⟨a2, c2, e.k, e.v⟩] [e, e, e] _ _ 3 3 _ (rp3 b2 h2.r0 h2.r1 h2.r2) (rp3 (b1.alloc _) h2.r h2.r h2.r)
  rw [decide_eq_true (by simp [Ent.kv])] at P
  exact P.mono fun r w' ⟨e, st⟩ => ⟨e, h2.below (st.below _)⟩
end

theorem md_keysO {g : Nat} {ps : List KV} {K : Nat → Prop} {w : World} (h : Md g ps K w) : ∀ p ∈ ps, p.1.length ≤ 65535 := by
  obtain ⟨F, v, es, h⟩ := h
  intro p hp
  rw [← h.kv] at hp
  obtain ⟨e, he, rfl⟩ := List.mem_map.1 hp
  exact (h.ks e he).2.1
/-- A list behind a list. -/
theorem lk_app {B B' : Nat} {w : World} {a b : Option Addr} {c d : Nat} {fs hs : List Ent} (l : Rf.Lk B w (.slice a fs.length c) fs) (m : Lst B' w (.slice b hs.length d) hs) (hBB : B ≤ B') (hB : B ≤ w.heap.size) (hn : fs.length + hs.length ≤ 1000000) :
    ∃ a' c' w', (Builtin.append_ #[22, 22] 22 #[.slice a fs.length c, .slice b hs.length d]).run Try.prog w = .ok (.slice a' (fs ++ hs).length c') w' ∧ Rf.Lk B w' (.slice a' (fs ++ hs).length c') (fs ++ hs) ∧ w.grownBy w' (Value.slice a fs.length c).ownBlock := by
  obtain ⟨v', w', r, o, g, ho, _, _⟩ := append_pairs w 22 22 B _ fs.length _ l.row _ hs.length _ (m.rps.src Try.underlying22 d) (by omega) hB
  obtain ⟨a', c', rfl⟩ := owns_slice' o
  rw [← flat_append, ← List.length_append] at o
  rw [← List.length_append] at r
  refine ⟨a', c', w', r, ⟨o, fun e he => ?_, by rw [List.length_append]; omega⟩, g⟩
  have one : ∀ (B2 : Nat), B ≤ B2 → w.ownsRow B2 5 1 (.slice e.a e.k.length e.c) e.k.length (u8s e.k) → w'.ownsRow B 5 1 (.slice e.a e.k.length e.c) e.k.length (u8s e.k) := fun B2 h2 h => Rf.owns_down (owns_same h (fun x hx => g.block x (h.lt x hx).2 (fun e9 => owns_apart2 l.row h (by decide) x e9.symm hx))) h2
  rcases List.mem_append.1 he with he | he
  · have h := l.ks e he
    exact ⟨one B (Nat.le_refl _) h.1, h.2⟩
  · have h := (lst_lk m).ks e he
    exact ⟨one B' hBB h.1, h.2⟩
/-- What the second loop has so far. -/
structure P2 (wz : World) (ap : Option Addr) (cp : Nat) (fp : List Ent) (af : Option Addr) (cf : Nat) (kf : List Int) (w : World) : Prop where
  k : Rf.Lk wz.heap.size w (.slice ap fp.length cp) fp
  o : w.ownsRow wz.heap.size 5 1 (.slice af kf.length cf) kf.length (u8s kf)
  b : IsBytes kf
  f : Below wz.heap.size wz w
section
variable {wz w w' : World} {ap af : Option Addr} {cp cf : Nat} {fp : List Ent} {kf : List Int}
theorem P2.below (h : P2 wz ap cp fp af cf kf w) (f : Below w.heap.size w w') : P2 wz ap cp fp af cf kf w' :=
  ⟨h.k.below f, owns_same h.o (fun x hx => f.block x (h.o.lt x hx).2), h.b, h.f.trans (f.mono h.f.size)⟩
theorem P2.rd (h : P2 wz ap cp fp af cf kf w) : Rd w af kf := by
  obtain ⟨a', c', e, r, _⟩ := owns_rd h.o h.b
  simp only [Value.slice.injEq] at e
  obtain ⟨rfl, -, rfl⟩ := e
  exact r
theorem P2.app {hs : List Ent} {a' : Option Addr} {c' : Nat} (h : P2 wz ap cp fp af cf kf w) (l : Rf.Lk wz.heap.size w' (.slice a' (fp ++ hs).length c') (fp ++ hs)) (g : w.grownBy w' (Value.slice ap fp.length cp).ownBlock) : P2 wz a' c' (fp ++ hs) af cf kf w' :=
  ⟨l, owns_same h.o (fun x hx => g.block x (h.o.lt x hx).2 (fun e9 => owns_apart2 h.k.row h.o (by decide) x e9.symm hx)), h.b, h.f.grown g h.f.size (fun x hx => (h.k.row.lt x hx).1)⟩
end

set_option maxHeartbeats 4000000 in
theorem order7_any (es : List Ent) (a : Option Addr) (cap : Nat) (many : Int) (w : World) (hp : Prs w a cap es) (hm0 : -9223372036854775808 ≤ many) (hm1 : many ≤ 9223372036854775807) :
    Calls Try.prog 4 #[.slice a es.length cap, .int .i64 many] w fun e w' => e = .returned (.bool true) ∧ Below w.heap.size w w' := by
  have G := hide (great_in es a cap 40 20 w hp (by omega) (by omega))
  have hmx := hp.mx
  cases hg : greatP es 40 20 with
  | true =>
    rw [hg] at G
    clear hg hp
    go_enter Try.func4, Try.ntmps4
    go_wp2_with fail
    refine G.out.mono ?_
    rintro r w1 ⟨rfl, s1⟩
    have F1 := hide (s1.below w.heap.size)
    clear s1
    go_wp2_with fail
    refine (awake_any w1).mono ?_
    rintro r w2 ⟨rfl, f2⟩
    have F2 := hide (F1.out.trans (f2.mono F1.out.size))
    clear f2
    go_wp2
    go_ret
    exact ⟨rfl, F2.out⟩
  | false =>
    rw [hg] at G
    have HG := hide (great_false hg)
    have H := hide hp
    clear hg hp
    go_enter Try.func4, Try.ntmps4
    go_wp2_with fail
    refine G.out.mono ?_
    rintro r w1 ⟨rfl, s1⟩
    have f1 := s1.below w.heap.size
    have h40 := HG.out.1
    have RP := hide (H.out.rp (by omega))
    have N1 := new_any es a cap w1 (RP.out.below f1 (Nat.le_refl _)) (fun e he => by have := HG.out.2 e he; omega) H.out.nl
    have F1 := hide f1
    clear s1 f1
    go_wp2_with fail
    refine N1.mono ?_
    rintro r w2 ⟨g, rfl, m2, f2⟩
    have hu2 := hide (ofM_ups (es.map Ent.kv))
    have hl2 := Nat.le_trans (ofM_len (es.map Ent.kv)) (show (es.map Ent.kv).length ≤ 40 by simp; omega)
    have hle : (ofM (es.map Ent.kv)).length ≤ es.length := by have := ofM_len (es.map Ent.kv); simpa using this
    have hbt : Hid (∀ p ∈ ofM (es.map Ent.kv), IsBytes p.1) := fun p hp => by
      obtain ⟨e, he, rfl⟩ := List.mem_map.1 (ofM_keys hp)
      exact (RP.out.2.1 e he).1.1
    generalize ofM (es.map Ent.kv) = M at m2 hu2 hl2 hle hbt
    have M2 := hide m2
    have F2 := hide (F1.out.trans (f2.mono F1.out.size))
    clear m2 f2 N1
    go_wp2_with fail
    refine (all_any w2 M2.out).mono ?_
    rintro r w3 ⟨aA, cA, al, rfl, l3, k3, f3⟩
    have hal : al.length = M.length := by rw [← k3]; simp
    have M3 := hide ((Md.lies _ _).below M2.out f3)
    have F3 := hide (F2.out.trans (f3.mono F2.out.size))
    obtain ⟨m, hm5, -, LW⟩ := low_nat many 5 hm0 hm1 (by omega) (by omega)
    have HLW := hide LW
    clear LW
    have hnl : ¬ es.length < M.length := by omega
    have hnli : ¬ ((es.length : Int) < (M.length : Int)) := by omega
    have S3 : Hid (MO w g M (fun k => k < w1.heap.size) w2.heap.size aA cA al w3) := ⟨M3.out, F3.out, l3, k3, F2.out.size⟩
    clear l3 k3 f3 M2 M3 F3
    rw [hal]
    have LN := hide (len_any w3 S3.out.m)
    go_wp2_with fail
    refine LN.out.mono ?_
    rintro r w4 ⟨rfl, hw⟩
    subst hw
    have RS := rises_any al aA cA w4 S3.out.rp
    have hrs : risesB (al.map Ent.kv) = true := by rw [S3.out.e]; exact risesB_of_ups hu2.out
    rw [hrs, hal] at RS
    have HRS := hide RS
    clear RS hrs LN
    go_wp2_with fail
    refine HRS.out.mono ?_
    rintro r w5 ⟨rfl, f5⟩
    have S5 := hide (S3.out.below f5)
    clear f5 HRS S3
    go_wp2_with fail
    go_loopw [7] (fun v wr => ∃ i : Nat, v = .int .i64 i ∧ i ≤ M.length ∧ Hid (MO w g M (fun k => k < w1.heap.size) w2.heap.size aA cA al wr)) (fun v _ => (M.length - intOf v).toNat)
    case atStart => exact ⟨0, rfl, by omega, S5⟩
    case round =>
      clear S5
      obtain ⟨i, rfl, hi, SW⟩ := hrel
      by_cases him : i < M.length
      · obtain ⟨qb, qo, e, rfl, he, hM, hc⟩ := SW.out.at him
        have fl : Hid (floorM e.k M = some e.kv) := floor_at hu2.out hM
        have ce : Hid (ceilM e.k M = some e.kv) := ceil_at hu2.out hM
        have se : Hid (selM (i : Int) M = some e.kv) := sel_at hM
        have rk : Hid (rankM e.k M = i) := rank_at hu2.out hM
        have HC := hide hc
        have HE := hide (List.mem_of_getElem? he)
        clear hc he hM
        obtain ⟨x0, x1, rd⟩ := HC.out wr (Below.refl _ _)
        have P := hide (floor_any e.a e.c e.k _ SW.out.m rd)
        clear rd
        go_wp2_with fail
        refine P.out.mono ?_
        intro r y0 ha
        obtain ⟨a0, c0, rfl, i0, f0⟩ := ans_let (q := e.k) (u := e.v) (t := true) ha (by rw [fl.out]; rfl) (by rw [fl.out]; rfl) (by rw [fl.out]; rfl)
        obtain ⟨g0, hg0⟩ : ∃ g, g = y0.heap.size := ⟨_, rfl⟩
        obtain ⟨v0, hw0⟩ : ∃ w', w' = y0.alloc (.cells #[.slice a0 e.k.length c0, .int .u64 e.v] 54 (0, 0)) := ⟨_, rfl⟩
        have e0 : Below y0.heap.size y0 v0 := by rw [hw0]; exact (Below.refl _ _).alloc (Nat.le_refl _) _
        have F0 := hide (f0.trans (e0.mono f0.size))
        have I0 := hide (i0.rd.below e0 (Nat.le_refl _))
        have X0 : Hid (Blk v0 g0 54 [.slice a0 e.k.length c0, .int .u64 e.v]) := by rw [hw0, hg0]; exact Blk.new _ _ _ _ rfl
        have S0 := hide (SW.out.below F0.out)
        have C0 := F0
        clear P ha i0 f0 e0 x0 x1
        obtain ⟨x0, x1, rd⟩ := HC.out v0 C0.out
        rw [hw0] at x0 x1
        have P := hide (ceil_any e.a e.c e.k _ S0.out.m rd)
        clear rd
        go_wp2_with fail
        rw [← hw0]
        rw [← hg0]
        clear hw0 hg0
        refine P.out.mono ?_
        intro r y1 ha
        obtain ⟨a1, c1, rfl, i1, f1⟩ := ans_let (q := e.k) (u := e.v) (t := true) ha (by rw [ce.out]; rfl) (by rw [ce.out]; rfl) (by rw [ce.out]; rfl)
        obtain ⟨g1, hg1⟩ : ∃ g, g = y1.heap.size := ⟨_, rfl⟩
        obtain ⟨v1, hw1⟩ : ∃ w', w' = y1.alloc (.cells #[.slice a1 e.k.length c1, .int .u64 e.v] 54 (0, 0)) := ⟨_, rfl⟩
        have e1 : Below y1.heap.size y1 v1 := by rw [hw1]; exact (Below.refl _ _).alloc (Nat.le_refl _) _
        have F1 := hide (f1.trans (e1.mono f1.size))
        have I1 := hide (i1.rd.below e1 (Nat.le_refl _))
        have X1 : Hid (Blk v1 g1 54 [.slice a1 e.k.length c1, .int .u64 e.v]) := by rw [hw1, hg1]; exact Blk.new _ _ _ _ rfl
        have S1 := hide (S0.out.below F1.out)
        have C1 := hide (C0.out.trans (F1.out.mono C0.out.size))
        replace I0 := hide (I0.out.below F1.out (Nat.le_refl _))
        replace X0 := hide (X0.out.below F1.out X0.out.lt)
        clear P ha i1 f1 e1 x0 x1
        obtain ⟨x0, x1, rd⟩ := HC.out v1 C1.out
        rw [hw1] at x0 x1
        have P := hide (select_any (i : Int) _ S1.out.m (by omega) (by omega))
        clear rd
        go_wp2_with fail
        rw [← hw1]
        rw [← hg1]
        clear hw1 hg1
        refine P.out.mono ?_
        intro r y2 ha
        obtain ⟨a2, c2, rfl, i2, f2⟩ := ans_let (q := e.k) (u := e.v) (t := true) ha (by rw [se.out]; rfl) (by rw [se.out]; rfl) (by rw [se.out]; rfl)
        obtain ⟨g2, hg2⟩ : ∃ g, g = y2.heap.size := ⟨_, rfl⟩
        obtain ⟨v2, hw2⟩ : ∃ w', w' = y2.alloc (.cells #[.slice a2 e.k.length c2, .int .u64 e.v] 54 (0, 0)) := ⟨_, rfl⟩
        have e2 : Below y2.heap.size y2 v2 := by rw [hw2]; exact (Below.refl _ _).alloc (Nat.le_refl _) _
        have F2 := hide (f2.trans (e2.mono f2.size))
        have I2 := hide (i2.rd.below e2 (Nat.le_refl _))
        have X2 : Hid (Blk v2 g2 54 [.slice a2 e.k.length c2, .int .u64 e.v]) := by rw [hw2, hg2]; exact Blk.new _ _ _ _ rfl
        have S2 := hide (S1.out.below F2.out)
        have C2 := hide (C1.out.trans (F2.out.mono C1.out.size))
        replace I0 := hide (I0.out.below F2.out (Nat.le_refl _))
        replace X0 := hide (X0.out.below F2.out X0.out.lt)
        replace I1 := hide (I1.out.below F2.out (Nat.le_refl _))
        replace X1 := hide (X1.out.below F2.out X1.out.lt)
        clear P ha i2 f2 e2 x0 x1
        obtain ⟨x0, x1, rd⟩ := HC.out v2 C2.out
        rw [hw2] at x0 x1
        go_wp2_with fail
        rw [← hw2]
        rw [← hg2]
        have L2 : Hid (LO w g M (fun k => k < w1.heap.size) w2.heap.size qb qo cA al i e g0 g1 g2 ⟨a0, c0, e.k, e.v⟩ ⟨a1, c1, e.k, e.v⟩ ⟨a2, c2, e.k, e.v⟩ v2) := by
          rw [← hw2] at x0 x1
          have ev := (S2.out.rp.2.1 e HE.out).2
          exact ⟨S2.out, x0, x1, X0.out, X1.out, X2.out, ⟨rd, ev⟩, ⟨I0.out, ev⟩, ⟨I1.out, ev⟩, ⟨I2.out, ev⟩⟩
        have LD := hide L2.out.drew
        have d0 := LD.out.cells
        clear hw2 hg2 x0 x1 rd
        clear C0 C1 C2 S0 S1 S2 X0 X1 X2 F0 F1 F2 I0 I1 I2 L2 HC
        go_region_held3 (fun w' => w'.cell? ⟨qb, qo + i * 2, none⟩ = some (.slice e.a e.k.length e.c) ∧ w'.cell? ⟨qb, qo + i * 2 + 1, none⟩ = some (.int .u64 e.v) ∧ w'.cell? ⟨g0, 0, none⟩ = some (.slice a0 e.k.length c0) ∧ w'.cell? ⟨g0, 1, none⟩ = some (.int .u64 e.v) ∧ w'.cell? ⟨g1, 0, none⟩ = some (.slice a1 e.k.length c1) ∧ w'.cell? ⟨g1, 1, none⟩ = some (.int .u64 e.v) ∧ w'.cell? ⟨g2, 0, none⟩ = some (.slice a2 e.k.length c2) ∧ w'.cell? ⟨g2, 1, none⟩ = some (.int .u64 e.v)) (first | exact d2 | exact (L3.out.alloc _).cells | exact ((L3.out.alloc _).alloc _).cells | exact d1 | exact d0)
          (first
          | (go_at_call 29; refine (LD.out.rank rk.out).mono ?_; rintro r v3 ⟨rfl, l3⟩; have d1 := l3.cells; have L3 := hide l3; clear l3)
          | (go_at_call 24; with_reducible refine L3.out.sameAB.mono ?_; rintro r v4 ⟨rfl, l4⟩; have d2 := l4.cells; have L4 := hide l4; clear l4)
          | (go_at_call 24; with_reducible refine L3.out.sameBA.mono ?_; rintro r v4 ⟨rfl, l4⟩; have d2 := l4.cells; have L4 := hide l4; clear l4))
        all_goals (
          go_wp2
          go_roundw
          case rel => exact ⟨i + 1, by go_num, by omega, L4.out.s⟩
          case measure => simp [intOf]; omega)
      · obtain rfl : i = M.length := by omega
        clear hi him
        go_wp2_with fail
        refine (HLW.out _).mono ?_
        rintro r wz ⟨rfl, hw⟩
        subst hw
        have Z0 : Hid (P2 wz none 0 [] none 0 [] wz) := ⟨Rf.Lk.nil _ _, World.ownsRow_nil _ _ _ _, by intro x hx; simp at hx, Below.refl _ _⟩
        have hr0 : Hid (rankM [] M = 0) := rank_nil M
        obtain ⟨mm, hmm⟩ : ∃ mm : Nat, mm = m + 1 := ⟨_, rfl⟩
        have hmi : (1 : Int) + (m : Int) = (mm : Int) := by omega
        have hmb : 1 ≤ mm ∧ mm ≤ 5 := by omega
        clear hmm HLW
        go_wp2_with fail
        go_loopw [14, 15, 16] (fun vp vf vi wr => ∃ (i c : Nat) (ap : Option Addr) (cp : Nat) (fp : List Ent) (af : Option Addr) (cf : Nat) (kf : List Int), vi = .int .i64 i ∧ vp = .slice ap fp.length cp ∧ vf = .slice af kf.length cf ∧ i ≤ c ∧ c ≤ M.length ∧ kf.length ≤ 70000 ∧ Hid (rankM kf M = c) ∧ Hid (fp.map Ent.kv = M.take c) ∧ Hid (P2 wz ap cp fp af cf kf wr)) (fun _ _ v _ => (50 - intOf v).toNat)
        case atStart => exact ⟨0, 0, none, 0, [], none, 0, [], rfl, rfl, rfl, by omega, by omega, by simp, hr0, by simp [Hid], Z0⟩
        case round =>
          clear Z0 hr0
          obtain ⟨i, c, ap, cp, fp, af, cf, kf, rfl, rfl, rfl, hic, hcM, hkf, RK, FP, PP⟩ := hrel
          have hi50 : (i : Int) < 50 := by omega
          have S0 := SW.out.below PP.out.f
          have P := hide (from_any af cf kf (mm : Int) _ S0.m PP.out.rd (by omega) (by omega))
          clear S0
          go_wp2_with fail
          refine P.out.mono ?_
          rintro r y1 ⟨a1, c1, fs, rfl, l1, k1, f1⟩
          rw [from_piece M kf c mm RK.out] at k1
          have P1 := PP.out.below f1
          have hfl : fs.length = min mm (M.length - c) := by have := congrArg List.length k1; simpa using this
          have hfpl : fp.length = c := by have := congrArg List.length FP.out; simpa [Nat.min_eq_left hcM] using this
          obtain ⟨a2, c2, y2, r2, l2, g2⟩ := lk_app P1.k l1 (by have := PP.out.f.size; omega) P1.f.size (by omega)
          have P3 := hide (P1.app l2 g2)
          have hmap : Hid ((fp ++ fs).map Ent.kv = M.take (c + mm)) := by show _ = _; rw [List.map_append, FP.out, k1, piece_more]
          have hkp : Kp (fun x => wr.heap.size ≤ x) y1 y2 := (Kp.refl _ y1).grown g2 (fun x hx hK => by have := (PP.out.k.row.lt x hx).2; omega)
          have L2 := lst_kp l1 hkp (fun x hx => hx)
          have HC1 := hide (Lst.below l1 (Below.refl _ _))
          by_cases hfull : fs.length = mm
          · obtain ⟨e', he'⟩ : ∃ e', fs[mm - 1]? = some e' := ⟨fs[mm - 1]'(by omega), List.getElem?_eq_getElem (by omega)⟩
            have hMe : M[c + (mm - 1)]? = some e'.kv := by
              have h1 : (fs.map Ent.kv)[mm - 1]? = some e'.kv := by simp [he']
              rw [k1, List.getElem?_take, if_pos (by omega), List.getElem?_drop] at h1
              exact h1
            obtain ⟨a1', c1', e1, hrp⟩ := L2.rp
            simp only [Value.slice.injEq] at e1
            obtain ⟨rfl, -, rfl⟩ := e1
            obtain ⟨b1, o1, rfl, d0, d1⟩ := hrp.cells he'
            have hok := (hrp.2.1 e' (List.mem_of_getElem? he')).1
            have hkl : e'.k.length ≤ 65535 := (md_keysO SW.out.m) e'.kv (List.mem_of_getElem? hMe)
            obtain ⟨a5, c5, y5, r5, o5, f5⟩ := Rf.clone_u8 hok e'.c (by omega)
            obtain ⟨v6, y6, r6, o6, g6, -, -⟩ := append1_u8 y5 y2.heap.size _ _ _ 0 o5 (by omega) f5.size
            obtain ⟨a6, c6, rfl⟩ := owns_slice' o6
            have f6 : Below y2.heap.size y2 y6 := f5.grown g6 f5.size (fun x hx => (o5.lt x hx).1)
            have hsn : u8s e'.k ++ [.int .u8 0] = u8s (e'.k ++ [0]) := by simp [u8s]
            have hsl : (e'.k ++ [0]).length = e'.k.length + 1 := by simp
            rw [hsn] at o6
            have P6 : Hid (P2 wz a2 c2 (fp ++ fs) a6 c6 (e'.k ++ [0]) y6) := by
              have q := P3.out.below f6
              refine ⟨q.k, ?_, ?_, q.f⟩
              · rw [hsl]; exact Rf.owns_down o6 P3.out.f.size
              · intro x hx
                rcases List.mem_append.1 hx with hx | hx
                · exact hok.1 x hx
                · simp at hx; omega
            have RK6 : Hid (rankM (e'.k ++ [0]) M = c + mm) := by
              have := rank_snoc hu2.out hbt.out hMe
              show _ = _
              rw [show (e'.k ++ [0] : List Int) = e'.kv.1 ++ [0] from rfl, this]; omega
            have hfe : ((fs.length : Int) == (mm : Int)) = true := by simp; omega
            have hfg : ¬ ((mm : Int) < (fs.length : Int)) := by omega
            have hcm : c + mm ≤ M.length := by omega
            have hlt : (mm : Int) - 1 < (fs.length : Int) := by omega
            have hm1 : ((mm : Int) - 1) = ((mm - 1 : Nat) : Int) := by omega
            clear hrp hok L2 hkp o5 f5 o6 g6 f6 he' hMe l1 l2 g2 P1 k1 f1
            have hsz1 : (fp ++ fs).length = c + mm := by rw [List.length_append, hfpl, hfull]
            rw [hsz1] at r2
            rw [hfpl, hfull] at r2
            rw [hfpl, hfull]
            obtain ⟨p, hp⟩ : ∃ p : Nat, p = mm - 1 := ⟨_, rfl⟩
            rw [← hp] at d0 d1 hm1
            obtain ⟨L6, hL6⟩ : ∃ L : Nat, L = e'.k.length := ⟨_, rfl⟩
            rw [← hL6] at r5 r6 d0
            have hpm : (p : Int) < (mm : Int) := by omega
            have hce : ((mm : Int) == (mm : Int)) = true := by simp
            have hcmi : (i : Int) + 1 ≤ 50 := by omega
            have HHP := hide hp
            have HKL := hide hkl
            have HHL := hide hL6
            have HHS := hide hsl
            have HSZ := hide hsz1
            have HHC := hide hcm
            have HIC := hide hic
            have hmax : (c : Int) + (mm : Int) ≤ 1000 := by omega
            clear hsn hsl hfull hfl hfpl hsz1 hlt hfg hfe hp hL6 hkl hkf hcM hcm hic
            generalize e'.a = ea at *
            generalize e'.c = ec at *
            generalize e'.v = ev at *
            have R6 := hide r6
            clear r6
            go_wp2_with (first
              | (at_builtin; refine wpList_append_run rfl _ _ _ _ rfl _ _ _ _ rfl rfl r6 ?_; clear r6)
              | (at_builtin; refine wpList_append_run rfl _ _ _ _ rfl _ _ _ _ rfl rfl r2 ?_; clear r2)
              | (at_builtin; refine wpList_append_run rfl _ _ _ _ rfl _ _ _ _ rfl rfl r5 ?_; have r6 := R6.out; clear r5 d0 d1))
            exact ⟨⟨i + 1, c + mm, a2, c2, fp ++ fs, a6, c6, e'.k ++ [0], by simp, by rw [HSZ.out], by rw [HHS.out, HHL.out], by have := HIC.out; omega, HHC.out, by rw [HHS.out]; have := HKL.out; omega, RK6, hmap, P6⟩, by simp [intOf]; omega⟩
          · have hall : (fp ++ fs).map Ent.kv = M := by rw [hmap.out]; exact List.take_of_length_le (by omega)
            have hsz1 : (fp ++ fs).length = M.length := by rw [← hall, List.length_map]
            have hfe : ((fs.length : Int) == (mm : Int)) = false := by simp; omega
            have hfg : ¬ ((mm : Int) < (fs.length : Int)) := by omega
            have S2 := hide (SW.out.below P3.out.f)
            have HALL := hide hall
            have HSZ := hide hsz1
            have CP := hide (copy_any _ S2.out.m)
            rw [hsz1] at r2
            rw [hfpl] at r2
            rw [hfpl]
            clear hsz1 hfull hfl hfpl l1 l2 g2 k1 f1 P1 hkp L2 HC1 hall hmap RK FP PP P hkf hcM hic
            generalize fs.length = L at *
            go_wp2_with (at_builtin; refine wpList_append_run rfl _ _ _ _ rfl _ _ _ _ rfl rfl r2 ?_; clear r2)
            refine CP.out.mono ?_
            rintro r y3 ⟨gd, rfl, m3, f3⟩
            have S3 := hide (S2.out.below f3)
            have P4 := hide (P3.out.below f3)
            have M3 := hide m3
            have F3 := hide f3
            clear m3 f3 CP P3
            obtain ⟨ax, cx, ex, hrx⟩ := P4.out.k.rp
            rw [HSZ.out] at ex
            simp only [Value.slice.injEq] at ex
            obtain ⟨rfl, -, rfl⟩ := ex
            have SP := samePairs_any (fp ++ fs) al a2 aA c2 cA y3 hrx S3.out.rp
            rw [HSZ.out, hal, decide_eq_true (HALL.out.trans S3.out.e.symm)] at SP
            have HSP := hide SP
            clear SP hrx
            go_wp2_with fail
            refine HSP.out.mono ?_
            rintro r y4 ⟨rfl, st4⟩
            have M4 := hide ((Md.lies _ _).still M3.out st4)
            have F4 : Hid (Below y2.heap.size y2 y4) := F3.out.trans ((st4.below y3.heap.size).mono F3.out.size)
            clear st4 HSP M3 F3 S3 P4
            go_wp2_with fail
            go_loopw [19] (fun v wr => ∃ j : Nat, v = .int .i64 j ∧ j ≤ M.length ∧ Hid (Md gd (M.drop j) (fun k => k < y2.heap.size) wr) ∧ Hid (Below y2.heap.size y2 wr)) (fun v _ => (M.length - intOf v).toNat)
            case atStart => exact ⟨0, rfl, by omega, M4, F4⟩
            case round =>
              clear M4 F4
              obtain ⟨j, rfl, hj, MD, FD⟩ := hrel
              by_cases hjm : j < M.length
              · obtain ⟨qb, qo, e, rfl, he, hM, hc⟩ := S2.out.at hjm
                have df := drop_front hu2.out hM
                have HC := hide hc
                obtain ⟨x0, x1, rd⟩ := hc wr FD.out
                have D := drop_any e.a e.c e.k wr MD.out rd
                rw [show findM e.k (M.drop j) = findM e.kv.1 (M.drop j) from rfl, df.2.1, show isIn e.k (M.drop j) = isIn e.kv.1 (M.drop j) from rfl, df.1, show dropM e.k (M.drop j) = dropM e.kv.1 (M.drop j) from rfl, df.2.2] at D
                have HD := hide D
                clear D df hc he hM rd x1
                go_wp2_with fail
                refine HD.out.mono ?_
                rintro r y5 ⟨rfl, m5, k5⟩
                have M5 := hide m5
                have F5 : Hid (Below y2.heap.size y2 y5) := FD.out.trans (k5.below FD.out.size (fun k hk => hk))
                clear m5 k5 HD x0
                obtain ⟨x0, x1, rd⟩ := HC.out y5 F5.out
                have hev : (e.kv.2 : Int) = e.v := rfl
                clear rd
                go_wp2
                go_roundw
                case rel => exact ⟨j + 1, by go_num, by omega, M5, F5⟩
                case measure => simp [intOf]; omega
              · obtain rfl : j = M.length := by omega
                have S5 := hide (S2.out.below FD.out)
                have MD5 : Hid (Md gd [] (fun k => k < y2.heap.size) wr) := by
                  have := MD.out
                  rw [List.drop_length] at this
                  exact this
                go_wp2_with fail
                refine (put_nil none 0 0 1 _).mono ?_
                rintro r y6 ⟨rfl, f6⟩
                subst f6
                go_wp2_with fail
                refine (floor_nil none 0 [] _ (Rd.nil _ _)).mono ?_
                intro r y7 ha
                obtain ⟨a7, c7, rfl, i7, f7⟩ := ans_it ha
                simp only [keyO, valO, Option.isSome, List.length_nil]
                obtain ⟨v7, hv7⟩ : ∃ v, v = y7.alloc (.cells #[.slice a7 0 c7, .int .u64 0] 54 (0, 0)) := ⟨_, rfl⟩
                have e7 : Below y7.heap.size y7 v7 := by rw [hv7]; exact (Below.refl _ _).alloc (Nat.le_refl _) _
                have g7 := f7.trans (e7.mono f7.size)
                have S7 := hide (S5.out.below g7)
                have M7 := hide ((Md.lies _ _).below MD5.out g7)
                clear ha i7 f7 e7 g7 S5 MD5 MD FD
                have LN := len_any v7 M7.out
                simp only [List.length_nil] at LN
                have HLN := hide LN
                have AL := hide (all_any v7 S7.out.m)
                have HV7 := hide hv7
                clear LN hv7
                go_wp2_with fail
                rw [← HV7.out]
                refine HLN.out.mono ?_
                rintro r y8 ⟨rfl, hw⟩
                subst hw
                go_wp2_with fail
                refine AL.out.mono ?_
                rintro r y9 ⟨a9, c9, fs9, rfl, l9, k9, f9⟩
                have S9 := hide (S7.out.below f9)
                obtain ⟨ax, cx, ex, hrx⟩ := l9.rp
                simp only [Value.slice.injEq] at ex
                obtain ⟨rfl, -, rfl⟩ := ex
                have SP := samePairs_any fs9 al a9 aA c9 cA y9 hrx S9.out.rp
                rw [hal, decide_eq_true (k9.trans S9.out.e.symm)] at SP
                have HSP := hide SP
                clear SP hrx l9 k9 f9 HLN AL S7 M7
                go_wp2_with fail
                refine HSP.out.mono ?_
                rintro r y10 ⟨rfl, st⟩
                have S10 := hide (S9.out.below (st.below _))
                clear st HSP S9
                go_wp2_with fail
                refine (len_nil _).mono ?_
                rintro r y11 ⟨rfl, hw⟩
                subst hw
                go_wp2_with fail
                refine (all_nil _).mono ?_
                rintro r y12 ⟨a12, c12, fs12, rfl, l12, k12, f12⟩
                have S12 := hide (S10.out.below f12)
                have h12 : fs12 = [] := List.eq_nil_of_map_eq_nil k12
                subst h12
                clear l12 k12 f12 S10
                go_wp2_with fail
                refine (copy_nil _).mono ?_
                rintro r y13 ⟨rfl, hw⟩
                subst hw
                go_wp2_with fail
                refine (awake_any _).mono ?_
                rintro r y14 ⟨rfl, f14⟩
                have S14 := hide (S12.out.below f14)
                clear f14
                go_wp2
                go_ret
                exact ⟨rfl, S14.out.f⟩
end Go.Proofs.Ytahlbebkcoofkaa
