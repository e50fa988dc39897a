/- MaskTells. -/
import Derived.Test.YtklakdhghmhapaaDoorRefWords4
import Derived.Test.YtklakdhghmhapaaDoorAwake4
import Derived.Test.YtklakdhghmhapaaDoorSame4
import Derived.Deep.RegionHeld3
import Derived.Deep.MidRow
import Derived.Deep.DeepCutAuto
namespace Go.Proofs.YtklakdhghmhapaaDoor
open Go.RowKit
set_option linter.unusedVariables false
set_option linter.unusedSimpArgs false

theorem Blk.range {w : World} {g : Nat} {t : TypeId} {c : List Value} (h : Blk w g t c) : w.rangeAt g 0 c := fun j v hv => by rw [Nat.zero_add]; exact (h.cell j).trans hv
theorem Blk.there {w : World} {g : Nat} {t : TypeId} {c : List Value} (h : Blk w g t c) : w.there g 0 c.length := fun j hj => by
  rw [Nat.zero_add]
  refine ⟨?_, h.frozen j⟩
  rw [h.cell j, List.getElem?_eq_getElem hj]
  rfl

/-- The four numbers of a box read. -/
abbrev S4 (x0 x1 x2 x3 B : Nat) (W : World) : Prop := W.cell? ⟨B, 0, none⟩ = some (.int .u64 (x0 : Int)) ∧ W.cell? ⟨B, 1, none⟩ = some (.int .u64 (x1 : Int)) ∧ W.cell? ⟨B, 2, none⟩ = some (.int .u64 (x2 : Int)) ∧ W.cell? ⟨B, 3, none⟩ = some (.int .u64 (x3 : Int))
abbrev set4 (x0 x1 x2 x3 : Nat) (W : World) (g : Nat) : World := (((W.setCell ⟨g, 0, none⟩ (.int .u64 (x0 : Int))).setCell ⟨g, 1, none⟩ (.int .u64 (x1 : Int))).setCell ⟨g, 2, none⟩ (.int .u64 (x2 : Int))).setCell ⟨g, 3, none⟩ (.int .u64 (x3 : Int))
theorem S4.same {x0 x1 x2 x3 B : Nat} {W W' : World} (h : S4 x0 x1 x2 x3 B W) (e : W'.heap[B]? = W.heap[B]?) : S4 x0 x1 x2 x3 B W' := by
  obtain ⟨h0, h1, h2, h3⟩ := h
  refine ⟨?_, ?_, ?_, ?_⟩
  · rw [World.cell?_of_block (a := ⟨B, 0, none⟩) e]; exact h0
  · rw [World.cell?_of_block (a := ⟨B, 1, none⟩) e]; exact h1
  · rw [World.cell?_of_block (a := ⟨B, 2, none⟩) e]; exact h2
  · rw [World.cell?_of_block (a := ⟨B, 3, none⟩) e]; exact h3
theorem S4.alloc {x0 x1 x2 x3 B : Nat} {W : World} (h : S4 x0 x1 x2 x3 B W) (o : Obj) : S4 x0 x1 x2 x3 B (W.alloc o) := h.same (Below.heap_alloc W o B (World.block_lt_of_cell? W _ h.1))
theorem S4.drewd {x0 x1 x2 x3 B : Nat} {W : World} (h : S4 x0 x1 x2 x3 B W) : S4 x0 x1 x2 x3 B W.drew := h
theorem undrew {W w5 : World} (f : Below W.drew.heap.size W.drew w5) : Below W.heap.size W w5 := ⟨f.os, f.tape, f.output, f.size, f.block⟩
theorem only_set4 (x0 x1 x2 x3 : Nat) (W : World) (g : Nat) : Only g W (set4 x0 x1 x2 x3 W g) := ((((Only.refl g W).setCell 0 _).setCell 1 _).setCell 2 _).setCell 3 _
theorem S4.set {x0 x1 x2 x3 B : Nat} {W : World} (h : S4 x0 x1 x2 x3 B W) (g : Nat) (hg : B ≠ g) (y0 y1 y2 y3 : Nat) : S4 x0 x1 x2 x3 B (set4 y0 y1 y2 y3 W g) := h.same ((only_set4 y0 y1 y2 y3 W g).block B hg)
theorem S4.cells {x0 x1 x2 x3 B : Nat} {W : World} (h : S4 x0 x1 x2 x3 B W) (g : Nat) (hg : B ≠ g) (vs : List Value) : S4 x0 x1 x2 x3 B (W.setCells g 0 vs) := h.same (setCells_other g vs 0 W B hg)
/-- How it stands behind the mask's store: the box, the mask, a set of zeros. -/
structure Pre (x0 x1 x2 x3 : Nat) (w W : World) (g7 g8 : Nat) : Prop where
  box : Blk W w.heap.size 23 (ag4 x0 x1 x2 x3)
  msk : Blk W g7 24 (ag4 x0 x1 x2 x3)
  set : Box W g8 (fun _ => false)
  ne : g7 ≠ g8
  a7 : w.heap.size < g7
  a8 : w.heap.size < g8
  fr : Below w.heap.size w W
theorem Pre.there {x0 x1 x2 x3 : Nat} {w W : World} {g7 g8 : Nat} (h : Pre x0 x1 x2 x3 w W g7 g8) : W.there g8 0 256 := by
  have := h.set.there
  rwa [bools_len] at this
theorem Pre.s4 {x0 x1 x2 x3 : Nat} {w W : World} {g7 g8 : Nat} (h : Pre x0 x1 x2 x3 w W g7 g8) : S4 x0 x1 x2 x3 w.heap.size W := ⟨h.box.cell 0, h.box.cell 1, h.box.cell 2, h.box.cell 3⟩
theorem setCells_whole {W : World} {g : Nat} {t : TypeId} {c : List Value} (h : Blk W g t c) (vs : List Value) (hl : vs.length = c.length) : Blk (W.setCells g 0 vs) g t vs := by
  have := setCells_block g t vs 0 W c h (by omega)
  unfold Blk
  rw [this]
  simp [hl]
theorem only_setCells (W : World) (g : Nat) (vs : List Value) : Only g W (W.setCells g 0 vs) := ⟨(setCells_os g vs 0 W).1, (setCells_os g vs 0 W).2.1, (setCells_os g vs 0 W).2.2, setCells_size g vs 0 W, fun k hk => setCells_other g vs 0 W k hk⟩
/-- What region 1 leaves. -/
def Post1 (x0 x1 x2 x3 : Nat) (m : List Nat) (w : World) (v7 v8 : Value) (wx : World) : Prop :=
  ∃ g7 g8, v7 = .pointer (some ⟨g7, 0, none⟩) ∧ v8 = .pointer (some ⟨g8, 0, none⟩) ∧ g7 ≠ g8 ∧ w.heap.size < g7 ∧ w.heap.size < g8 ∧ Blk wx w.heap.size 23 (ag4 x0 x1 x2 x3) ∧ Blk wx g7 24 (ag4 x0 x1 x2 x3) ∧ Box wx g8 (inM m) ∧ Below w.heap.size w wx
theorem Pre.post {x0 x1 x2 x3 : Nat} {m : List Nat} {w W : World} {g7 g8 : Nat} (h : Pre x0 x1 x2 x3 w W g7 g8) {CS : List Value} (hCS : CS = bools (inM m)) : Post1 x0 x1 x2 x3 m w (.pointer (some ⟨g7, 0, none⟩)) (.pointer (some ⟨g8, 0, none⟩)) (W.setCells g8 0 CS) := by
  have o2 := only_setCells W g8 CS
  have a7 := h.a7
  have a8 := h.a8
  refine ⟨g7, g8, rfl, rfl, h.ne, h.a7, h.a8, h.box.only o2 (by omega), h.msk.only o2 h.ne, ?_, h.fr.trans (o2.below (by omega))⟩
  have := setCells_whole h.set CS (by rw [hCS, bools_len, bools_len])
  rw [hCS] at this ⊢
  exact this
/-- The mask's four numbers are stored. -/
theorem Pre.of {x0 x1 x2 x3 : Nat} {w W : World} {g7 g8 : Nat} (box : Blk W w.heap.size 23 (ag4 x0 x1 x2 x3)) (msk : Blk W g7 24 (ag4 0 0 0 0)) (set : Box W g8 (fun _ => false)) (ne : g7 ≠ g8) (a7 : w.heap.size < g7) (a8 : w.heap.size < g8) (fr : Below w.heap.size w W) : Pre x0 x1 x2 x3 w (set4 x0 x1 x2 x3 W g7) g7 g8 := by
  have o1 := only_set4 x0 x1 x2 x3 W g7
  exact ⟨box.only o1 (by omega), (((msk.set 0 _).set 1 _).set 2 _).set 3 _, set.only o1 ne.symm, ne, a7, a8, fr.trans (o1.below (by omega))⟩
section
variable {x0 x1 x2 x3 : Nat} {w w1 w5 : World} {Z : Array Value}
abbrev C24 : Obj := .cells #[.int .u64 0, .int .u64 0, .int .u64 0, .int .u64 0] 24
abbrev C26 (Z : Array Value) : Obj := .cells Z 26
theorem s4_of (B : Blk w1 w.heap.size 23 (ag4 x0 x1 x2 x3)) {W : World} (f : Below w1.heap.size w1 W) : S4 x0 x1 x2 x3 w.heap.size W := by
  have b := B.below f B.lt
  exact ⟨b.cell 0, b.cell 1, b.cell 2, b.cell 3⟩
abbrev M24 (x0 x1 x2 x3 : Nat) : Obj := .cells #[.int .u64 (x0 : Int), .int .u64 (x1 : Int), .int .u64 (x2 : Int), .int .u64 (x3 : Int)] 24
theorem arm0 (hZ : Z = (bools (fun _ => false)).toArray) (B : Blk w1 w.heap.size 23 (ag4 x0 x1 x2 x3)) (F : Below w.heap.size w w1) (hs : w1.heap.size = w.heap.size + 1) (f : Below w1.heap.size w1 w5) : Pre x0 x1 x2 x3 w ((w5.alloc (M24 x0 x1 x2 x3)).alloc (C26 Z)) w5.heap.size (w5.heap.size + 1) ∧ Pre x0 x1 x2 x3 w ((w5.alloc (C26 Z)).alloc (M24 x0 x1 x2 x3)) (w5.heap.size + 1) w5.heap.size := by
  have hz := f.size
  have b := B.below f B.lt
  have fr := F.trans (f.mono (by omega))
  refine ⟨⟨(b.alloc _).alloc _, (Blk.new w5 _ _ _ rfl).alloc _, ?_, by omega, by omega, by omega, (fr.alloc (by omega) _).alloc (by simp; omega) _⟩, ⟨(b.alloc _).alloc _, ?_, (Blk.new w5 _ _ _ hZ).alloc _, by omega, by omega, by omega, (fr.alloc (by omega) _).alloc (by simp; omega) _⟩⟩
  · have := Blk.new (w5.alloc (M24 x0 x1 x2 x3)) 26 _ Z hZ
    simp only [World.size_alloc] at this
    exact this
  · have := Blk.new (w5.alloc (C26 Z)) 24 (ag4 x0 x1 x2 x3) #[.int .u64 (x0 : Int), .int .u64 (x1 : Int), .int .u64 (x2 : Int), .int .u64 (x3 : Int)] rfl
    simp only [World.size_alloc] at this
    exact this
theorem arm1 (hZ : Z = (bools (fun _ => false)).toArray) (B : Blk w1 w.heap.size 23 (ag4 x0 x1 x2 x3)) (F : Below w.heap.size w w1) (hs : w1.heap.size = w.heap.size + 1) (f : Below (w1.alloc C24).heap.size (w1.alloc C24) w5) : Below w1.heap.size w1 w5 ∧ Blk w5 (w.heap.size + 1) 24 (ag4 0 0 0 0) ∧ Pre x0 x1 x2 x3 w (set4 x0 x1 x2 x3 (w5.alloc (C26 Z)) (w.heap.size + 1)) (w.heap.size + 1) w5.heap.size := by
  have hz := f.size
  simp at hz
  have f1 : Below w1.heap.size w1 w5 := ((Below.refl _ _).alloc (Nat.le_refl _) _).trans (f.mono (by simp))
  have b := B.below f1 B.lt
  have fr := F.trans (f1.mono (by omega))
  have n7 : Blk w5 (w.heap.size + 1) 24 (ag4 0 0 0 0) := by
    rw [← hs]
    exact (Blk.new w1 _ _ _ rfl).below f (by simp)
  exact ⟨f1, n7, Pre.of (b.alloc _) (n7.alloc _) (Blk.new w5 _ _ _ hZ) (by omega) (by omega) (by omega) (fr.alloc (by omega) _)⟩
theorem arm2 (hZ : Z = (bools (fun _ => false)).toArray) (B : Blk w1 w.heap.size 23 (ag4 x0 x1 x2 x3)) (F : Below w.heap.size w w1) (hs : w1.heap.size = w.heap.size + 1) (f : Below (w1.alloc (C26 Z)).heap.size (w1.alloc (C26 Z)) w5) : Below w1.heap.size w1 w5 ∧ Pre x0 x1 x2 x3 w (w5.alloc (M24 x0 x1 x2 x3)) w5.heap.size (w.heap.size + 1) := by
  have hz := f.size
  simp at hz
  have f1 : Below w1.heap.size w1 w5 := ((Below.refl _ _).alloc (Nat.le_refl _) _).trans (f.mono (by simp))
  have b := B.below f1 B.lt
  have fr := F.trans (f1.mono (by omega))
  have n8 : Box w5 (w.heap.size + 1) (fun _ => false) := by
    rw [← hs]
    exact (Blk.new w1 _ _ _ hZ).below f (by simp)
  exact ⟨f1, b.alloc _, Blk.new w5 _ _ _ rfl, n8.alloc _, by omega, by omega, by omega, fr.alloc (by omega) _⟩
theorem arm3 (hZ : Z = (bools (fun _ => false)).toArray) (B : Blk w1 w.heap.size 23 (ag4 x0 x1 x2 x3)) (F : Below w.heap.size w w1) (hs : w1.heap.size = w.heap.size + 1) (f : Below ((w1.alloc C24).alloc (C26 Z)).heap.size ((w1.alloc C24).alloc (C26 Z)) w5) : Below w1.heap.size w1 w5 ∧ Blk w5 (w.heap.size + 1) 24 (ag4 0 0 0 0) ∧ Pre x0 x1 x2 x3 w (set4 x0 x1 x2 x3 w5 (w.heap.size + 1)) (w.heap.size + 1) (w.heap.size + 1 + 1) := by
  have hz := f.size
  simp at hz
  have f1 : Below w1.heap.size w1 w5 := (((Below.refl _ _).alloc (Nat.le_refl _) _).alloc (by simp) _).trans (f.mono (by simp; omega))
  have b := B.below f1 B.lt
  have fr := F.trans (f1.mono (by omega))
  have n7 : Blk w5 (w.heap.size + 1) 24 (ag4 0 0 0 0) := by
    rw [← hs]
    exact ((Blk.new w1 _ _ _ rfl).alloc _).below f (by simp; omega)
  have n8 : Box w5 (w.heap.size + 1 + 1) (fun _ => false) := by
    have := Blk.new (w1.alloc C24) 26 _ Z hZ
    simp only [World.size_alloc, hs] at this
    exact this.below f (by simp; omega)
  exact ⟨f1, n7, Pre.of b n7 n8 (by omega) (by omega) (by omega) fr⟩
theorem arm4 (hZ : Z = (bools (fun _ => false)).toArray) (B : Blk w1 w.heap.size 23 (ag4 x0 x1 x2 x3)) (F : Below w.heap.size w w1) (hs : w1.heap.size = w.heap.size + 1) (f : Below ((w1.alloc (C26 Z)).alloc C24).heap.size ((w1.alloc (C26 Z)).alloc C24) w5) : Below w1.heap.size w1 w5 ∧ Blk w5 (w.heap.size + 1 + 1) 24 (ag4 0 0 0 0) ∧ Pre x0 x1 x2 x3 w (set4 x0 x1 x2 x3 w5 (w.heap.size + 1 + 1)) (w.heap.size + 1 + 1) (w.heap.size + 1) := by
  have hz := f.size
  simp at hz
  have f1 : Below w1.heap.size w1 w5 := (((Below.refl _ _).alloc (Nat.le_refl _) _).alloc (by simp) _).trans (f.mono (by simp; omega))
  have b := B.below f1 B.lt
  have fr := F.trans (f1.mono (by omega))
  have n8 : Box w5 (w.heap.size + 1) (fun _ => false) := by
    rw [← hs]
    exact ((Blk.new w1 _ _ _ hZ).alloc _).below f (by simp; omega)
  have n7 : Blk w5 (w.heap.size + 1 + 1) 24 (ag4 0 0 0 0) := by
    have := Blk.new (w1.alloc (C26 Z)) 24 (ag4 0 0 0 0) #[.int .u64 0, .int .u64 0, .int .u64 0, .int .u64 0] rfl
    simp only [World.size_alloc, hs] at this
    exact this.below f (by simp; omega)
  exact ⟨f1, n7, Pre.of b n7 n8 (by omega) (by omega) (by omega) fr⟩
end

/-- What region 2 leaves: two sets more. -/
def Post2 (m : List Nat) (wc : World) (v9 v10 : Value) (wx : World) : Prop :=
  ∃ g9 g10, v9 = .pointer (some ⟨g9, 0, none⟩) ∧ v10 = .pointer (some ⟨g10, 0, none⟩) ∧ g9 ≠ g10 ∧ wc.heap.size ≤ g9 ∧ wc.heap.size ≤ g10 ∧ Box wx g9 (inM m) ∧ Box wx g10 (inM m) ∧ Below wc.heap.size wc wx
theorem Box.thr {w : World} {g : Nat} {f : Nat → Bool} (h : Box w g f) : w.there g 0 256 := by
  have := Blk.there h
  rwa [bools_len] at this
structure Two (m : List Nat) (wc X : World) (CS : List Value) (g8 s t : Nat) : Prop where
  r : X.rangeAt g8 0 CS
  ts : X.there s 0 256
  rs : (X.setCells s 0 CS).rangeAt g8 0 CS
  tt : (X.setCells s 0 CS).there t 0 256
  rt : ((X.setCells s 0 CS).setCells t 0 CS).rangeAt g8 0 CS
  post : Post2 m wc (.pointer (some ⟨s, 0, none⟩)) (.pointer (some ⟨t, 0, none⟩)) ((X.setCells s 0 CS).setCells t 0 CS)
theorem two_of {m : List Nat} {wc X : World} {CS : List Value} {g8 s t : Nat} (hCS : CS = bools (inM m)) (b8 : Box X g8 (inM m)) (bs : Box X s (fun _ => false)) (bt : Box X t (fun _ => false)) (ne : s ≠ t) (n8s : g8 ≠ s) (n8t : g8 ≠ t) (hs : wc.heap.size ≤ s) (ht : wc.heap.size ≤ t) (F : Below wc.heap.size wc X) : Two m wc X CS g8 s t := by
  subst hCS
  have o1 := only_setCells X s (bools (inM m))
  have b8' := b8.only o1 n8s
  have bs' : Box (X.setCells s 0 (bools (inM m))) s (inM m) := setCells_whole bs _ (by rw [bools_len, bools_len])
  have bt' := bt.only o1 ne.symm
  have o2 := only_setCells (X.setCells s 0 (bools (inM m))) t (bools (inM m))
  have bt2 : Box ((X.setCells s 0 (bools (inM m))).setCells t 0 (bools (inM m))) t (inM m) := setCells_whole bt' _ (by rw [bools_len, bools_len])
  exact ⟨b8.range, bs.thr, b8'.range, (show Box _ t (fun _ => false) from bt').thr, (b8'.only o2 n8t).range, s, t, rfl, rfl, ne, hs, ht, bs'.only o2 ne, bt2, F.trans ((o1.below hs).trans (o2.below ht))⟩
theorem two_sets {m : List Nat} {wc : World} {CS : List Value} {Z : Array Value} {g8 : Nat} (hZ : Z = (bools (fun _ => false)).toArray) (hCS : CS = bools (inM m)) (B : Box wc g8 (inM m)) :
    wc.drew.rangeAt g8 0 CS ∧ (wc.alloc (C26 Z)).drew.rangeAt g8 0 CS ∧ Two m wc ((wc.alloc (C26 Z)).alloc (C26 Z)).drew CS g8 wc.heap.size (wc.heap.size + 1) ∧ Two m wc ((wc.alloc (C26 Z)).alloc (C26 Z)).drew CS g8 (wc.heap.size + 1) wc.heap.size := by
  have lt := B.lt
  have x8 : Box ((wc.alloc (C26 Z)).alloc (C26 Z)).drew g8 (inM m) := ((B.alloc _).alloc _).drew
  have xs : Box ((wc.alloc (C26 Z)).alloc (C26 Z)).drew wc.heap.size (fun _ => false) := ((Blk.new wc _ _ _ hZ).alloc _).drew
  have xt : Box ((wc.alloc (C26 Z)).alloc (C26 Z)).drew (wc.heap.size + 1) (fun _ => false) := by
    have := Blk.new (wc.alloc (C26 Z)) 26 _ Z hZ
    simp only [World.size_alloc] at this
    exact this.drew
  have F : Below wc.heap.size wc ((wc.alloc (C26 Z)).alloc (C26 Z)).drew := (((Below.refl _ _).alloc (Nat.le_refl _) _).alloc (by simp) _).drew
  have b1 : Box (wc.alloc (C26 Z)).drew g8 (inM m) := (B.alloc _).drew
  refine ⟨?_, ?_, two_of hCS x8 xs xt (by omega) (by omega) (by omega) (by omega) (by omega) F, two_of hCS x8 xt xs (by omega) (by omega) (by omega) (by omega) (by omega) F⟩
  · rw [hCS]; exact B.drew.range
  · rw [hCS]; exact b1.range

/-- How it lies from region 4 on. -/
structure Sit (x0 x1 x2 x3 : Nat) (m : List Nat) (b : Nat) (w W : World) (g7 g8 g9 g10 : Nat) : Prop where
  box : Blk W w.heap.size 23 (ag4 x0 x1 x2 x3)
  msk : Blk W g7 24 (ag4 x0 x1 x2 x3)
  s8 : Box W g8 (inM m)
  s9 : Box W g9 (inM (wth m b))
  s10 : Box W g10 (inM (wo m b))
  fr : Below w.heap.size w W
theorem Sit.below {x0 x1 x2 x3 : Nat} {m : List Nat} {b : Nat} {w W W' : World} {g7 g8 g9 g10 : Nat} (h : Sit x0 x1 x2 x3 m b w W g7 g8 g9 g10) (f : Below W.heap.size W W') : Sit x0 x1 x2 x3 m b w W' g7 g8 g9 g10 :=
  ⟨h.box.below f h.box.lt, h.msk.below f h.msk.lt, h.s8.below f h.s8.lt, h.s9.below f h.s9.lt, h.s10.below f h.s10.lt, h.fr.trans (f.mono h.fr.size)⟩
theorem Sit.drew {x0 x1 x2 x3 : Nat} {m : List Nat} {b : Nat} {w W : World} {g7 g8 g9 g10 : Nat} (h : Sit x0 x1 x2 x3 m b w W g7 g8 g9 g10) : Sit x0 x1 x2 x3 m b w W.drew g7 g8 g9 g10 := ⟨h.box, h.msk, h.s8, h.s9, h.s10, h.fr.drew⟩
theorem bools_wth (m : List Nat) (hm : Ok m) (b : Nat) (hb : b < 256) : (bools (inM m)).set b (.bool true) = bools (inM (wth m b)) := by
  rw [bools_set _ b hb]
  refine List.map_congr_left fun i hi => ?_
  rw [inM_wth m hm b i hb]
  by_cases h : i = b <;> simp [h]
theorem bools_wo (m : List Nat) (hm : Ok m) (b : Nat) (hb : b < 256) : (bools (inM m)).set b (.bool false) = bools (inM (wo m b)) := by
  rw [bools_set _ b hb]
  refine List.map_congr_left fun i hi => ?_
  rw [inM_wo m hm b i hb]
  by_cases h : i = b <;> simp [h]
theorem sit_of {x0 x1 x2 x3 : Nat} {m : List Nat} (hm : Ok m) {b : Nat} (hb : b < 256) {w wx : World} {g7 g8 g9 g10 : Nat} (box : Blk wx w.heap.size 23 (ag4 x0 x1 x2 x3)) (msk : Blk wx g7 24 (ag4 x0 x1 x2 x3)) (s8 : Box wx g8 (inM m)) (s9 : Box wx g9 (inM m)) (s10 : Box wx g10 (inM m)) (fr : Below w.heap.size w wx)
    (h7 : w.heap.size < g7) (h8 : w.heap.size < g8) (ne9 : g9 ≠ g10) (n79 : g7 < g9) (n70 : g7 < g10) (n89 : g8 < g9) (n80 : g8 < g10) :
    wx.cell? ⟨g9, b, none⟩ = some (.bool (inM m b)) ∧ wx.frozen? ⟨g9, b, none⟩ = false ∧ (wx.setCell ⟨g9, b, none⟩ (.bool true)).cell? ⟨g10, b, none⟩ = some (.bool (inM m b)) ∧ (wx.setCell ⟨g9, b, none⟩ (.bool true)).frozen? ⟨g10, b, none⟩ = false ∧ Sit x0 x1 x2 x3 m b w ((wx.setCell ⟨g9, b, none⟩ (.bool true)).setCell ⟨g10, b, none⟩ (.bool false)) g7 g8 g9 g10 := by
  have o1 : Only g9 wx (wx.setCell ⟨g9, b, none⟩ (.bool true)) := (Only.refl _ _).setCell _ _
  have o2 : Only g10 (wx.setCell ⟨g9, b, none⟩ (.bool true)) ((wx.setCell ⟨g9, b, none⟩ (.bool true)).setCell ⟨g10, b, none⟩ (.bool false)) := (Only.refl _ _).setCell _ _
  have t9 := s9.set b (.bool true)
  rw [bools_wth m hm b hb] at t9
  have t10' := s10.only o1 ne9.symm
  have t10 := t10'.set b (.bool false)
  rw [bools_wo m hm b hb] at t10
  exact ⟨(s9.cell b).trans (bools_get _ b hb), s9.frozen b, (t10'.cell b).trans (bools_get _ b hb), t10'.frozen b, ⟨(box.only o1 (by omega)).only o2 (by omega), (msk.only o1 (by omega)).only o2 (by omega), (s8.only o1 (by omega)).only o2 (by omega), t9.only o2 ne9, t10, fr.trans ((o1.below (by omega)).trans (o2.below (by omega)))⟩⟩
theorem cntB_len (f : Nat → Bool) : ∀ k, cntB f k = ((List.range k).filter f).length
  | 0 => rfl
  | k + 1 => by
    rw [cntB, cntB_len f k, List.range_succ, List.filter_append]
    cases hf : f k <;> simp [hf]
theorem filter_below (f : Nat → Bool) (k : Nat) (hk : k ≤ 256) (n : Int) (hn : ∀ b : Nat, b < 256 → ((b : Int) < n ↔ b < k)) : ((List.range 256).filter f).filter (fun (b : Nat) => decide ((b : Int) < n)) = (List.range k).filter f := by
  obtain ⟨j, hj⟩ : ∃ j, 256 = k + j := ⟨256 - k, by omega⟩
  rw [List.filter_filter, hj, List.range_add, List.filter_append]
  have h1 : (List.range k).filter (fun (b : Nat) => decide ((b : Int) < n) && f b) = (List.range k).filter f := by
    refine List.filter_congr fun b hb => ?_
    have : b < k := by simpa using hb
    rw [decide_eq_true ((hn b (by omega)).2 this)]
    rfl
  have h2 : ((List.range j).map (k + ·)).filter (fun (b : Nat) => decide ((b : Int) < n) && f b) = [] := by
    rw [List.filter_eq_nil_iff]
    intro b hb
    obtain ⟨i, hi, rfl⟩ := List.mem_map.1 hb
    have hi' : i < j := by simpa using hi
    rw [decide_eq_false (fun h => by have := (hn (k + i) (by omega)).1 h; omega)]
    simp
  rw [h1, h2, List.append_nil]
theorem rank_same (m : List Nat) (hm : Ok m) (n : Int) : cnt (bl m (max n 0)) = cntB (inM m) (min 256 (max n 0)).toNat := by
  rw [cntB_len, cnt_len _ (bl_ok m hm _), elems_bl m hm]
  unfold elems
  rw [filter_below (inM m) (min 256 (max n 0)).toNat (by omega) (max n 0) (fun b hb => by omega)]
theorem all_same (m : List Nat) : allB (inM m) 256 = elems m := allB_is _ _

/-- What region 5's loads read. -/
structure S5 (x0 x1 x2 x3 b g7 g8 g9 g10 : Nat) (vb : Bool) (CS CS9 CS10 : List Value) (W : World) : Prop where
  k0 : W.cell? ⟨g7, 0, none⟩ = some (.int .u64 (x0 : Int))
  k1 : W.cell? ⟨g7, 1, none⟩ = some (.int .u64 (x1 : Int))
  k2 : W.cell? ⟨g7, 2, none⟩ = some (.int .u64 (x2 : Int))
  k3 : W.cell? ⟨g7, 3, none⟩ = some (.int .u64 (x3 : Int))
  kb : W.cell? ⟨g8, b, none⟩ = some (.bool vb)
  r8 : W.rangeAt g8 0 CS
  r9 : W.rangeAt g9 0 CS9
  r10 : W.rangeAt g10 0 CS10
theorem Sit.s5 {x0 x1 x2 x3 : Nat} {m : List Nat} {b : Nat} (hb : b < 256) {w W : World} {g7 g8 g9 g10 : Nat} (h : Sit x0 x1 x2 x3 m b w W g7 g8 g9 g10) : S5 x0 x1 x2 x3 b g7 g8 g9 g10 (inM m b) (bools (inM m)) (bools (inM (wth m b))) (bools (inM (wo m b))) W :=
  ⟨h.msk.cell 0, h.msk.cell 1, h.msk.cell 2, h.msk.cell 3, (h.s8.cell b).trans (bools_get _ b hb), h.s8.range, h.s9.range, h.s10.range⟩
theorem Sit.grown {x0 x1 x2 x3 : Nat} {m : List Nat} {b : Nat} {w W W' : World} {g7 g8 g9 g10 : Nat} {row : Option Nat} (h : Sit x0 x1 x2 x3 m b w W g7 g8 g9 g10) (g : W.grownBy W' row) (B : Nat) (hr : ∀ k, row = some k → B ≤ k) (hx : w.heap.size < B) (h7 : g7 < B) (h8 : g8 < B) (h9 : g9 < B) (h10 : g10 < B) : Sit x0 x1 x2 x3 m b w W' g7 g8 g9 g10 := by
  have sm : ∀ k, k < W.heap.size → k < B → W'.heap[k]? = W.heap[k]? := fun k hk hB => g.block k hk (fun e => by have := hr k e.symm; omega)
  exact ⟨(sm _ h.box.lt hx).trans h.box, (sm _ h.msk.lt h7).trans h.msk, (sm _ h.s8.lt h8).trans h.s8, (sm _ h.s9.lt h9).trans h.s9, (sm _ h.s10.lt h10).trans h.s10,
    h.fr.trans ⟨g.os, g.tape, g.output, g.size, fun k hk => sm k (by have := h.fr.size; omega) (by omega)⟩⟩

/-- An operation of a region that is written out as a list is taken first. -/
theorem take_list {P : Program} {l : List Oper} {Q : Exit → Act → World → Prop} {md : Region.Mode} {S : World → Prop} {i : Nat} {oi : Oper} {v : Value} {fuel : Nat} {listed : Array Bool} {a : Act} {w : World} (hi : l[i]? = some oi)
    (hs : Region.noSelect l.toArray = true) (hf : Region.free md l.toArray listed i = true) (hr : (Region.ready md l.toArray listed).contains i = true)
    (hQ : ∀ c a w, Q (.panic c) (a.put oi.dst v) w → Q (.panic c) a w) (hy : YieldsIf P l.toArray S oi v a) (hS : S w)
    (h : wpAnyH P md l.toArray Q S fuel (listed.setIfInBounds i true) (a.put oi.dst v) w) : wpAnyH P md l.toArray Q S (fuel + 1) listed a w :=
  wpAnyH_take (by simpa using hi) hs hf hr hQ hy hS h
theorem ready_list {P : Program} {l : List Oper} {Q : Exit → Act → World → Prop} {md : Region.Mode} {S : World → Prop} {fuel : Nat} {listed : Array Bool} {a : Act} {w : World} {i : Nat} {o : Oper} {rs : List Nat} (ho : l[i]? = some o)
    (h : ∀ K' : Act → World → Prop, Shut (∀ a w, S w → (S w → wpAnyH P md l.toArray Q S fuel (listed.setIfInBounds i true) a w) → K' a w) → if Region.wanted o (yielded l.toArray a.tmps) = true then Oper.wp P o a w K' Q else K' (a.put o.dst undef) w)
    (hs : AllReadyH P md l.toArray Q S fuel listed a w rs) : AllReadyH P md l.toArray Q S fuel listed a w (i :: rs) := AllReadyH.cons (by simpa using ho) h hs

set_option maxRecDepth 100000 in
set_option maxHeartbeats 6400000 in
theorem tells_any (m : List Nat) (hm : Ok m) (b : Nat) (hb : b < 256) (n : Int) (hn : -9223372036854775808 ≤ n ∧ n ≤ 9223372036854775807) (w : World) (hT : Tab w) (hw : 0 < w.heap.size) :
    Calls Tryd.prog 3 #[mv m, .int .u8 b, .int .i64 n] w fun e w' => e = .returned (.bool true) ∧ Below w.heap.size w w' := by
  have HM := hide hm
  have HT := hide hT
  have HN := hide hn
  obtain ⟨x0, x1, x2, x3, ex⟩ := list4 m hm.len
  have EX := hide ex
  have goal4 : mv m = .agg #[.int .u64 (x0 : Int), .int .u64 (x1 : Int), .int .u64 (x2 : Int), .int .u64 (x3 : Int)] := by rw [ex]; rfl
  rw [goal4]
  clear goal4 hm hT hn ex
  go_enter Tryd.func3, Tryd.ntmps3
  obtain ⟨zv, zs⟩ := zero_set
  obtain ⟨Z, hZ⟩ : ∃ Z, Z = (bools (fun _ => false)).toArray := ⟨_, rfl⟩
  rw [← hZ] at zv
  have uSet := Tryd.underlying26
  obtain ⟨CS, hCS⟩ : ∃ CS, CS = bools (inM m) := ⟨_, rfl⟩
  have hlen : CS.length = 256 := by rw [hCS]; exact bools_len _
  have zs' : (Tryd.prog.info? 26).map (·.size) = some CS.length := by rw [hlen]; exact zs
  have hone : ∀ v ∈ CS, v.oneCell' = true := by rw [hCS]; exact bools_one _
  have COF : Hid (∀ w, Calls Tryd.prog 7 #[ag x0 x1 x2 x3] w fun e w' => e = .returned (.agg CS.toArray) ∧ Below w.heap.size w w') := fun w => by
    have := rof_any m HM.out w
    rw [show mv m = ag x0 x1 x2 x3 from by rw [EX.out]; rfl, ← hCS] at this
    exact this
  have HCS := hide hCS
  have HZ := hide hZ
  clear hCS hZ
  have B1 : Hid (Blk (w.alloc (.cells #[.int .u64 (x0 : Int), .int .u64 (x1 : Int), .int .u64 (x2 : Int), .int .u64 (x3 : Int)] 23)) w.heap.size 23 (ag4 x0 x1 x2 x3)) := Blk.new w _ _ _ rfl
  have F1 : Hid (Below w.heap.size w (w.alloc (.cells #[.int .u64 (x0 : Int), .int .u64 (x1 : Int), .int .u64 (x2 : Int), .int .u64 (x3 : Int)] 23))) := (Below.refl _ _).alloc (Nat.le_refl _) _
  obtain ⟨w1, hw1⟩ : ∃ w1, w1 = w.alloc (.cells #[.int .u64 (x0 : Int), .int .u64 (x1 : Int), .int .u64 (x2 : Int), .int .u64 (x3 : Int)] 23) := ⟨_, rfl⟩
  have hs1 : w1.heap.size = w.heap.size + 1 := by rw [hw1]; simp
  rw [← hw1] at B1 F1
  go_wp2_with fail
  rw [← hw1]
  clear hw1
  go_cut [7, 8] (fun v7 v8 wx => Post1 x0 x1 x2 x3 m w v7 v8 wx)
  case first =>
    have S0 : S4 x0 x1 x2 x3 w.heap.size w1 := s4_of B1.out (Below.refl _ _)
    go_region_held3 (fun w' => w'.cell? ⟨w.heap.size, 0, none⟩ = some (.int .u64 (x0 : Int)) ∧ w'.cell? ⟨w.heap.size, 1, none⟩ = some (.int .u64 (x1 : Int)) ∧ w'.cell? ⟨w.heap.size, 2, none⟩ = some (.int .u64 (x2 : Int)) ∧ w'.cell? ⟨w.heap.size, 3, none⟩ = some (.int .u64 (x3 : Int))) (first | (with_reducible exact S5) | (with_reducible exact S4.drewd S0) | (with_reducible exact S4.drewd (S4.alloc S0 _)) | (with_reducible exact S4.drewd (S4.alloc (S4.alloc S0 _) _)) | (with_reducible exact S4.alloc S5 _) | (with_reducible exact S4.alloc (S4.alloc S5 _) _) | (with_reducible exact PP1.out.s4) | (with_reducible exact PP2.out.s4) | (with_reducible refine S4.cells ?_ _ ?_ _; (with_reducible assumption); omega))
      (first
      | (go_at_call 7; refine (COF.out _).mono ?_; rintro e w5 ⟨rfl, f5⟩; first
        | (with_reducible change Below w1.drew.heap.size w1.drew w5 at f5; obtain ⟨P1, P2⟩ := arm0 HZ.out B1.out F1.out hs1 (undrew f5); have T2 := P2.there; have PP2 := hide P2; clear P2; have f6 := undrew f5; have T1 := P1.there; have S5 := s4_of B1.out f6; have hs5 := World.block_lt_of_cell? w5 _ S5.1; have PP1 := hide P1; clear f5 f6 P1)
        | (with_reducible change Below (w1.alloc C24).drew.heap.size (w1.alloc C24).drew w5 at f5; obtain ⟨f6, n7, P1⟩ := arm1 HZ.out B1.out F1.out hs1 (undrew f5); have T1 := P1.there; have S5 := s4_of B1.out f6; have hs5 := World.block_lt_of_cell? w5 _ S5.1; have PP1 := hide P1; clear f5 f6 P1; obtain ⟨c0, c1, c2, c3⟩ := n7.cells4; obtain ⟨z0, z1, z2, z3⟩ := n7.frozen4; obtain ⟨d0, d1, d2, d3⟩ := (n7.alloc (C26 Z)).cells4; obtain ⟨y0, y1, y2, y3⟩ := (n7.alloc (C26 Z)).frozen4; clear n7)
        | (with_reducible change Below (w1.alloc (C26 Z)).drew.heap.size (w1.alloc (C26 Z)).drew w5 at f5; obtain ⟨f6, P1⟩ := arm2 HZ.out B1.out F1.out hs1 (undrew f5); have T1 := P1.there; have S5 := s4_of B1.out f6; have hs5 := World.block_lt_of_cell? w5 _ S5.1; have PP1 := hide P1; clear f5 f6 P1)
        | (with_reducible change Below ((w1.alloc C24).alloc (C26 Z)).drew.heap.size ((w1.alloc C24).alloc (C26 Z)).drew w5 at f5; obtain ⟨f6, n7, P1⟩ := arm3 HZ.out B1.out F1.out hs1 (undrew f5); have T1 := P1.there; have S5 := s4_of B1.out f6; have hs5 := World.block_lt_of_cell? w5 _ S5.1; have PP1 := hide P1; clear f5 f6 P1; obtain ⟨c0, c1, c2, c3⟩ := n7.cells4; obtain ⟨z0, z1, z2, z3⟩ := n7.frozen4; clear n7)
        | (with_reducible change Below ((w1.alloc (C26 Z)).alloc C24).drew.heap.size ((w1.alloc (C26 Z)).alloc C24).drew w5 at f5; obtain ⟨f6, n7, P1⟩ := arm4 HZ.out B1.out F1.out hs1 (undrew f5); have T1 := P1.there; have S5 := s4_of B1.out f6; have hs5 := World.block_lt_of_cell? w5 _ S5.1; have PP1 := hide P1; clear f5 f6 P1; obtain ⟨c0, c1, c2, c3⟩ := n7.cells4; obtain ⟨z0, z1, z2, z3⟩ := n7.frozen4; clear n7)))
    all_goals (
      go_wp2_with fail
      go_meet
      case rel => first | exact PP1.out.post HCS.out | exact PP2.out.post HCS.out)
  case rest =>
    obtain ⟨g7, g8, rfl, rfl, ne78, a7, a8, bx, bm, bs, fr⟩ := hcut
    have BX := hide bx
    have BM := hide bm
    have BS := hide bs
    have FR := hide fr
    clear bx bm bs fr COF B1 F1
    obtain ⟨r0, r1, ta, tb⟩ := two_sets (m := m) HZ.out HCS.out BS.out
    have R0 := hide r0
    have R1 := hide r1
    have TA := hide ta
    have TB := hide tb
    have hsz : CS.toArray.size = 256 := by rw [List.size_toArray, hlen]
    have t1 := ta.ts
    have t2 := ta.tt
    have t3 := tb.ts
    have t4 := tb.tt
    rw [← hsz] at t1 t2 t3 t4
    have T1 := hide t1
    have T2 := hide t2
    have T3 := hide t3
    have T4 := hide t4
    clear t1 t2 t3 t4 hsz
    clear r0 r1 ta tb
    go_wp2_with fail
    go_cut [9, 10] (fun v9 v10 wx => Post2 m wc v9 v10 wx)
    case first =>
      refine wp_region_noPanic ?_
      refine wp_region_held_drew (S := fun w' => w'.rangeAt g8 0 CS) (by kernel_rfl) R0.out (fun hHeld => ?_)
      refine take_list (i := 0) (v := .agg CS.toArray) rfl (by kernel_rfl) (by kernel_rfl) (by kernel_rfl) (fun _ _ _ h => h) (yieldsIf_load_mid (by rfl) _ _ rfl _ _ rfl _ _ (fun w h => h) uSet rfl zs') hHeld ?_
      simp only [Act.put, List.setIfInBounds_toArray, List.set_cons_zero, List.set_cons_succ]
      refine take_list (i := 1) (v := .agg CS.toArray) rfl (by kernel_rfl) (by kernel_rfl) (by kernel_rfl) (fun _ _ _ h => h) (yieldsIf_load_mid (by rfl) _ _ rfl _ _ rfl _ _ (fun w h => h) uSet rfl zs') hHeld ?_
      simp only [Act.put, List.setIfInBounds_toArray, List.set_cons_zero, List.set_cons_succ]
      refine wpAnyH_ready (rs := [2, 3]) (by kernel_rfl) (by simp) ?_
      refine ready_list rfl (fun K hK => ?_) (ready_list rfl (fun K hK => ?_) AllReadyH.nil)
      · go_simp
        refine hK.out _ _ R1.out (fun hHeld => ?_)
        clear hK K
        try simp only [Act.put, List.setIfInBounds_toArray, List.set_cons_zero, List.set_cons_succ]
        refine wpAnyH_ready (rs := [3]) (by kernel_rfl) (by simp) ?_
        refine ready_list rfl (fun K hK => ?_) AllReadyH.nil
        go_simp
        refine hK.out _ _ TA.out.r (fun hHeld => ?_)
        clear hK K
        try simp only [Act.put, List.setIfInBounds_toArray, List.set_cons_zero, List.set_cons_succ]
        refine wpAnyH_ready (rs := [4]) (by kernel_rfl) (by simp) ?_
        refine ready_list rfl (fun K hK => ?_) AllReadyH.nil
        rw [if_pos (by rfl)]
        refine wp_store_mid _ _ _ rfl wc.heap.size 0 CS.toArray rfl rfl T1.out (by rw [List.size_toArray]; exact zs') (all_oneCell_toArray hone) ?_
        try simp only [Act.put, List.setIfInBounds_toArray, List.set_cons_zero, List.set_cons_succ, List.toList_toArray]
        refine hK.out _ _ TA.out.rs (fun hHeld => ?_)
        clear hK K
        refine wpAnyH_ready (rs := [5]) (by kernel_rfl) (by simp) ?_
        refine ready_list rfl (fun K hK => ?_) AllReadyH.nil
        rw [if_pos (by rfl)]
        refine wp_store_mid _ _ _ rfl (wc.heap.size + 1) 0 CS.toArray rfl rfl T2.out (by rw [List.size_toArray]; exact zs') (all_oneCell_toArray hone) ?_
        try simp only [Act.put, List.setIfInBounds_toArray, List.set_cons_zero, List.set_cons_succ, List.toList_toArray]
        refine hK.out _ _ TA.out.rt (fun hHeld => ?_)
        clear hK K
        refine wpAnyH_done (by kernel_rfl) ?_ _
        refine NoPanic.normal ?_
        go_wp2_with fail
        go_meet
        case rel => exact TA.out.post
      · go_simp
        refine hK.out _ _ R1.out (fun hHeld => ?_)
        clear hK K
        try simp only [Act.put, List.setIfInBounds_toArray, List.set_cons_zero, List.set_cons_succ]
        refine wpAnyH_ready (rs := [2]) (by kernel_rfl) (by simp) ?_
        refine ready_list rfl (fun K hK => ?_) AllReadyH.nil
        go_simp
        refine hK.out _ _ TB.out.r (fun hHeld => ?_)
        clear hK K
        try simp only [Act.put, List.setIfInBounds_toArray, List.set_cons_zero, List.set_cons_succ]
        refine wpAnyH_ready (rs := [4]) (by kernel_rfl) (by simp) ?_
        refine ready_list rfl (fun K hK => ?_) AllReadyH.nil
        rw [if_pos (by rfl)]
        refine wp_store_mid _ _ _ rfl (wc.heap.size + 1) 0 CS.toArray rfl rfl T3.out (by rw [List.size_toArray]; exact zs') (all_oneCell_toArray hone) ?_
        try simp only [Act.put, List.setIfInBounds_toArray, List.set_cons_zero, List.set_cons_succ, List.toList_toArray]
        refine hK.out _ _ TB.out.rs (fun hHeld => ?_)
        clear hK K
        refine wpAnyH_ready (rs := [5]) (by kernel_rfl) (by simp) ?_
        refine ready_list rfl (fun K hK => ?_) AllReadyH.nil
        rw [if_pos (by rfl)]
        refine wp_store_mid _ _ _ rfl wc.heap.size 0 CS.toArray rfl rfl T4.out (by rw [List.size_toArray]; exact zs') (all_oneCell_toArray hone) ?_
        try simp only [Act.put, List.setIfInBounds_toArray, List.set_cons_zero, List.set_cons_succ, List.toList_toArray]
        refine hK.out _ _ TB.out.rt (fun hHeld => ?_)
        clear hK K
        refine wpAnyH_done (by kernel_rfl) ?_ _
        refine NoPanic.normal ?_
        go_wp2_with fail
        go_meet
        case rel => exact TB.out.post
    case rest =>
      obtain ⟨g9, g10, rfl, rfl, ne90, a9, a10, b9, b10, f2⟩ := hcut
      rename_i wd
      have l7 := BM.out.lt
      have l8 := BS.out.lt
      have lx := BX.out.lt
      obtain ⟨c9, z9, c10, z10, si⟩ := sit_of HM.out hb (BX.out.below f2 lx) (BM.out.below f2 l7) (BS.out.below f2 l8) b9 b10 (FR.out.trans (f2.mono FR.out.size)) a7 a8 ne90 (by omega) (by omega) (by omega) (by omega)
      have bu : ∀ W, Sit x0 x1 x2 x3 m b w W g7 g8 g9 g10 → w.heap.size < W.heap.size ∧ g7 < W.heap.size ∧ g8 < W.heap.size ∧ g9 < W.heap.size ∧ g10 < W.heap.size := fun W h => ⟨h.box.lt, h.msk.lt, h.s8.lt, h.s9.lt, h.s10.lt⟩
      have HBU := hide (bu _ si)
      clear bu b9 b10 f2 BX BM BS FR R0 R1 TA TB T1 T2 T3 T4 l7 l8 lx a9 a10 zs zv hs1 HZ
      obtain ⟨m0, m1, m2, m3⟩ := si.msk.cells4
      have SI := hide si
      clear si
      have hbi : (b : Int) < 256 := by omega
      have HB := hide (elems_bytes m)
      have CA0 := fun w hT hw => all4 EX.out HM.out w hT hw
      go_wp2_with (first
        | (go_at_call 8; refine (CA0 _ (HT.out.below SI.out.fr hw) (Nat.lt_of_lt_of_le hw SI.out.fr.size)).mono ?_; rintro e w6 ⟨v6, rfl, o6, f6⟩; obtain ⟨a6, k6, rfl, r6⟩ := owns_ints o6 HB.out; have L6 := hide (SI.out.below f6); have O6 := hide o6; have R6 := hide r6; clear o6 f6 r6))
      clear CA0 m0 m1 m2 m3 c9 z9 c10 z10 SI
      obtain ⟨y0, y1, y2, y3, ey⟩ := list4 (wth m b) (wth_ok m HM.out b hb).len
      obtain ⟨q0, q1, q2, q3, eqq⟩ := list4 (wo m b) (wo_ok m HM.out b hb).len
      obtain ⟨vb, hvb⟩ : ∃ v, v = inM m b := ⟨_, rfl⟩
      obtain ⟨CS9, h9⟩ : ∃ C, C = bools (inM (wth m b)) := ⟨_, rfl⟩
      obtain ⟨CS10, h10⟩ : ∃ C, C = bools (inM (wo m b)) := ⟨_, rfl⟩
      obtain ⟨nn, hnn⟩ : ∃ v, v = nxt m n := ⟨_, rfl⟩
      obtain ⟨pp, hpp⟩ : ∃ v, v = prv m n := ⟨_, rfl⟩
      obtain ⟨rk, hrk⟩ : ∃ v, v = cnt (bl m (max n 0)) := ⟨_, rfl⟩
      have zCS := zs'
      have zCS9 : (Tryd.prog.info? 26).map (·.size) = some CS9.length := by rw [h9, bools_len]; exact zero_set.2
      have zCS10 : (Tryd.prog.info? 26).map (·.size) = some CS10.length := by rw [h10, bools_len]; exact zero_set.2
      have CH : ∀ w, Calls Tryd.prog 9 #[ag x0 x1 x2 x3, .int .u8 b] w fun e w' => e = .returned (.bool vb) ∧ Below w.heap.size w w' := fun w => by rw [hvb]; exact has4 EX.out HM.out b hb w
      have CW : ∀ w, Calls Tryd.prog 10 #[ag x0 x1 x2 x3, .int .u8 b] w fun e w' => e = .returned (ag y0 y1 y2 y3) ∧ Below w.heap.size w w' := fun w => by
        have := with4 EX.out HM.out b hb w
        rw [ey] at this
        exact this
      have CO : ∀ w, Calls Tryd.prog 12 #[ag x0 x1 x2 x3, .int .u8 b] w fun e w' => e = .returned (ag q0 q1 q2 q3) ∧ Below w.heap.size w w' := fun w => by
        have := without4 EX.out HM.out b hb w
        rw [eqq] at this
        exact this
      have CWr : ∀ w, Calls Tryd.prog 11 #[.agg CS9.toArray] w fun e w' => e = .returned (ag y0 y1 y2 y3) ∧ Below w.heap.size w w' := fun w => by
        have := rwords_any (inM (wth m b)) CS9.toArray (by rw [h9]) (wth m b) (wth_ok m HM.out b hb) (fun _ _ => rfl) w
        rw [ey] at this
        exact this
      have COr : ∀ w, Calls Tryd.prog 11 #[.agg CS10.toArray] w fun e w' => e = .returned (ag q0 q1 q2 q3) ∧ Below w.heap.size w w' := fun w => by
        have := rwords_any (inM (wo m b)) CS10.toArray (by rw [h10]) (wo m b) (wo_ok m HM.out b hb) (fun _ _ => rfl) w
        rw [eqq] at this
        exact this
      have CN : ∀ w, Tab w → 0 < w.heap.size → Calls Tryd.prog 13 #[ag x0 x1 x2 x3, .int .i64 n] w fun e w' => e = .returned (.int .i64 nn) ∧ Below w.heap.size w w' := fun w hT hw => by rw [hnn]; exact next4 EX.out HM.out n HN.out w hT hw
      have CNr : ∀ w, Calls Tryd.prog 14 #[.agg CS.toArray, .int .i64 n] w fun e w' => e = .returned (.int .i64 nn) ∧ Below w.heap.size w w' := fun w => by rw [hnn]; exact rnext_any (inM m) CS.toArray (by rw [HCS.out]) n HN.out w
      have CP : ∀ w, Calls Tryd.prog 15 #[ag x0 x1 x2 x3, .int .i64 n] w fun e w' => e = .returned (.int .i64 pp) ∧ Below w.heap.size w w' := fun w => by rw [hpp]; exact prev4 EX.out HM.out n HN.out w
      have CPr : ∀ w, Calls Tryd.prog 16 #[.agg CS.toArray, .int .i64 n] w fun e w' => e = .returned (.int .i64 pp) ∧ Below w.heap.size w w' := fun w => by rw [hpp]; exact rprev_any (inM m) CS.toArray (by rw [HCS.out]) n HN.out w
      have CR : ∀ w, Calls Tryd.prog 17 #[ag x0 x1 x2 x3, .int .i64 n] w fun e w' => e = .returned (.int .i64 (rk : Int)) ∧ Below w.heap.size w w' := fun w => by rw [hrk]; exact rank4 EX.out HM.out n HN.out w
      have CRr : ∀ w, Calls Tryd.prog 18 #[.agg CS.toArray, .int .i64 n] w fun e w' => e = .returned (.int .i64 (rk : Int)) ∧ Below w.heap.size w w' := fun w => by rw [hrk, rank_same m HM.out n]; exact rrank_any (inM m) CS.toArray (by rw [HCS.out]) n HN.out w
      have CA : ∀ w, Calls Tryd.prog 20 #[.agg CS.toArray] w fun e w' => ∃ v, e = .returned v ∧ w'.ownsRow w.heap.size 5 1 v (elems m).length (u8s (ints (elems m))) ∧ Below w.heap.size w w' := fun w => by
        rw [← all_same m]; exact rall_any (inM m) CS.toArray (by rw [HCS.out]) w
      have CC := fun w => count4 EX.out HM.out w
      have qy : ∀ w, (Op.equalIn 10000 24 (ag y0 y1 y2 y3) (ag y0 y1 y2 y3)).run Tryd.prog w = .ok true w := fun w => by
        have := eq4_run y0 y1 y2 y3 y0 y1 y2 y3 w
        simpa using this
      have qq : ∀ w, (Op.equalIn 10000 24 (ag q0 q1 q2 q3) (ag q0 q1 q2 q3)).run Tryd.prog w = .ok true w := fun w => by
        have := eq4_run q0 q1 q2 q3 q0 q1 q2 q3 w
        simpa using this
      have E5 : Hid (∀ W, Sit x0 x1 x2 x3 m b w W g7 g8 g9 g10 → S5 x0 x1 x2 x3 b g7 g8 g9 g10 vb CS CS9 CS10 W) := fun W h => by
        rw [hvb, h9, h10, HCS.out]
        exact h.s5 hb
      clear ey eqq hvb h9 h10 hnn hpp hrk zs' hlen hone
      have L6d : Hid (Sit x0 x1 x2 x3 m b w w6.drew g7 g8 g9 g10) := L6.out.drew
      have R6d : Hid (Rd w6.drew a6 (ints (elems m))) := R6.out.drew
      have hB3 := HBU
      obtain ⟨B3, hB3e⟩ : ∃ B, B = ((wc.setCell ⟨g9, b, none⟩ (.bool true)).setCell ⟨g10, b, none⟩ (.bool false)).heap.size := ⟨_, rfl⟩
      rw [← hB3e] at O6 HBU
      have O6d : Hid (w6.drew.ownsRow B3 5 1 (.slice a6 (elems m).length k6) (elems m).length (u8s (ints (elems m)))) := O6.out
      clear L6 R6 O6 hB3 hB3e
      refine wp_region_noPanic ?_
      refine wp_region_held_drew (S := S5 x0 x1 x2 x3 b g7 g8 g9 g10 vb CS CS9 CS10) (by kernel_rfl) (E5.out _ L6d.out) (fun hHeld => ?_)
      -- REGION 5
      refine take_list (i := 0) (v := ?v0) rfl (by kernel_rfl) (by kernel_rfl) (by kernel_rfl) (fun _ _ _ h => h) (Or.inl ⟨by rfl, ?hy0⟩) hHeld ?rest0
      case hy0 => (intro w hSw; (try obtain ⟨k0, k1, k2, k3, kb, _, _, _⟩ := hSw); go_simp; first | done | with_reducible rfl)
      try simp only [Act.put, List.setIfInBounds_toArray, List.set_cons_zero, List.set_cons_succ]
      refine take_list (i := 1) (v := ?v1) rfl (by kernel_rfl) (by kernel_rfl) (by kernel_rfl) (fun _ _ _ h => h) (Or.inl ⟨by rfl, ?hy1⟩) hHeld ?rest1
      case hy1 => (intro w hSw; (try obtain ⟨k0, k1, k2, k3, kb, _, _, _⟩ := hSw); go_simp; first | done | with_reducible rfl)
      try simp only [Act.put, List.setIfInBounds_toArray, List.set_cons_zero, List.set_cons_succ]
      refine take_list (i := 3) (v := ?v3) rfl (by kernel_rfl) (by kernel_rfl) (by kernel_rfl) (fun _ _ _ h => h) (Or.inl ⟨by rfl, ?hy3⟩) hHeld ?rest3
      case hy3 => (intro w hSw; (try obtain ⟨k0, k1, k2, k3, kb, _, _, _⟩ := hSw); go_simp; first | done | with_reducible rfl)
      try simp only [Act.put, List.setIfInBounds_toArray, List.set_cons_zero, List.set_cons_succ]
      refine take_list (i := 4) (v := ?v4) rfl (by kernel_rfl) (by kernel_rfl) (by kernel_rfl) (fun _ _ _ h => h) (Or.inl ⟨by rfl, ?hy4⟩) hHeld ?rest4
      case hy4 => (intro w hSw; (try obtain ⟨k0, k1, k2, k3, kb, _, _, _⟩ := hSw); go_simp; first | done | with_reducible rfl)
      try simp only [Act.put, List.setIfInBounds_toArray, List.set_cons_zero, List.set_cons_succ]
      refine take_list (i := 5) (v := ?v5) rfl (by kernel_rfl) (by kernel_rfl) (by kernel_rfl) (fun _ _ _ h => h) (Or.inl ⟨by rfl, ?hy5⟩) hHeld ?rest5
      case hy5 => (intro w hSw; (try obtain ⟨k0, k1, k2, k3, kb, _, _, _⟩ := hSw); go_simp; first | done | with_reducible rfl)
      try simp only [Act.put, List.setIfInBounds_toArray, List.set_cons_zero, List.set_cons_succ]
      refine wpAnyH_ready (rs := [2]) (by kernel_rfl) (by simp) ?_
      refine ready_list rfl (fun K hK => ?_) AllReadyH.nil
      go_simp
      go_at_call 9; refine (CH _).mono ?_; rintro e v2w ⟨rfl, f2⟩
      have L2 := hide (L6d.out.below f2); have R6_2 := hide (R6d.out.below f2 (Nat.le_refl _)); have O6_2 := hide (O6d.out.below f2 (Nat.le_refl _)); clear f2 L6d R6d O6d
      go_wp2_with fail
      refine hK.out _ _ (E5.out _ L2.out) (fun hHeld => ?_)
      clear hK K
      try simp only [Act.put, List.setIfInBounds_toArray, List.set_cons_zero, List.set_cons_succ]
      refine take_list (i := 6) (v := ?v6) rfl (by kernel_rfl) (by kernel_rfl) (by kernel_rfl) (fun _ _ _ h => h) (Or.inl ⟨by rfl, ?hy6⟩) hHeld ?rest6
      case hy6 => (intro w hSw; (try obtain ⟨k0, k1, k2, k3, kb, _, _, _⟩ := hSw); go_simp; first | done | with_reducible rfl)
      try simp only [Act.put, List.setIfInBounds_toArray, List.set_cons_zero, List.set_cons_succ]
      refine take_list (i := 7) (v := ?v7) rfl (by kernel_rfl) (by kernel_rfl) (by kernel_rfl) (fun _ _ _ h => h) (Or.inl ⟨by rfl, ?hy7⟩) hHeld ?rest7
      case hy7 => (intro w hSw; (try obtain ⟨k0, k1, k2, k3, kb, _, _, _⟩ := hSw); go_simp; first | done | with_reducible rfl)
      try simp only [Act.put, List.setIfInBounds_toArray, List.set_cons_zero, List.set_cons_succ]
      refine take_list (i := 8) (v := ?v8) rfl (by kernel_rfl) (by kernel_rfl) (by kernel_rfl) (fun _ _ _ h => h) (Or.inl ⟨by rfl, ?hy8⟩) hHeld ?rest8
      case hy8 => (intro w hSw; (try obtain ⟨k0, k1, k2, k3, kb, _, _, _⟩ := hSw); go_simp; first | done | with_reducible rfl)
      try simp only [Act.put, List.setIfInBounds_toArray, List.set_cons_zero, List.set_cons_succ]
      refine take_list (i := 9) (v := ?v9) rfl (by kernel_rfl) (by kernel_rfl) (by kernel_rfl) (fun _ _ _ h => h) (Or.inl ⟨by rfl, ?hy9⟩) hHeld ?rest9
      case hy9 => (intro w hSw; (try obtain ⟨k0, k1, k2, k3, kb, _, _, _⟩ := hSw); go_simp; first | done | with_reducible rfl)
      try simp only [Act.put, List.setIfInBounds_toArray, List.set_cons_zero, List.set_cons_succ]
      refine take_list (i := 11) (v := .agg CS9.toArray) rfl (by kernel_rfl) (by kernel_rfl) (by kernel_rfl) (fun _ _ _ h => h) (yieldsIf_load_mid (by rfl) _ _ rfl _ _ rfl _ _ (fun w h => h.r9) uSet rfl zCS9) hHeld ?_
      try simp only [Act.put, List.setIfInBounds_toArray, List.set_cons_zero, List.set_cons_succ]
      refine wpAnyH_ready (rs := [10]) (by kernel_rfl) (by simp) ?_
      refine ready_list rfl (fun K hK => ?_) AllReadyH.nil
      go_simp
      go_at_call 10; refine (CW _).mono ?_; rintro e v10w ⟨rfl, f10⟩
      have L10 := hide (L2.out.below f10); have R6_10 := hide (R6_2.out.below f10 (Nat.le_refl _)); have O6_10 := hide (O6_2.out.below f10 (Nat.le_refl _)); clear f10 L2 R6_2 O6_2
      go_wp2_with fail
      refine hK.out _ _ (E5.out _ L10.out) (fun hHeld => ?_)
      clear hK K
      try simp only [Act.put, List.setIfInBounds_toArray, List.set_cons_zero, List.set_cons_succ]
      refine wpAnyH_ready (rs := [12]) (by kernel_rfl) (by simp) ?_
      refine ready_list rfl (fun K hK => ?_) AllReadyH.nil
      go_simp
      go_at_call 11; refine (CWr _).mono ?_; rintro e v12w ⟨rfl, f12⟩
      have L12 := hide (L10.out.below f12); have R6_12 := hide (R6_10.out.below f12 (Nat.le_refl _)); have O6_12 := hide (O6_10.out.below f12 (Nat.le_refl _)); clear f12 L10 R6_10 O6_10
      go_wp2_with fail
      refine hK.out _ _ (E5.out _ L12.out) (fun hHeld => ?_)
      clear hK K
      try simp only [Act.put, List.setIfInBounds_toArray, List.set_cons_zero, List.set_cons_succ]
      refine take_list (i := 13) (v := ?v13) rfl (by kernel_rfl) (by kernel_rfl) (by kernel_rfl) (fun _ _ _ h => h) (Or.inl ⟨by rfl, ?hy13⟩) hHeld ?rest13
      case hy13 => (intro w hSw; (try obtain ⟨k0, k1, k2, k3, kb, _, _, _⟩ := hSw); go_simp; first | done | with_reducible rfl)
      try simp only [Act.put, List.setIfInBounds_toArray, List.set_cons_zero, List.set_cons_succ]
      refine take_list (i := 14) (v := ?v14) rfl (by kernel_rfl) (by kernel_rfl) (by kernel_rfl) (fun _ _ _ h => h) (Or.inl ⟨by rfl, ?hy14⟩) hHeld ?rest14
      case hy14 => (intro w hSw; (try obtain ⟨k0, k1, k2, k3, kb, _, _, _⟩ := hSw); go_simp; first | done | with_reducible rfl)
      try simp only [Act.put, List.setIfInBounds_toArray, List.set_cons_zero, List.set_cons_succ]
      refine take_list (i := 15) (v := ?v15) rfl (by kernel_rfl) (by kernel_rfl) (by kernel_rfl) (fun _ _ _ h => h) (Or.inl ⟨by rfl, ?hy15⟩) hHeld ?rest15
      case hy15 => (intro w hSw; (try obtain ⟨k0, k1, k2, k3, kb, _, _, _⟩ := hSw); go_simp; first | done | with_reducible rfl)
      try simp only [Act.put, List.setIfInBounds_toArray, List.set_cons_zero, List.set_cons_succ]
      refine take_list (i := 16) (v := ?v16) rfl (by kernel_rfl) (by kernel_rfl) (by kernel_rfl) (fun _ _ _ h => h) (Or.inl ⟨by rfl, ?hy16⟩) hHeld ?rest16
      case hy16 => (intro w hSw; (try obtain ⟨k0, k1, k2, k3, kb, _, _, _⟩ := hSw); go_simp; first | done | with_reducible rfl)
      try simp only [Act.put, List.setIfInBounds_toArray, List.set_cons_zero, List.set_cons_succ]
      refine take_list (i := 17) (v := ?v17) rfl (by kernel_rfl) (by kernel_rfl) (by kernel_rfl) (fun _ _ _ h => h) (Or.inl ⟨by rfl, ?hy17⟩) hHeld ?rest17
      case hy17 => (intro w hSw; (try obtain ⟨k0, k1, k2, k3, kb, _, _, _⟩ := hSw); go_simp; first | done | with_reducible rfl)
      try simp only [Act.put, List.setIfInBounds_toArray, List.set_cons_zero, List.set_cons_succ]
      refine take_list (i := 19) (v := .agg CS10.toArray) rfl (by kernel_rfl) (by kernel_rfl) (by kernel_rfl) (fun _ _ _ h => h) (yieldsIf_load_mid (by rfl) _ _ rfl _ _ rfl _ _ (fun w h => h.r10) uSet rfl zCS10) hHeld ?_
      try simp only [Act.put, List.setIfInBounds_toArray, List.set_cons_zero, List.set_cons_succ]
      refine wpAnyH_ready (rs := [18]) (by kernel_rfl) (by simp) ?_
      refine ready_list rfl (fun K hK => ?_) AllReadyH.nil
      go_simp
      go_at_call 12; refine (CO _).mono ?_; rintro e v18w ⟨rfl, f18⟩
      have L18 := hide (L12.out.below f18); have R6_18 := hide (R6_12.out.below f18 (Nat.le_refl _)); have O6_18 := hide (O6_12.out.below f18 (Nat.le_refl _)); clear f18 L12 R6_12 O6_12
      go_wp2_with fail
      refine hK.out _ _ (E5.out _ L18.out) (fun hHeld => ?_)
      clear hK K
      try simp only [Act.put, List.setIfInBounds_toArray, List.set_cons_zero, List.set_cons_succ]
      refine wpAnyH_ready (rs := [20]) (by kernel_rfl) (by simp) ?_
      refine ready_list rfl (fun K hK => ?_) AllReadyH.nil
      go_simp
      go_at_call 11; refine (COr _).mono ?_; rintro e v20w ⟨rfl, f20⟩
      have L20 := hide (L18.out.below f20); have R6_20 := hide (R6_18.out.below f20 (Nat.le_refl _)); have O6_20 := hide (O6_18.out.below f20 (Nat.le_refl _)); clear f20 L18 R6_18 O6_18
      go_wp2_with fail
      refine hK.out _ _ (E5.out _ L20.out) (fun hHeld => ?_)
      clear hK K
      try simp only [Act.put, List.setIfInBounds_toArray, List.set_cons_zero, List.set_cons_succ]
      refine take_list (i := 21) (v := ?v21) rfl (by kernel_rfl) (by kernel_rfl) (by kernel_rfl) (fun _ _ _ h => h) (Or.inl ⟨by rfl, ?hy21⟩) hHeld ?rest21
      case hy21 => (intro w hSw; (try obtain ⟨k0, k1, k2, k3, kb, _, _, _⟩ := hSw); go_simp; first | done | with_reducible rfl)
      try simp only [Act.put, List.setIfInBounds_toArray, List.set_cons_zero, List.set_cons_succ]
      refine take_list (i := 22) (v := ?v22) rfl (by kernel_rfl) (by kernel_rfl) (by kernel_rfl) (fun _ _ _ h => h) (Or.inl ⟨by rfl, ?hy22⟩) hHeld ?rest22
      case hy22 => (intro w hSw; (try obtain ⟨k0, k1, k2, k3, kb, _, _, _⟩ := hSw); go_simp; first | done | with_reducible rfl)
      try simp only [Act.put, List.setIfInBounds_toArray, List.set_cons_zero, List.set_cons_succ]
      refine take_list (i := 23) (v := ?v23) rfl (by kernel_rfl) (by kernel_rfl) (by kernel_rfl) (fun _ _ _ h => h) (Or.inl ⟨by rfl, ?hy23⟩) hHeld ?rest23
      case hy23 => (intro w hSw; (try obtain ⟨k0, k1, k2, k3, kb, _, _, _⟩ := hSw); go_simp; first | done | with_reducible rfl)
      try simp only [Act.put, List.setIfInBounds_toArray, List.set_cons_zero, List.set_cons_succ]
      refine take_list (i := 24) (v := ?v24) rfl (by kernel_rfl) (by kernel_rfl) (by kernel_rfl) (fun _ _ _ h => h) (Or.inl ⟨by rfl, ?hy24⟩) hHeld ?rest24
      case hy24 => (intro w hSw; (try obtain ⟨k0, k1, k2, k3, kb, _, _, _⟩ := hSw); go_simp; first | done | with_reducible rfl)
      try simp only [Act.put, List.setIfInBounds_toArray, List.set_cons_zero, List.set_cons_succ]
      refine take_list (i := 25) (v := ?v25) rfl (by kernel_rfl) (by kernel_rfl) (by kernel_rfl) (fun _ _ _ h => h) (Or.inl ⟨by rfl, ?hy25⟩) hHeld ?rest25
      case hy25 => (intro w hSw; (try obtain ⟨k0, k1, k2, k3, kb, _, _, _⟩ := hSw); go_simp; first | done | with_reducible rfl)
      try simp only [Act.put, List.setIfInBounds_toArray, List.set_cons_zero, List.set_cons_succ]
      refine take_list (i := 27) (v := .agg CS.toArray) rfl (by kernel_rfl) (by kernel_rfl) (by kernel_rfl) (fun _ _ _ h => h) (yieldsIf_load_mid (by rfl) _ _ rfl _ _ rfl _ _ (fun w h => h.r8) uSet rfl zCS) hHeld ?_
      try simp only [Act.put, List.setIfInBounds_toArray, List.set_cons_zero, List.set_cons_succ]
      refine take_list (i := 28) (v := ?v28) rfl (by kernel_rfl) (by kernel_rfl) (by kernel_rfl) (fun _ _ _ h => h) (Or.inl ⟨by rfl, ?hy28⟩) hHeld ?rest28
      case hy28 => (intro w hSw; (try obtain ⟨k0, k1, k2, k3, kb, _, _, _⟩ := hSw); go_simp; first | done | with_reducible rfl)
      try simp only [Act.put, List.setIfInBounds_toArray, List.set_cons_zero, List.set_cons_succ]
      refine wpAnyH_ready (rs := [26]) (by kernel_rfl) (by simp) ?_
      refine ready_list rfl (fun K hK => ?_) AllReadyH.nil
      go_simp
      go_at_call 13; refine (CN _ (HT.out.below L20.out.fr hw) (Nat.lt_of_lt_of_le hw L20.out.fr.size)).mono ?_; rintro e v26w ⟨rfl, f26⟩
      have L26 := hide (L20.out.below f26); have R6_26 := hide (R6_20.out.below f26 (Nat.le_refl _)); have O6_26 := hide (O6_20.out.below f26 (Nat.le_refl _)); clear f26 L20 R6_20 O6_20
      go_wp2_with fail
      refine hK.out _ _ (E5.out _ L26.out) (fun hHeld => ?_)
      clear hK K
      try simp only [Act.put, List.setIfInBounds_toArray, List.set_cons_zero, List.set_cons_succ]
      refine wpAnyH_ready (rs := [29]) (by kernel_rfl) (by simp) ?_
      refine ready_list rfl (fun K hK => ?_) AllReadyH.nil
      go_simp
      go_at_call 14; refine (CNr _).mono ?_; rintro e v29w ⟨rfl, f29⟩
      have L29 := hide (L26.out.below f29); have R6_29 := hide (R6_26.out.below f29 (Nat.le_refl _)); have O6_29 := hide (O6_26.out.below f29 (Nat.le_refl _)); clear f29 L26 R6_26 O6_26
      go_wp2_with fail
      refine hK.out _ _ (E5.out _ L29.out) (fun hHeld => ?_)
      clear hK K
      try simp only [Act.put, List.setIfInBounds_toArray, List.set_cons_zero, List.set_cons_succ]
      refine take_list (i := 30) (v := ?v30) rfl (by kernel_rfl) (by kernel_rfl) (by kernel_rfl) (fun _ _ _ h => h) (Or.inl ⟨by rfl, ?hy30⟩) hHeld ?rest30
      case hy30 => (intro w hSw; (try obtain ⟨k0, k1, k2, k3, kb, _, _, _⟩ := hSw); go_simp; first | done | with_reducible rfl)
      try simp only [Act.put, List.setIfInBounds_toArray, List.set_cons_zero, List.set_cons_succ]
      refine take_list (i := 31) (v := ?v31) rfl (by kernel_rfl) (by kernel_rfl) (by kernel_rfl) (fun _ _ _ h => h) (Or.inl ⟨by rfl, ?hy31⟩) hHeld ?rest31
      case hy31 => (intro w hSw; (try obtain ⟨k0, k1, k2, k3, kb, _, _, _⟩ := hSw); go_simp; first | done | with_reducible rfl)
      try simp only [Act.put, List.setIfInBounds_toArray, List.set_cons_zero, List.set_cons_succ]
      refine take_list (i := 32) (v := ?v32) rfl (by kernel_rfl) (by kernel_rfl) (by kernel_rfl) (fun _ _ _ h => h) (Or.inl ⟨by rfl, ?hy32⟩) hHeld ?rest32
      case hy32 => (intro w hSw; (try obtain ⟨k0, k1, k2, k3, kb, _, _, _⟩ := hSw); go_simp; first | done | with_reducible rfl)
      try simp only [Act.put, List.setIfInBounds_toArray, List.set_cons_zero, List.set_cons_succ]
      refine take_list (i := 33) (v := ?v33) rfl (by kernel_rfl) (by kernel_rfl) (by kernel_rfl) (fun _ _ _ h => h) (Or.inl ⟨by rfl, ?hy33⟩) hHeld ?rest33
      case hy33 => (intro w hSw; (try obtain ⟨k0, k1, k2, k3, kb, _, _, _⟩ := hSw); go_simp; first | done | with_reducible rfl)
      try simp only [Act.put, List.setIfInBounds_toArray, List.set_cons_zero, List.set_cons_succ]
      refine take_list (i := 34) (v := ?v34) rfl (by kernel_rfl) (by kernel_rfl) (by kernel_rfl) (fun _ _ _ h => h) (Or.inl ⟨by rfl, ?hy34⟩) hHeld ?rest34
      case hy34 => (intro w hSw; (try obtain ⟨k0, k1, k2, k3, kb, _, _, _⟩ := hSw); go_simp; first | done | with_reducible rfl)
      try simp only [Act.put, List.setIfInBounds_toArray, List.set_cons_zero, List.set_cons_succ]
      refine take_list (i := 36) (v := .agg CS.toArray) rfl (by kernel_rfl) (by kernel_rfl) (by kernel_rfl) (fun _ _ _ h => h) (yieldsIf_load_mid (by rfl) _ _ rfl _ _ rfl _ _ (fun w h => h.r8) uSet rfl zCS) hHeld ?_
      try simp only [Act.put, List.setIfInBounds_toArray, List.set_cons_zero, List.set_cons_succ]
      refine take_list (i := 37) (v := ?v37) rfl (by kernel_rfl) (by kernel_rfl) (by kernel_rfl) (fun _ _ _ h => h) (Or.inl ⟨by rfl, ?hy37⟩) hHeld ?rest37
      case hy37 => (intro w hSw; (try obtain ⟨k0, k1, k2, k3, kb, _, _, _⟩ := hSw); go_simp; first | done | with_reducible rfl)
      try simp only [Act.put, List.setIfInBounds_toArray, List.set_cons_zero, List.set_cons_succ]
      refine wpAnyH_ready (rs := [35]) (by kernel_rfl) (by simp) ?_
      refine ready_list rfl (fun K hK => ?_) AllReadyH.nil
      go_simp
      go_at_call 15; refine (CP _).mono ?_; rintro e v35w ⟨rfl, f35⟩
      have L35 := hide (L29.out.below f35); have R6_35 := hide (R6_29.out.below f35 (Nat.le_refl _)); have O6_35 := hide (O6_29.out.below f35 (Nat.le_refl _)); clear f35 L29 R6_29 O6_29
      go_wp2_with fail
      refine hK.out _ _ (E5.out _ L35.out) (fun hHeld => ?_)
      clear hK K
      try simp only [Act.put, List.setIfInBounds_toArray, List.set_cons_zero, List.set_cons_succ]
      refine wpAnyH_ready (rs := [38]) (by kernel_rfl) (by simp) ?_
      refine ready_list rfl (fun K hK => ?_) AllReadyH.nil
      go_simp
      go_at_call 16; refine (CPr _).mono ?_; rintro e v38w ⟨rfl, f38⟩
      have L38 := hide (L35.out.below f38); have R6_38 := hide (R6_35.out.below f38 (Nat.le_refl _)); have O6_38 := hide (O6_35.out.below f38 (Nat.le_refl _)); clear f38 L35 R6_35 O6_35
      go_wp2_with fail
      refine hK.out _ _ (E5.out _ L38.out) (fun hHeld => ?_)
      clear hK K
      try simp only [Act.put, List.setIfInBounds_toArray, List.set_cons_zero, List.set_cons_succ]
      refine take_list (i := 39) (v := ?v39) rfl (by kernel_rfl) (by kernel_rfl) (by kernel_rfl) (fun _ _ _ h => h) (Or.inl ⟨by rfl, ?hy39⟩) hHeld ?rest39
      case hy39 => (intro w hSw; (try obtain ⟨k0, k1, k2, k3, kb, _, _, _⟩ := hSw); go_simp; first | done | with_reducible rfl)
      try simp only [Act.put, List.setIfInBounds_toArray, List.set_cons_zero, List.set_cons_succ]
      refine take_list (i := 40) (v := ?v40) rfl (by kernel_rfl) (by kernel_rfl) (by kernel_rfl) (fun _ _ _ h => h) (Or.inl ⟨by rfl, ?hy40⟩) hHeld ?rest40
      case hy40 => (intro w hSw; (try obtain ⟨k0, k1, k2, k3, kb, _, _, _⟩ := hSw); go_simp; first | done | with_reducible rfl)
      try simp only [Act.put, List.setIfInBounds_toArray, List.set_cons_zero, List.set_cons_succ]
      refine take_list (i := 41) (v := ?v41) rfl (by kernel_rfl) (by kernel_rfl) (by kernel_rfl) (fun _ _ _ h => h) (Or.inl ⟨by rfl, ?hy41⟩) hHeld ?rest41
      case hy41 => (intro w hSw; (try obtain ⟨k0, k1, k2, k3, kb, _, _, _⟩ := hSw); go_simp; first | done | with_reducible rfl)
      try simp only [Act.put, List.setIfInBounds_toArray, List.set_cons_zero, List.set_cons_succ]
      refine take_list (i := 42) (v := ?v42) rfl (by kernel_rfl) (by kernel_rfl) (by kernel_rfl) (fun _ _ _ h => h) (Or.inl ⟨by rfl, ?hy42⟩) hHeld ?rest42
      case hy42 => (intro w hSw; (try obtain ⟨k0, k1, k2, k3, kb, _, _, _⟩ := hSw); go_simp; first | done | with_reducible rfl)
      try simp only [Act.put, List.setIfInBounds_toArray, List.set_cons_zero, List.set_cons_succ]
      refine take_list (i := 43) (v := ?v43) rfl (by kernel_rfl) (by kernel_rfl) (by kernel_rfl) (fun _ _ _ h => h) (Or.inl ⟨by rfl, ?hy43⟩) hHeld ?rest43
      case hy43 => (intro w hSw; (try obtain ⟨k0, k1, k2, k3, kb, _, _, _⟩ := hSw); go_simp; first | done | with_reducible rfl)
      try simp only [Act.put, List.setIfInBounds_toArray, List.set_cons_zero, List.set_cons_succ]
      refine take_list (i := 45) (v := .agg CS.toArray) rfl (by kernel_rfl) (by kernel_rfl) (by kernel_rfl) (fun _ _ _ h => h) (yieldsIf_load_mid (by rfl) _ _ rfl _ _ rfl _ _ (fun w h => h.r8) uSet rfl zCS) hHeld ?_
      try simp only [Act.put, List.setIfInBounds_toArray, List.set_cons_zero, List.set_cons_succ]
      refine take_list (i := 46) (v := ?v46) rfl (by kernel_rfl) (by kernel_rfl) (by kernel_rfl) (fun _ _ _ h => h) (Or.inl ⟨by rfl, ?hy46⟩) hHeld ?rest46
      case hy46 => (intro w hSw; (try obtain ⟨k0, k1, k2, k3, kb, _, _, _⟩ := hSw); go_simp; first | done | with_reducible rfl)
      try simp only [Act.put, List.setIfInBounds_toArray, List.set_cons_zero, List.set_cons_succ]
      refine wpAnyH_ready (rs := [44]) (by kernel_rfl) (by simp) ?_
      refine ready_list rfl (fun K hK => ?_) AllReadyH.nil
      go_simp
      go_at_call 17; refine (CR _).mono ?_; rintro e v44w ⟨rfl, f44⟩
      have L44 := hide (L38.out.below f44); have R6_44 := hide (R6_38.out.below f44 (Nat.le_refl _)); have O6_44 := hide (O6_38.out.below f44 (Nat.le_refl _)); clear f44 L38 R6_38 O6_38
      go_wp2_with fail
      refine hK.out _ _ (E5.out _ L44.out) (fun hHeld => ?_)
      clear hK K
      try simp only [Act.put, List.setIfInBounds_toArray, List.set_cons_zero, List.set_cons_succ]
      refine wpAnyH_ready (rs := [47]) (by kernel_rfl) (by simp) ?_
      refine ready_list rfl (fun K hK => ?_) AllReadyH.nil
      go_simp
      go_at_call 18; refine (CRr _).mono ?_; rintro e v47w ⟨rfl, f47⟩
      have L47 := hide (L44.out.below f47); have R6_47 := hide (R6_44.out.below f47 (Nat.le_refl _)); have O6_47 := hide (O6_44.out.below f47 (Nat.le_refl _)); clear f47 L44 R6_44 O6_44
      go_wp2_with fail
      refine hK.out _ _ (E5.out _ L47.out) (fun hHeld => ?_)
      clear hK K
      try simp only [Act.put, List.setIfInBounds_toArray, List.set_cons_zero, List.set_cons_succ]
      refine take_list (i := 48) (v := ?v48) rfl (by kernel_rfl) (by kernel_rfl) (by kernel_rfl) (fun _ _ _ h => h) (Or.inl ⟨by rfl, ?hy48⟩) hHeld ?rest48
      case hy48 => (intro w hSw; (try obtain ⟨k0, k1, k2, k3, kb, _, _, _⟩ := hSw); go_simp; first | done | with_reducible rfl)
      try simp only [Act.put, List.setIfInBounds_toArray, List.set_cons_zero, List.set_cons_succ]
      refine take_list (i := 49) (v := ?v49) rfl (by kernel_rfl) (by kernel_rfl) (by kernel_rfl) (fun _ _ _ h => h) (Or.inl ⟨by rfl, ?hy49⟩) hHeld ?rest49
      case hy49 => (intro w hSw; (try obtain ⟨k0, k1, k2, k3, kb, _, _, _⟩ := hSw); go_simp; first | done | with_reducible rfl)
      try simp only [Act.put, List.setIfInBounds_toArray, List.set_cons_zero, List.set_cons_succ]
      refine take_list (i := 50) (v := ?v50) rfl (by kernel_rfl) (by kernel_rfl) (by kernel_rfl) (fun _ _ _ h => h) (Or.inl ⟨by rfl, ?hy50⟩) hHeld ?rest50
      case hy50 => (intro w hSw; (try obtain ⟨k0, k1, k2, k3, kb, _, _, _⟩ := hSw); go_simp; first | done | with_reducible rfl)
      try simp only [Act.put, List.setIfInBounds_toArray, List.set_cons_zero, List.set_cons_succ]
      refine take_list (i := 51) (v := ?v51) rfl (by kernel_rfl) (by kernel_rfl) (by kernel_rfl) (fun _ _ _ h => h) (Or.inl ⟨by rfl, ?hy51⟩) hHeld ?rest51
      case hy51 => (intro w hSw; (try obtain ⟨k0, k1, k2, k3, kb, _, _, _⟩ := hSw); go_simp; first | done | with_reducible rfl)
      try simp only [Act.put, List.setIfInBounds_toArray, List.set_cons_zero, List.set_cons_succ]
      refine take_list (i := 52) (v := .agg CS.toArray) rfl (by kernel_rfl) (by kernel_rfl) (by kernel_rfl) (fun _ _ _ h => h) (yieldsIf_load_mid (by rfl) _ _ rfl _ _ rfl _ _ (fun w h => h.r8) uSet rfl zCS) hHeld ?_
      try simp only [Act.put, List.setIfInBounds_toArray, List.set_cons_zero, List.set_cons_succ]
      refine wpAnyH_ready (rs := [53]) (by kernel_rfl) (by simp) ?_
      refine ready_list rfl (fun K hK => ?_) AllReadyH.nil
      go_simp
      go_at_call 20; refine (CA _).mono ?_; rintro e v53w ⟨v53, rfl, o53, f53⟩; obtain ⟨a53, k53, rfl, r53⟩ := owns_ints o53 HB.out
      have R53 := hide r53; clear r53 o53
      have L53 := hide (L47.out.below f53); have R6_53 := hide (R6_47.out.below f53 (Nat.le_refl _)); have O6_53 := hide (O6_47.out.below f53 (Nat.le_refl _)); clear f53 L47 R6_47 O6_47
      go_wp2_with fail
      refine hK.out _ _ (E5.out _ L53.out) (fun hHeld => ?_)
      clear hK K
      try simp only [Act.put, List.setIfInBounds_toArray, List.set_cons_zero, List.set_cons_succ]
      refine wpAnyH_ready (rs := [54]) (by kernel_rfl) (by simp) ?_
      refine ready_list rfl (fun K hK => ?_) AllReadyH.nil
      go_simp
      go_at_call 19; refine (same4 _ _ _ _ _ _ R6_53.out R53.out).mono ?_; rintro e v54w ⟨rfl, f54⟩
      have L54 := hide (L53.out.below f54); have R6_54 := hide (R6_53.out.below f54 (Nat.le_refl _)); have O6_54 := hide (O6_53.out.below f54 (Nat.le_refl _)); clear f54 L53 R6_53 O6_53
      go_wp2_with fail
      refine hK.out _ _ (E5.out _ L54.out) (fun hHeld => ?_)
      clear hK K
      try simp only [Act.put, List.setIfInBounds_toArray, List.set_cons_zero, List.set_cons_succ]
      refine take_list (i := 55) (v := ?v55) rfl (by kernel_rfl) (by kernel_rfl) (by kernel_rfl) (fun _ _ _ h => h) (Or.inl ⟨by rfl, ?hy55⟩) hHeld ?rest55
      case hy55 => (intro w hSw; (try obtain ⟨k0, k1, k2, k3, kb, _, _, _⟩ := hSw); go_simp; first | done | with_reducible rfl)
      try simp only [Act.put, List.setIfInBounds_toArray, List.set_cons_zero, List.set_cons_succ]
      refine take_list (i := 56) (v := ?v56) rfl (by kernel_rfl) (by kernel_rfl) (by kernel_rfl) (fun _ _ _ h => h) (Or.inl ⟨by rfl, ?hy56⟩) hHeld ?rest56
      case hy56 => (intro w hSw; (try obtain ⟨k0, k1, k2, k3, kb, _, _, _⟩ := hSw); go_simp; first | done | with_reducible rfl)
      try simp only [Act.put, List.setIfInBounds_toArray, List.set_cons_zero, List.set_cons_succ]
      refine take_list (i := 57) (v := ?v57) rfl (by kernel_rfl) (by kernel_rfl) (by kernel_rfl) (fun _ _ _ h => h) (Or.inl ⟨by rfl, ?hy57⟩) hHeld ?rest57
      case hy57 => (intro w hSw; (try obtain ⟨k0, k1, k2, k3, kb, _, _, _⟩ := hSw); go_simp; first | done | with_reducible rfl)
      try simp only [Act.put, List.setIfInBounds_toArray, List.set_cons_zero, List.set_cons_succ]
      refine take_list (i := 59) (v := ?v59) rfl (by kernel_rfl) (by kernel_rfl) (by kernel_rfl) (fun _ _ _ h => h) (Or.inl ⟨by rfl, ?hy59⟩) hHeld ?rest59
      case hy59 => (intro w hSw; (try obtain ⟨k0, k1, k2, k3, kb, _, _, _⟩ := hSw); go_simp; first | done | with_reducible rfl)
      try simp only [Act.put, List.setIfInBounds_toArray, List.set_cons_zero, List.set_cons_succ]
      refine take_list (i := 60) (v := ?v60) rfl (by kernel_rfl) (by kernel_rfl) (by kernel_rfl) (fun _ _ _ h => h) (Or.inl ⟨by rfl, ?hy60⟩) hHeld ?rest60
      case hy60 => (intro w hSw; (try obtain ⟨k0, k1, k2, k3, kb, _, _, _⟩ := hSw); go_simp; first | done | with_reducible rfl)
      try simp only [Act.put, List.setIfInBounds_toArray, List.set_cons_zero, List.set_cons_succ]
      refine wpAnyH_ready (rs := [58]) (by kernel_rfl) (by simp) ?_
      refine ready_list rfl (fun K hK => ?_) AllReadyH.nil
      go_simp
      go_at_call 21; refine (CC _).mono ?_; rintro e v58w ⟨rfl, f58⟩
      have L58 := hide (L54.out.below f58); have R6_58 := hide (R6_54.out.below f58 (Nat.le_refl _)); have O6_58 := hide (O6_54.out.below f58 (Nat.le_refl _)); clear f58 L54 R6_54 O6_54
      go_wp2_with fail
      refine hK.out _ _ (E5.out _ L58.out) (fun hHeld => ?_)
      clear hK K
      try simp only [Act.put, List.setIfInBounds_toArray, List.set_cons_zero, List.set_cons_succ]
      refine take_list (i := 61) (v := ?v61) rfl (by kernel_rfl) (by kernel_rfl) (by kernel_rfl) (fun _ _ _ h => h) (Or.inl ⟨by rfl, ?hy61⟩) hHeld ?rest61
      case hy61 => (intro w hSw; (try obtain ⟨k0, k1, k2, k3, kb, _, _, _⟩ := hSw); go_simp; first | done | with_reducible rfl)
      try simp only [Act.put, List.setIfInBounds_toArray, List.set_cons_zero, List.set_cons_succ]
      refine take_list (i := 62) (v := ?v62) rfl (by kernel_rfl) (by kernel_rfl) (by kernel_rfl) (fun _ _ _ h => h) (Or.inl ⟨by rfl, ?hy62⟩) hHeld ?rest62
      case hy62 => (intro w hSw; (try obtain ⟨k0, k1, k2, k3, kb, _, _, _⟩ := hSw); go_simp; first | done | with_reducible rfl)
      try simp only [Act.put, List.setIfInBounds_toArray, List.set_cons_zero, List.set_cons_succ]
      refine take_list (i := 63) (v := ?v63) rfl (by kernel_rfl) (by kernel_rfl) (by kernel_rfl) (fun _ _ _ h => h) (Or.inl ⟨by rfl, ?hy63⟩) hHeld ?rest63
      case hy63 => (intro w hSw; (try obtain ⟨k0, k1, k2, k3, kb, _, _, _⟩ := hSw); go_simp; first | done | with_reducible rfl)
      try simp only [Act.put, List.setIfInBounds_toArray, List.set_cons_zero, List.set_cons_succ]
      refine wpAnyH_done (by kernel_rfl) ?_ _
      -- END OF REGION 5
      refine NoPanic.normal ?_
      clear CH CW CO CWr COr CN CNr CP CPr CR CRr CC qy qq E5 zCS9 zCS10
      have OV := over_any (.slice a6 (elems m).length k6) (elems m).length 0 _ v58w (owns_base O6_58.out (Nat.zero_le _)) (fun u hu => by
        simp [u8s] at hu
        obtain ⟨q, _, rfl⟩ := hu
        exact ⟨q, rfl⟩) (by have := elems_len m; omega) (Nat.zero_le _)
      have GR : Hid (∀ w70, v58w.grownBy w70 (Value.slice a6 (elems m).length k6).ownBlock → Sit x0 x1 x2 x3 m b w w70 g7 g8 g9 g10) := fun w70 g70 =>
        L58.out.grown g70 B3 (fun k hk => (O6_58.out.lt k hk).1) HBU.out.1 HBU.out.2.1 HBU.out.2.2.1 HBU.out.2.2.2.1 HBU.out.2.2.2.2
      have E7 : Hid (∀ w', Sit x0 x1 x2 x3 m b w w' g7 g8 g9 g10 → w'.cell? ⟨g7, 0, none⟩ = some (.int .u64 (x0 : Int)) ∧ w'.cell? ⟨g7, 1, none⟩ = some (.int .u64 (x1 : Int)) ∧ w'.cell? ⟨g7, 2, none⟩ = some (.int .u64 (x2 : Int)) ∧ w'.cell? ⟨g7, 3, none⟩ = some (.int .u64 (x3 : Int)) ∧ w'.cell? ⟨w.heap.size, 0, none⟩ = some (.int .u64 (x0 : Int)) ∧ w'.cell? ⟨w.heap.size, 1, none⟩ = some (.int .u64 (x1 : Int)) ∧ w'.cell? ⟨w.heap.size, 2, none⟩ = some (.int .u64 (x2 : Int)) ∧ w'.cell? ⟨w.heap.size, 3, none⟩ = some (.int .u64 (x3 : Int)) ∧ w'.rangeAt g8 0 CS) := fun w' h => by
        refine ⟨h.msk.cell 0, h.msk.cell 1, h.msk.cell 2, h.msk.cell 3, h.box.cell 0, h.box.cell 1, h.box.cell 2, h.box.cell 3, ?_⟩
        rw [HCS.out]
        exact h.s8.range
      have CA0 := fun w hT hw => all4 EX.out HM.out w hT hw
      have qx : ∀ w, (Op.equalIn 10000 24 (ag x0 x1 x2 x3) (ag x0 x1 x2 x3)).run Tryd.prog w = .ok true w := fun w => by
        have := eq4_run x0 x1 x2 x3 x0 x1 x2 x3 w
        simpa using this
      go_wp2_with (go_at_call 22; refine OV.mono ?_; rintro e w70 ⟨rfl, g70⟩; have L70 := hide (GR.out _ g70); clear g70)
      have D70 := hide L70.out.drew
      clear OV GR L58 O6_58 R6_58
      go_region_held3 (fun w' => w'.cell? ⟨g7, 0, none⟩ = some (.int .u64 (x0 : Int)) ∧ w'.cell? ⟨g7, 1, none⟩ = some (.int .u64 (x1 : Int)) ∧ w'.cell? ⟨g7, 2, none⟩ = some (.int .u64 (x2 : Int)) ∧ w'.cell? ⟨g7, 3, none⟩ = some (.int .u64 (x3 : Int)) ∧ w'.cell? ⟨w.heap.size, 0, none⟩ = some (.int .u64 (x0 : Int)) ∧ w'.cell? ⟨w.heap.size, 1, none⟩ = some (.int .u64 (x1 : Int)) ∧ w'.cell? ⟨w.heap.size, 2, none⟩ = some (.int .u64 (x2 : Int)) ∧ w'.cell? ⟨w.heap.size, 3, none⟩ = some (.int .u64 (x3 : Int)) ∧ w'.rangeAt g8 0 CS) (first | exact E7.out _ D70.out | exact E7.out _ L71.out | exact E7.out _ L72.out | exact E7.out _ L73.out | exact E7.out _ L74.out)
        (first
        | (go_at_call 8; refine (CA0 _ (HT.out.below D70.out.fr hw) (Nat.lt_of_lt_of_le hw D70.out.fr.size)).mono ?_; rintro e w71 ⟨v71, rfl, o71, f71⟩; obtain ⟨a71, k71, rfl, r71⟩ := owns_ints o71 HB.out; have L71 := hide (D70.out.below f71); have R71 := hide r71; clear o71 f71 r71)
        | (go_at_call 20; refine (CA _).mono ?_; rintro e w72 ⟨v72, rfl, o72, f72⟩; obtain ⟨a72, k72, rfl, r72⟩ := owns_ints o72 HB.out; have L72 := hide (L71.out.below f72); have R72 := hide r72; have Q72 := hide (R71.out.below f72 (Nat.le_refl _)); clear o72 f72 r72)
        | (go_at_call 19; refine (same4 _ _ _ _ _ _ Q72.out R72.out).mono ?_; rintro e w73 ⟨rfl, f73⟩; have L73 := hide (L72.out.below f73); clear f73)
        | (go_at_call 23; refine (awake_any _ (HT.out.below L73.out.fr hw) (Nat.lt_of_lt_of_le hw L73.out.fr.size)).mono ?_; rintro e w74 ⟨rfl, f74⟩; have L74 := hide (L73.out.below f74); clear f74))
      go_wp2
      go_ret
      exact ⟨rfl, L74.out.fr⟩
end Go.Proofs.YtklakdhghmhapaaDoor
