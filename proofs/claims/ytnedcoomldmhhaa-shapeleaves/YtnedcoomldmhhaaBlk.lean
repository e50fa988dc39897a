/- Laws of memory in the words that these walks use: whole blocks, and that only one block has turned. No program here. -/
import Derived.WalkKit
import Derived.WalkSpells
import Derived.WalkLawsBesides
import Derived.BigQuiet
import Derived.Deep.QuietTactic
import Derived.Deep.Draws
import Derived.Laws.LoneSync
import Derived.Laws.OwnMore
import Derived.Laws.MakeOwn
namespace Go.Proofs.Ytnedcoomldmhhaa
set_option maxRecDepth 20000
open Go.RowKit

theorem hide {p : Prop} (h : p) : Hid p := h

theorem ret_int {k : IntKind} {a b : Int} (h : a = b) : Ending.returned (.int k a) = .returned (.int k b) := by rw [h]
theorem ret_bool {a b : Bool} (h : a = b) : Ending.returned (.bool a) = .returned (.bool b) := by rw [h]
theorem wrap64_in (x : Int) (h : -9223372036854775808 ≤ x ∧ x ≤ 9223372036854775807) : wrap64 x = x := by
  unfold wrap64; omega

/-- A whole block of cells, none of them a constant's. -/
def Blk (w : World) (g : Nat) (e : TypeId) (cur : List Value) : Prop := w.heap[g]? = some (.cells cur.toArray e (0, 0))

theorem Blk.set {w : World} {g : Nat} {e : TypeId} {cur : List Value} (h : Blk w g e cur) (o : Nat) (v : Value) : Blk (w.setCell ⟨g, o, none⟩ v) g e (cur.set o v) := by
  unfold Blk at *
  simp only [World.setCell, Array.getElem?_modify, if_true, h, Option.map_some]
  simp
theorem Blk.cell {w : World} {g : Nat} {e : TypeId} {cur : List Value} (h : Blk w g e cur) (j : Nat) : w.cell? ⟨g, j, none⟩ = cur[j]? := by
  unfold Blk at h; simp [World.cell?, h]
theorem Blk.frozen {w : World} {g : Nat} {e : TypeId} {cur : List Value} (h : Blk w g e cur) (j : Nat) : w.frozen? ⟨g, j, none⟩ = false := by
  unfold Blk at h; simp [World.frozen?, h]
theorem Blk.lt {w : World} {g : Nat} {e : TypeId} {cur : List Value} (h : Blk w g e cur) : g < w.heap.size := (Array.getElem?_eq_some_iff.1 h).1
theorem Blk.drew {w : World} {g : Nat} {e : TypeId} {cur : List Value} (h : Blk w g e cur) : Blk w.drew g e cur := h
theorem Blk.drewN {w : World} {g : Nat} {e : TypeId} {cur : List Value} (h : Blk w g e cur) (n : Nat) : Blk (w.drewN n) g e cur := h
theorem Blk.below {w w' : World} {g : Nat} {e : TypeId} {cur : List Value} (h : Blk w g e cur) {B : Nat} (k : Below B w w') (hB : g < B) : Blk w' g e cur := (k.block g hB).trans h
theorem Blk.alloc {w : World} {g : Nat} {e : TypeId} {cur : List Value} (h : Blk w g e cur) (o : Obj) : Blk (w.alloc o) g e cur := (Below.heap_alloc w o g h.lt).trans h
theorem Blk.new (w : World) (e : TypeId) (cur : List Value) (cs : Array Value) (h : cs = cur.toArray) : Blk (w.alloc (.cells cs e (0, 0))) w.heap.size e cur := by
  subst h; exact heap_alloc_new w _

/-- No block but g has turned; none is new. -/
structure Only (g : Nat) (w w' : World) : Prop where
  os : w'.os = w.os
  tape : w'.tape = w.tape
  output : w'.output = w.output
  size : w'.heap.size = w.heap.size
  block : ∀ k, k ≠ g → w'.heap[k]? = w.heap[k]?

theorem Only.refl (g : Nat) (w : World) : Only g w w := ⟨rfl, rfl, rfl, rfl, fun _ _ => rfl⟩
theorem Only.trans {g : Nat} {a b c : World} (h : Only g a b) (k : Only g b c) : Only g a c :=
  ⟨k.os.trans h.os, k.tape.trans h.tape, k.output.trans h.output, k.size.trans h.size, fun i hi => (k.block i hi).trans (h.block i hi)⟩
theorem Only.setCell {g : Nat} {a w : World} (h : Only g a w) (o : Nat) (v : Value) : Only g a (w.setCell ⟨g, o, none⟩ v) :=
  h.trans ⟨rfl, rfl, rfl, by simp [World.setCell], fun k hk => Below.heap_setCell w ⟨g, o, none⟩ v k hk⟩
theorem Only.drew {g : Nat} {a w : World} (h : Only g a w) : Only g a w.drew := ⟨h.os, h.tape, h.output, h.size, h.block⟩
theorem Only.below {g : Nat} {w w' : World} (h : Only g w w') {B : Nat} (hB : B ≤ g) : Below B w w' :=
  ⟨h.os, h.tape, h.output, by rw [h.size]; exact Nat.le_refl _, fun k hk => h.block k (by omega)⟩
theorem Blk.only {w w' : World} {g k : Nat} {e : TypeId} {cur : List Value} (h : Blk w g e cur) (o : Only k w w') (hk : g ≠ k) : Blk w' g e cur := (o.block g hk).trans h
/-- Where the one block reads as it did nothing has turned. -/
theorem Only.all {g : Nat} {w w' : World} (h : Only g w w') {e : TypeId} {cur : List Value} (b : Blk w g e cur) (b' : Blk w' g e cur) (B : Nat) : Below B w w' :=
  ⟨h.os, h.tape, h.output, by rw [h.size]; exact Nat.le_refl _, fun k hk => by
    by_cases hg : k = g
    · subst hg; exact b'.trans b.symm
    · exact h.block k hg⟩

/-- make: a new block of zeros. -/
theorem run_make_blk {P : Program} {w : World} (t e : TypeId) (i : TypeInfo) (z : Value) (ht : P.underlying t = some (.slice e)) (hi : P.info? e = some i) (hz : i.zero = some z) (hsize : i.size = 1) (hzs : z.cells = #[z])
    (kl kc : IntKind) (l c : Int) (n cap : Nat) (hl : l = n) (hc : c = cap) (hn : n ≤ cap) (hbytes : i.bytes * cap ≤ 281474976710656) (h63 : cap ≤ maxLen) :
    ∃ w', (Instr.makeSlice t (.int kl l) (.int kc c)).run P w = .ok (.slice (some ⟨w.heap.size, 0, none⟩) n cap) w' ∧
      Blk w' w.heap.size e (List.replicate cap z) ∧ Below w.heap.size w w' ∧ w'.heap.size = w.heap.size + 1 := by
  subst hl
  subst hc
  have h63' : (cap : Int) ≤ 9223372036854775807 := by
    have h := h63
    simp [maxLen] at h
    omega
  have hb' : (i.bytes : Int) * (cap : Int) ≤ 281474976710656 := by
    have h : ((i.bytes * cap : Nat) : Int) ≤ 281474976710656 := by omega
    rwa [Int.natCast_mul] at h
  have hr := run_make (P := P) w t e i z ht hi hz kl kc n cap (by omega) (by omega) hb' h63'
  simp only [Int.toNat_natCast, hsize, Nat.mul_one, hzs] at hr
  refine ⟨_, hr, ?_, (Below.refl _ _).alloc (Nat.le_refl _) _, by simp⟩
  unfold Blk
  rw [heap_alloc_new]
  have := toList_madeCells_one z cap
  rw [← this]
end Go.Proofs.Ytnedcoomldmhhaa
