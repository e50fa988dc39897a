/- Rows of pairs (a key and a number): what stands in memory, as a list; pairs compared by their keys. -/
import Derived.Test.YtnedcoomldmhhaaReads7
import Derived.Lib.QuietBelow
import Derived.Shelf.Abstract
namespace Go.Proofs.Ytnedcoomldmhhaa
set_option maxRecDepth 20000
open Go.RowKit Go.Sort
set_option linter.unusedVariables false

/-- A pair as it stands: where its key lies, how much room that slice has, the key, the number. -/
structure Ent where
  a : Option Addr
  c : Nat
  k : List Int
  v : Int
def Ent.cells (e : Ent) : List Value := [.slice e.a e.k.length e.c, .int .u64 e.v]
theorem Ent.cells_length (e : Ent) : e.cells.length = 2 := rfl
def Ent.kv (e : Ent) : List Int × Int := (e.k, e.v)

/-- Its key reads so; its number is one. -/
def Ok (w : World) (e : Ent) : Prop := Rd w e.a e.k ∧ 0 ≤ e.v ∧ e.v ≤ 18446744073709551615
theorem Ok.below {B : Nat} {w w' : World} {e : Ent} (h : Ok w e) (f : Below B w w') (hB : w.heap.size ≤ B) : Ok w' e := ⟨h.1.below f hB, h.2⟩

/-- A slice of pairs that reads so. -/
def Rp (w : World) (a : Option Addr) (es : List Ent) : Prop :=
  es.length ≤ 1000000 ∧ (∀ e ∈ es, Ok w e) ∧ (es = [] ∨ ∃ b off, a = some ⟨b, off, none⟩ ∧ ∀ i e, es[i]? = some e → w.cell? ⟨b, off + i * 2, none⟩ = some (.slice e.a e.k.length e.c) ∧ w.cell? ⟨b, off + i * 2 + 1, none⟩ = some (.int .u64 e.v))
theorem Rp.below {B : Nat} {w w' : World} {a : Option Addr} {es : List Ent} (h : Rp w a es) (f : Below B w w') (hB : w.heap.size ≤ B) : Rp w' a es := by
  refine ⟨h.1, fun e he => (h.2.1 e he).below f hB, ?_⟩
  rcases h.2.2 with h3 | ⟨b, off, ha, hc⟩
  · exact .inl h3
  · refine .inr ⟨b, off, ha, fun i e he => ?_⟩
    have := hc i e he
    have hl : b < w.heap.size := World.block_lt_of_cell? w _ this.1
    rw [f.cell (p := ⟨b, off + i * 2, none⟩) (by show b < B; omega), f.cell (p := ⟨b, off + i * 2 + 1, none⟩) (by show b < B; omega)]
    exact this

theorem Below.drewN' {B : Nat} {w w' : World} (h : Below B w w') (n : Nat) : Below B w (w'.drewN n) := ⟨h.os, h.tape, h.output, h.size, h.block⟩
set_option maxHeartbeats 400000 in
theorem byKey_any (e f : Ent) (w : World) (he : Rd w e.a e.k) (hf : Rd w f.a f.k) :
    Calls Try.prog 91 #[.agg #[.slice e.a e.k.length e.c, .int .u64 e.v], .agg #[.slice f.a f.k.length f.c, .int .u64 f.v]] w fun r w' => r = .returned (.int .i64 (cmpK e.k f.k)) ∧ Below w.heap.size w w' := by
  obtain ⟨ea, ec, ek, ev⟩ := e
  obtain ⟨fa, fc, fk, fv⟩ := f
  simp only at he hf ⊢
  have C := fun w' (h : Below w.heap.size w w') => compare_any ea fa ek fk ec fc w' (he.below h (Nat.le_refl _)) (hf.below h (Nat.le_refl _))
  have hr := cmpK_range ek fk
  have HC := hide C
  clear C he hf
  go_enter Try.func91, Try.ntmps91
  go_wp2_with fail
  refine (HC.out _ (((Below.refl _ w).alloc (Nat.le_refl _) _).alloc (by simp) _)).mono ?_
  rintro r w1 ⟨rfl, n, rfl⟩
  go_wp2
  go_ret
  exact ⟨rfl, Below.drewN' (((Below.refl _ w).alloc (Nat.le_refl _) _).alloc (by simp) _) n⟩

theorem mid_le (i j : Nat) (h : i < j) : i ≤ (i + j) / 2 ∧ (i + j) / 2 < j := by omega
theorem Rp.cells {w : World} {a : Option Addr} {es : List Ent} (h : Rp w a es) {i : Nat} {e : Ent} (he : es[i]? = some e) : ∃ b off, a = some ⟨b, off, none⟩ ∧ w.cell? ⟨b, off + i * 2, none⟩ = some (.slice e.a e.k.length e.c) ∧ w.cell? ⟨b, off + i * 2 + 1, none⟩ = some (.int .u64 e.v) := by
  rcases h.2.2 with h3 | ⟨b, off, ha, hc⟩
  · subst h3; simp at he
  · exact ⟨b, off, ha, hc i e he⟩

end Go.Proofs.Ytnedcoomldmhhaa
