/- What came in, opened: bytes, a list of pairs. -/
import Derived.Test.YtahlbebkcoofkaaAwake7
import Derived.Deep.Slices
import Derived.OpenShut
import Derived.ProofKit
namespace Go.Proofs.Ytahlbebkcoofkaa
set_option maxRecDepth 20000
open Go.RowKit Go.ChangeShapes Go.WideShapes
set_option linter.unusedVariables false

/-- How a slice lies: without room, or at a plain place. -/
def Sl (a : Option Addr) (len cap : Nat) : Prop := (len = 0 ∧ cap = 0) ∨ ∃ b off, a = some ⟨b, off, none⟩ ∧ len ≤ cap
theorem cells_u8 : Try.prog.cellsOf 5 = 1 := by kernel_rfl
theorem cells_bs : Try.prog.cellsOf 24 = 1 := by kernel_rfl
theorem cells_i : Try.prog.cellsOf 3 = 1 := by kernel_rfl
theorem cells_q : Try.prog.cellsOf 35 = 1 := by kernel_rfl
theorem wf_u8 {a : Int} (h : (Lit.int .u8 a).wf = true) : 0 ≤ a ∧ a ≤ 255 := by
  have e1 : IntKind.u8.min = 0 := by decide
  have e2 : IntKind.u8.max = 255 := by decide
  simp [Lit.wf, e1, e2] at h
  omega
theorem add_plain' (b off i : Nat) : (⟨b, off, none⟩ : Addr).add i = ⟨b, off + i, none⟩ := by
  by_cases h : i = 0
  · subst h; rfl
  · simp [Addr.add, h]
theorem bytes_open {H : Type} {enc : TypeId × Value → H} {w : World} {base : Nat} {held : Bool} {v : Value} {fuel : Nat} {x : DataW H × List MemPlace}
    (h : DataW.trod enc Try.prog w base (fun _ => true) held fuel 24 [v] = some x) : ∃ (a : Option Addr) (xs : List Int) (cap : Nat), v = .slice a xs.length cap ∧ Bd (fun k => k < w.heap.size) w a xs ∧ Sl a xs.length cap := by
  rcases open_ints Try.underlying24 Try.underlying5 cells_u8 h with ⟨hcs, _⟩ | ⟨x, l, c, zs, hcs, _, hl, hm, hz, _, hcell, hwz⟩
  · simp at hcs
    subst hcs
    exact ⟨none, [], 0, rfl, ⟨Rd.nil _ _, .inl rfl⟩, .inl ⟨rfl, rfl⟩⟩
  · simp at hcs
    subst hcs
    simp only [if_true] at hz
    have hlz : (zs.take l).length = l := by simp; omega
    have hby : IsBytes (zs.take l) := fun y hy => wf_u8 (hwz y (List.mem_of_mem_take hy))
    by_cases hc0 : c = 0
    · have hl0 : l = 0 := by omega
      subst hl0
      refine ⟨some x, [], c, by simp, ⟨Rd.nil _ _, .inl rfl⟩, .inl ⟨rfl, hc0⟩⟩
    · obtain ⟨b, off, sp⟩ := x
      have h1 := hcell 0 (by omega)
      have hs : sp = none := by simpa [Addr.add] using World.cell?_spot h1
      subst hs
      have hb : b < w.heap.size := World.block_lt_of_cell? w _ h1
      refine ⟨some ⟨b, off, none⟩, zs.take l, c, by rw [hlz], ⟨⟨hby, by omega, .inr ⟨b, off, rfl, fun i hi => ?_⟩⟩, .inr ⟨b, off, rfl, hb⟩⟩, .inr ⟨b, off, rfl, by omega⟩⟩
      have hi' : i < l := by omega
      have h2 := hcell i (by omega)
      rw [add_plain'] at h2
      rw [h2]
      simp [List.getD, hi']

/-- A list of pairs that came in. -/
structure Prs (w : World) (a : Option Addr) (cap : Nat) (es : List Ent) : Prop where
  ok : ∀ e ∈ es, Ok w e
  cl : es = [] ∨ ∃ b off, a = some ⟨b, off, none⟩ ∧ ∀ (i : Nat) (e : Ent), es[i]? = some e → w.cell? ⟨b, off + i * 2, none⟩ = some (.slice e.a e.k.length e.c) ∧ w.cell? ⟨b, off + i * 2 + 1, none⟩ = some (.int .u64 e.v)
  nl : a = none → es = [] ∧ cap = 0
  mx : es.length ≤ 9223372036854775807
theorem Prs.rp {w : World} {a : Option Addr} {cap : Nat} {es : List Ent} (h : Prs w a cap es) (hn : es.length ≤ 1000000) : Rp w a es := ⟨hn, h.ok, h.cl⟩
theorem cells_pair : Try.prog.cellsOf 54 = 2 := by kernel_rfl
theorem pairs_open {H : Type} {enc : TypeId × Value → H} {w : World} {base : Nat} {held : Bool} {a : Option Addr} {len cap fuel : Nat} {x : DataW H × List MemPlace}
    (h : DataW.trod enc Try.prog w base (fun _ => true) held fuel 22 [.slice a len cap] = some x) : ∃ es : List Ent, es.length = len ∧ Prs w a cap es := by
  rcases Deep.open_slice Try.underlying22 h with ⟨hcs, _⟩ | ⟨ad, l, c, m, n, D, Pl, hcs, hb, hl, hm, hmm, _, hel⟩
  · simp at hcs
    obtain ⟨rfl, rfl, rfl⟩ := hcs
    exact ⟨[], rfl, ⟨by simp, .inl rfl, fun _ => ⟨rfl, rfl⟩, by simp⟩⟩
  · simp at hcs
    obtain ⟨rfl, rfl, rfl⟩ := hcs
    simp only [if_true] at hmm
    have el : ∀ i, i < len → ∃ y : Ent, Ok w y ∧ ∀ (k : Nat) (v : Value), y.cells[k]? = some v → w.cell? (ad.add (i * 2 + k)) = some v := by
      intro i hi
      obtain ⟨cs', h1, h2⟩ := hel i (by omega)
      rw [cells_pair] at h1
      obtain ⟨_, hlen, hcell⟩ := World.cells?_some h1
      obtain ⟨ys, k, _, _, _, hys, hf⟩ := DataW.trod_struct Try.underlying54 h2
      match ys, hys, cs', hlen with
      | [y0, y1], _, [v0, v1], _ =>
        have g0 := hf 0 _ rfl
        have g1 := hf 1 _ rfl
        simp [cells_bs, cells_q] at g0 g1
        obtain ⟨a3, ws, cap3, q3, hw, _⟩ := bytes_open g0
        obtain ⟨z1, q1, _, r1⟩ := DataW.trod_int Try.underlying35 g1
        have hz := wf_u64 r1
        simp at q1
        subst q1 q3
        refine ⟨⟨a3, cap3, ws, z1⟩, ⟨hw.1, hz⟩, fun k v hv => ?_⟩
        have hk : k < 2 := by
          have := (List.getElem?_eq_some_iff.1 hv).1
          simpa [Ent.cells] using this
        have e := hcell k (by simpa using hk)
        rw [Deep.add_add] at e
        rw [e]
        exact hv
    haveI : Inhabited Ent := ⟨⟨none, 0, [], 0⟩⟩
    obtain ⟨f, hfx⟩ := Deep.choose_lt el
    refine ⟨(List.range len).map f, by simp, ?_, ?_, by simp, ?_⟩
    · intro y hy
      obtain ⟨i, hi, rfl⟩ := List.mem_map.1 hy
      exact (hfx i (List.mem_range.1 hi)).1
    · by_cases h0 : len = 0
      · left; simp [h0]
      · right
        obtain ⟨b, off, sp⟩ := ad
        have h1 := (hfx 0 (by omega)).2 0 _ rfl
        have hs : sp = none := by
          cases sp with
          | none => rfl
          | some q =>
            simp only [World.cell?, Addr.add] at h1
            split at h1 <;> simp at h1
        subst hs
        refine ⟨b, off, rfl, fun j y hy => ?_⟩
        have hj : j < len := by
          have := (List.getElem?_eq_some_iff.1 hy).1
          simpa using this
        have hyj : f j = y := by simpa [hj] using hy
        have h2 := (hfx j hj).2 0 _ (by rw [hyj]; rfl)
        have h3 := (hfx j hj).2 1 _ (by rw [hyj]; rfl)
        rw [add_plain'] at h2 h3
        rw [← Nat.add_assoc] at h3
        exact ⟨h2, h3⟩
    · have h9 := hm
      unfold maxLen at h9
      simp
      omega
end Go.Proofs.Ytahlbebkcoofkaa
