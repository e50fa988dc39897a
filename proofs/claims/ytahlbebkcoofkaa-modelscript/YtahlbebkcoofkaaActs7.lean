/- The acts that came in (ModelScript); the document's list, read. -/
import Derived.Test.YtahlbebkcoofkaaArg7
import Derived.Test.YtahlbebkcoofkaaRfN
namespace Go.Proofs.Ytahlbebkcoofkaa
open Go.RowKit Go.ChangeShapes Go.WideShapes
set_option linter.unusedVariables false
set_option maxRecDepth 20000

/-- A call of a shelf. -/
structure Do8 where
  a : Option Addr
  cap : Nat
  k : List Int
  v : Int
  dr : Bool
def Do8.cells (x : Do8) : List Value := [.slice x.a x.k.length x.cap, .int .u64 x.v, .bool x.dr]
def Acts8 (w : World) (a : Option Addr) (xs : List Do8) : Prop :=
  (∀ x ∈ xs, (0 ≤ x.v ∧ x.v ≤ 18446744073709551615) ∧ Rd w x.a x.k) ∧
  (xs = [] ∨ ∃ b off, a = some ⟨b, off, none⟩ ∧ ∀ (j : Nat) (x : Do8), xs[j]? = some x → ∀ (c : Nat) (v : Value), x.cells[c]? = some v → w.cell? ⟨b, off + j * 3 + c, none⟩ = some v)
theorem Acts8.cell {w : World} {a : Option Addr} {xs : List Do8} (h : Acts8 w a xs) {j : Nat} {x : Do8} (hx : xs[j]? = some x) :
    ∃ b off, a = some ⟨b, off, none⟩ ∧ (0 ≤ x.v ∧ x.v ≤ 18446744073709551615) ∧ (∀ w', Below w.heap.size w w' → Rd w' x.a x.k) ∧ ∀ w' : World, Below w.heap.size w w' → w'.cell? ⟨b, off + j * 3, none⟩ = some (.slice x.a x.k.length x.cap) ∧ w'.cell? ⟨b, off + j * 3 + 1, none⟩ = some (.int .u64 x.v) ∧ w'.cell? ⟨b, off + j * 3 + 2, none⟩ = some (.bool x.dr) := by
  rcases h.2 with h0 | ⟨b, off, ha, hc⟩
  · subst h0; simp at hx
  · obtain ⟨h1, h2⟩ := h.1 x (List.mem_of_getElem? hx)
    refine ⟨b, off, ha, h1, fun w' f => h2.below f (Nat.le_refl _), fun w' f => ?_⟩
    have up : ∀ (p : Addr) (v : Value), w.cell? p = some v → w'.cell? p = some v := fun p v hv => (f.cell (p := p) (World.block_lt_of_cell? w _ hv)).trans hv
    exact ⟨up _ _ (hc j x hx 0 _ rfl), up _ _ (hc j x hx 1 _ rfl), up _ _ (hc j x hx 2 _ rfl)⟩
theorem cells_act8 : Try.prog.cellsOf 37 = 3 := by kernel_rfl
theorem cells_bool : Try.prog.cellsOf 4 = 1 := by kernel_rfl
theorem acts8_open {H : Type} {enc : TypeId × Value → H} {w : World} {base : Nat} {held : Bool} {a : Option Addr} {len cap fuel : Nat} {x : DataW H × List MemPlace}
    (h : DataW.trod enc Try.prog w base (fun _ => true) held fuel 23 [.slice a len cap] = some x) : ∃ xs : List Do8, xs.length = len ∧ Acts8 w a xs ∧ len ≤ 9223372036854775807 := by
  rcases Deep.open_slice Try.underlying23 h with ⟨hcs, _⟩ | ⟨ad, l, c, m, n, D, Pl, hcs, hb, hl, hm, hmm, _, hel⟩
  · simp at hcs
    obtain ⟨rfl, rfl, rfl⟩ := hcs
    exact ⟨[], rfl, by simp [Acts8], by omega⟩
  · simp at hcs
    obtain ⟨rfl, rfl, rfl⟩ := hcs
    simp only [if_true] at hmm
    have el : ∀ i, i < len → ∃ y : Do8, ((0 ≤ y.v ∧ y.v ≤ 18446744073709551615) ∧ Rd w y.a y.k) ∧ ∀ (k : Nat) (v : Value), y.cells[k]? = some v → w.cell? (ad.add (i * 3 + k)) = some v := by
      intro i hi
      obtain ⟨cs', h1, h2⟩ := hel i (by omega)
      rw [cells_act8] at h1
      obtain ⟨_, hlen, hcell⟩ := World.cells?_some h1
      obtain ⟨ys, k, _, _, _, hys, hf⟩ := DataW.trod_struct Try.underlying37 h2
      match ys, hys, cs', hlen with
      | [y0, y1, y2], _, [v0, v1, v2], _ =>
        have g0 := hf 0 _ rfl
        have g1 := hf 1 _ rfl
        have g2 := hf 2 _ rfl
        simp [cells_q, cells_bool, cells_bs] at g0 g1 g2
        obtain ⟨a3, ws, cap3, q0, hw, _⟩ := bytes_open g0
        obtain ⟨z1, q1, _, r1⟩ := DataW.trod_int Try.underlying35 g1
        obtain ⟨z2, q2, _⟩ := DataW.trod_bool Try.underlying4 g2
        have hz1 := wf_u64 r1
        simp at q1 q2
        subst q0 q1 q2
        refine ⟨⟨a3, cap3, ws, z1, z2⟩, ⟨hz1, hw.1⟩, fun k v hv => ?_⟩
        have hk : k < 3 := by
          have := (List.getElem?_eq_some_iff.1 hv).1
          simpa [Do8.cells] using this
        have e := hcell k (by simpa using hk)
        rw [Deep.add_add] at e
        rw [e]
        exact hv
    haveI : Inhabited Do8 := ⟨⟨none, 0, [], 0, false⟩⟩
    obtain ⟨f, hfx⟩ := Deep.choose_lt el
    refine ⟨(List.range len).map f, by simp, ⟨?_, ?_⟩, ?_⟩
    · intro y hy
      obtain ⟨i, hi, rfl⟩ := List.mem_map.1 hy
      exact (hfx i (List.mem_range.1 hi)).1
    · by_cases h0 : len = 0
      · left; simp [h0]
      · right
        obtain ⟨b, off, sp⟩ := ad
        have h1 := (hfx 0 (by omega)).2 0 _ rfl
        have hs : sp = none := by
          cases sp with
          | none => rfl
          | some q =>
            simp only [World.cell?, Addr.add] at h1
            split at h1 <;> simp at h1
        subst hs
        refine ⟨b, off, rfl, fun j y hy k v hv => ?_⟩
        have hj : j < len := by
          have := (List.getElem?_eq_some_iff.1 hy).1
          simpa using this
        have hyj : f j = y := by simpa [hj] using hy
        have h2 := (hfx j hj).2 k v (by rw [hyj]; exact hv)
        rw [add_plain', ← Nat.add_assoc] at h2
        exact h2
    · have h9 := hm
      unfold maxLen at h9
      omega
end Go.Proofs.Ytahlbebkcoofkaa
namespace Go.Proofs.Ytahlbebkcoofkaa.H8
open Go.RowKit Go.Sort Go.Proofs.Ytahlbebkcoofkaa
set_option linter.unusedVariables false
set_option maxRecDepth 20000

theorem rf_hdr {g : Nat} {ps : List KV} {K : Nat → Prop} {w : World} (h : Rf.Md g ps K w) : ∃ a c es, w.cell? ⟨g, 0, none⟩ = some (.slice a ps.length c) ∧ es.length = ps.length ∧ es.map Ent.kv = ps ∧ Rp w a es ∧ (∀ e ∈ es, e.k.length ≤ 65535) := by
  obtain ⟨F, v, es, h⟩ := h
  obtain ⟨a, c, rfl, hr⟩ := h.rp
  have d0 := h.hd.cell 0
  simp only [List.getElem?_cons_zero] at d0
  rw [← h.len] at d0
  exact ⟨a, c, es, d0, h.len.symm, h.kv, hr, fun e he => (h.ks e he).2.1⟩
theorem rf_at {g : Nat} {ps : List KV} {K : Nat → Prop} {w : World} (h : Rf.Md g ps K w) {i : Nat} {p : KV} (hp : ps[i]? = some p) : ∃ b c a' c', w.cell? ⟨g, 0, none⟩ = some (.slice (some ⟨b, 0, none⟩) ps.length c) ∧ w.cell? ⟨b, i * 2, none⟩ = some (.slice a' p.1.length c') ∧ w.cell? ⟨b, i * 2 + 1, none⟩ = some (.int .u64 p.2) ∧ Rd w a' p.1 ∧ p.1.length ≤ c' ∧ 0 ≤ p.2 ∧ p.2 ≤ 18446744073709551615 := by
  obtain ⟨F, v, es, h⟩ := h
  obtain ⟨b, c, e, rfl, he, hk, hil, c0, c1⟩ := h.cells hp
  have d0 := h.hd.cell 0
  simp only [List.getElem?_cons_zero] at d0
  rw [← h.len] at d0
  have hks := h.ks e (List.mem_of_getElem? he)
  subst hk
  exact ⟨b, c, e.a, e.c, d0, c0, c1, hks.1.1, h.cs e (List.mem_of_getElem? he), hks.2.2⟩
theorem both_a {A B : Shape} {K : Nat → Prop} {w : World} (h : Both A B K w) : ∃ K1, A K1 w := by obtain ⟨K1, _, hA, _⟩ := h.left; exact ⟨K1, hA⟩
theorem both_b {A B : Shape} {K : Nat → Prop} {w : World} (h : Both A B K w) : ∃ K1, B K1 w := by obtain ⟨K1, _, hB, _⟩ := h.right; exact ⟨K1, hB⟩
theorem kp_rd {K : Nat → Prop} {w w' : World} {b off : Nat} {xs : List Int} (h : Rd w (some ⟨b, off, none⟩) xs) (k : Kp K w w') (hb : K b) : Rd w' (some ⟨b, off, none⟩) xs := by
  refine ⟨h.1, h.2.1, ?_⟩
  rcases h.2.2 with h0 | ⟨b', off', e, hc⟩
  · exact .inl h0
  · simp only [Option.some.injEq, Addr.mk.injEq] at e
    obtain ⟨rfl, rfl, -⟩ := e
    refine .inr ⟨b, off, rfl, fun i hi => ?_⟩
    have h1 := hc i hi
    have hlt := World.block_lt_of_cell? w _ h1
    rw [World.cell?_of_block (w := w) (w' := w') (a := ⟨b, off + i, none⟩) (k.block b hb hlt)]
    exact h1

theorem find_none {ps : List KV} {k : List Int} (h : isIn k ps = false) : valO (findM k ps) = 0 := by unfold findM; rw [h]; rfl
theorem putM_len_new {k : List Int} {v : Int} {ps : List KV} (h : isIn k ps = false) : (putM k v ps).length = ps.length + 1 := by
  have := rank_le k ps
  unfold putM; rw [h]; simp; omega
theorem putM_len_old {k : List Int} {v : Int} {ps : List KV} (h : isIn k ps = true) : (putM k v ps).length = ps.length := by
  have := isIn_lt h
  unfold putM; rw [h]; simp; omega
end Go.Proofs.Ytahlbebkcoofkaa.H8
