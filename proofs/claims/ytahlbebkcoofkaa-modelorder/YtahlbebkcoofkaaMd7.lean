/- The map of package model: how it stands in memory; what is read of it. -/
import Derived.Test.YtahlbebkcoofkaaRow7
import Derived.Test.YtahlbebkcoofkaaMp7
namespace Go.Proofs.Ytahlbebkcoofkaa
set_option maxRecDepth 20000
open Go.RowKit Go.Sort
set_option linter.unusedVariables false

/-- Bytes in blocks of P, where these stand, and are of Q. -/
theorem Bd.move {P Q : Nat → Prop} {w w' : World} {a : Option Addr} {xs : List Int} (h : Bd P w a xs) (hb : ∀ b, P b → b < w.heap.size → w'.heap[b]? = w.heap[b]? ∧ Q b) : Bd Q w' a xs := by
  obtain ⟨⟨b1, b2, b3⟩, b4⟩ := h
  by_cases h0 : xs = []
  · exact ⟨⟨b1, b2, .inl h0⟩, .inl h0⟩
  · rcases b3 with b3 | ⟨b, off, ea, hc⟩
    · exact absurd b3 h0
    · rcases b4 with b4 | ⟨b', off', e', hK⟩
      · exact absurd b4 h0
      · rw [ea] at e'
        simp only [Option.some.injEq, Addr.mk.injEq] at e'
        obtain ⟨rfl, rfl, -⟩ := e'
        have hlt : b < w.heap.size := World.block_lt_of_cell? w _ (hc 0 (List.length_pos_iff.2 h0))
        have hbb := hb b hK hlt
        refine ⟨⟨b1, b2, .inr ⟨b, off, ea, fun i hi => ?_⟩⟩, .inr ⟨b, off, ea, hbb.2⟩⟩
        rw [World.cell?_of_block (w := w) (w' := w') (a := ⟨b, off + i, none⟩) hbb.1]
        exact hc i hi
structure MdF (g : Nat) (ps : List KV) (K : Nat → Prop) (w : World) (F : Nat → Prop) (v : Value) (es : List Ent) : Prop where
  fk : ∀ k, F k → ¬ K k ∧ k < w.heap.size
  kl : ∀ k, K k → k < w.heap.size
  fg : F g
  hd : Blk w g 70 [v]
  row : w.ownsRow 0 54 2 v es.length (flat Ent.cells es)
  fr : ∀ k, v.ownBlock = some k → F k
  ks : ∀ e ∈ es, Bd (fun k => F k ∧ k ≠ g ∧ v.ownBlock ≠ some k) w e.a e.k ∧ e.k.length ≤ 65535 ∧ 0 ≤ e.v ∧ e.v ≤ 18446744073709551615
  kv : es.map Ent.kv = ps
  up : Ups ps
  ln : es.length ≤ 1000000
/-- A map of these pairs, at block g. -/
def Md (g : Nat) (ps : List KV) : Shape := fun K w => ∃ F v es, MdF g ps K w F v es
theorem Md.lies (g : Nat) (ps : List KV) : Lies (Md g ps) := by
  rintro K w ⟨F, v, es, h⟩
  refine ⟨h.kl, F, h.fk, fun w' K' hs hk => ⟨F, v, es, ?_⟩⟩
  have lt' : ∀ k, F k → k < w'.heap.size := fun k hk => by
    have e := hs k hk
    have l := (h.fk k hk).2
    rw [Array.getElem?_eq_getElem l] at e
    exact (Array.getElem?_eq_some_iff.1 e).1
  refine ⟨fun k hf => ⟨fun hK => (hk k hK).1 hf, lt' k hf⟩, fun k hK => (hk k hK).2, h.fg, (hs g h.fg).trans h.hd, owns_same h.row (fun k hk => hs k (h.fr k hk)), h.fr, fun e he => ⟨?_, (h.ks e he).2⟩, h.kv, h.up, h.ln⟩
  exact (h.ks e he).1.move (fun b hb _ => ⟨hs b hb.1, hb⟩)
/-- The row of pairs, read. -/
theorem owns_rp {w : World} {base : Nat} {v : Value} {es : List Ent} (h : w.ownsRow base 54 2 v es.length (flat Ent.cells es)) (hk : ∀ e ∈ es, Ok w e) (hl : es.length ≤ 1000000) : ∃ a c, v = .slice a es.length c ∧ Rp w a es := by
  obtain ⟨a, c, e⟩ := owns_slice' h
  refine ⟨a, c, e, hl, hk, ?_⟩
  by_cases h0 : es.length = 0
  · exact .inl (List.eq_nil_of_length_eq_zero h0)
  · obtain ⟨g, cap, e2⟩ := owns_slice h (by omega)
    rw [e] at e2
    simp only [Value.slice.injEq] at e2
    obtain ⟨rfl, -, rfl⟩ := e2
    refine .inr ⟨g, 0, rfl, fun i x hx => ?_⟩
    have hi : i < es.length := (List.getElem?_eq_some_iff.1 hx).1
    subst e
    have h1 := h.cellAt (i * 2) (by omega)
    have h2 := h.cellAt (i * 2 + 1) (by omega)
    rw [flat_get Ent.cells_length es i x 1 hx (by omega)] at h2
    have h3 := flat_get Ent.cells_length es i x 0 hx (by omega)
    rw [Nat.add_zero] at h3
    rw [h3] at h1
    rw [Nat.zero_add]
    exact ⟨h1, h2⟩
theorem MdF.rp {g : Nat} {ps : List KV} {K : Nat → Prop} {w : World} {F : Nat → Prop} {v : Value} {es : List Ent} (h : MdF g ps K w F v es) : ∃ a c, v = .slice a es.length c ∧ Rp w a es :=
  owns_rp h.row (fun e he => ⟨(h.ks e he).1.1, (h.ks e he).2.2⟩) h.ln
theorem MdF.len {g : Nat} {ps : List KV} {K : Nat → Prop} {w : World} {F : Nat → Prop} {v : Value} {es : List Ent} (h : MdF g ps K w F v es) : ps.length = es.length := by rw [← h.kv]; simp
theorem MdF.at {g : Nat} {ps : List KV} {K : Nat → Prop} {w : World} {F : Nat → Prop} {v : Value} {es : List Ent} (h : MdF g ps K w F v es) (i : Nat) : ps[i]? = (es[i]?).map Ent.kv := by rw [← h.kv]; simp

set_option maxHeartbeats 400000 in
theorem rising_nil (w : World) : Calls Try.prog 58 #[.pointer none] w fun r w' => r = .returned (.slice none 0 0) ∧ w' = w := by
  go_enter Try.func58, Try.ntmps58
  go_wp2
  go_ret
  exact ⟨rfl, rfl⟩
set_option maxHeartbeats 400000 in
theorem rising_any (g : Nat) (a : Option Addr) (n c : Nat) (w : World) (h : Blk w g 70 [.slice a n c]) : Calls Try.prog 58 #[.pointer (some ⟨g, 0, none⟩)] w fun r w' => r = .returned (.slice a n c) ∧ w' = w := by
  have c0 := h.cell 0
  simp only [List.getElem?_cons_zero] at c0
  clear h
  go_enter Try.func58, Try.ntmps58
  go_wp2
  go_ret
  exact ⟨rfl, rfl⟩

/-- place over a row of pairs that rises. -/
theorem search_rank (es : List Ent) (a : Option Addr) (c : Nat) (ka : Option Addr) (kc : Nat) (k : List Int) (w : World) (h : Rp w a es) (ht : Rd w ka k) (hu : Ups (es.map Ent.kv)) :
    Calls Try.prog 64 #[.slice a es.length c, .agg #[.slice ka k.length kc, .int .u64 0], .func (.func 40) #[] #[]] w fun r w' => r = .returned (.tuple #[.int .i64 (rankM k (es.map Ent.kv) : Nat), .bool (isIn k (es.map Ent.kv))]) ∧ Below w.heap.size w w' := by
  have hat : ∀ (i : Nat) (e : Ent), es[i]? = some e → (es.map Ent.kv)[i]? = some e.kv := fun i e he => by simp [he]
  have := search_pair es a c ⟨ka, kc, k, 0⟩ (rankM k (es.map Ent.kv)) w h ht (by have := rank_le k (es.map Ent.kv); simpa using this)
    (fun i e he hi => rank_lo k _ i e.kv (hat i e he) hi) (fun i e he hi => rank_hi k _ hu i e.kv (hat i e he) hi)
  refine this.mono ?_
  rintro r w' ⟨rfl, f⟩
  refine ⟨?_, f⟩
  have e : decide ((es[rankM k (es.map Ent.kv)]?).map (fun e => e.k) = some k) = isIn k (es.map Ent.kv) := by
    unfold isIn
    rw [List.getElem?_map, Option.map_map]
    rfl
  rw [← e]

set_option maxHeartbeats 400000 in
theorem place_nil (ka : Option Addr) (kc : Nat) (k : List Int) (w : World) (ht : Rd w ka k) : Calls Try.prog 42 #[.pointer none, .slice ka k.length kc] w fun r w' => r = .returned (.tuple #[.int .i64 0, .bool false]) ∧ Below w.heap.size w w' := by
  have R := hide (rising_nil w)
  have S := hide (search_rank [] none 0 ka kc k w ⟨by simp, by simp, .inl rfl⟩ ht List.Pairwise.nil)
  clear ht
  go_enter Try.func42, Try.ntmps42
  go_wp2_with fail
  refine R.out.mono ?_
  rintro e w1 ⟨rfl, hw⟩
  subst hw
  go_wp2_with fail
  refine S.out.mono ?_
  rintro e w2 ⟨rfl, f⟩
  have F := hide f
  clear f
  go_wp2
  go_ret2
  exact ⟨rfl, F.out⟩
set_option maxHeartbeats 400000 in
theorem place_any {g : Nat} {ps : List KV} {K : Nat → Prop} (ka : Option Addr) (kc : Nat) (k : List Int) (w : World) (h : Md g ps K w) (ht : Rd w ka k) :
    Calls Try.prog 42 #[.pointer (some ⟨g, 0, none⟩), .slice ka k.length kc] w fun r w' => r = .returned (.tuple #[.int .i64 (rankM k ps : Nat), .bool (isIn k ps)]) ∧ Below w.heap.size w w' := by
  obtain ⟨F, v, es, h⟩ := h
  obtain ⟨a, c, rfl, hr⟩ := h.rp
  have R := hide (rising_any g a es.length c w h.hd)
  have hu := h.up
  rw [← h.kv] at hu ⊢
  have S := hide (search_rank es a c ka kc k w hr ht hu)
  generalize rankM k (es.map Ent.kv) = rk at S ⊢
  generalize isIn k (es.map Ent.kv) = ii at S ⊢
  clear ht h hr hu
  go_enter Try.func42, Try.ntmps42
  go_wp2_with fail
  refine R.out.mono ?_
  rintro e w1 ⟨rfl, hw⟩
  subst hw
  go_wp2_with fail
  refine S.out.mono ?_
  rintro e w2 ⟨rfl, f⟩
  have F := hide f
  clear f
  go_wp2
  go_ret2
  exact ⟨rfl, F.out⟩

set_option maxHeartbeats 400000 in
theorem len_nil (w : World) : Calls Try.prog 25 #[.pointer none] w fun r w' => r = .returned (.int .i64 0) ∧ w' = w := by
  have R := hide (rising_nil w)
  go_enter Try.func25, Try.ntmps25
  go_wp2_with fail
  refine R.out.mono ?_
  rintro e w1 ⟨rfl, hw⟩
  subst hw
  go_wp2
  go_ret
  exact ⟨rfl, rfl⟩
set_option maxHeartbeats 400000 in
theorem len_any {g : Nat} {ps : List KV} {K : Nat → Prop} (w : World) (h : Md g ps K w) : Calls Try.prog 25 #[.pointer (some ⟨g, 0, none⟩)] w fun r w' => r = .returned (.int .i64 (ps.length : Nat)) ∧ w' = w := by
  obtain ⟨F, v, es, h⟩ := h
  obtain ⟨a, c, rfl, hr⟩ := h.rp
  have R := hide (rising_any g a es.length c w h.hd)
  rw [h.len]
  clear h hr
  go_enter Try.func25, Try.ntmps25
  go_wp2_with fail
  refine R.out.mono ?_
  rintro e w1 ⟨rfl, hw⟩
  subst hw
  go_wp2
  go_ret
  exact ⟨rfl, rfl⟩
set_option maxHeartbeats 400000 in
theorem rank_any {g : Nat} {ps : List KV} {K : Nat → Prop} (ka : Option Addr) (kc : Nat) (k : List Int) (w : World) (h : Md g ps K w) (ht : Rd w ka k) :
    Calls Try.prog 29 #[.pointer (some ⟨g, 0, none⟩), .slice ka k.length kc] w fun r w' => r = .returned (.int .i64 (rankM k ps : Nat)) ∧ Below w.heap.size w w' := by
  have S := hide (place_any ka kc k w h ht)
  generalize rankM k ps = rk at S ⊢
  generalize isIn k ps = ii at S
  clear ht h
  go_enter Try.func29, Try.ntmps29
  go_wp2_with fail
  refine S.out.mono ?_
  rintro e w2 ⟨rfl, f⟩
  have F := hide f
  clear f
  go_wp2
  go_ret
  exact ⟨rfl, F.out⟩
set_option maxHeartbeats 400000 in
theorem upTo_any {g : Nat} {ps : List KV} {K : Nat → Prop} (ka : Option Addr) (kc : Nat) (k : List Int) (w : World) (h : Md g ps K w) (ht : Rd w ka k) :
    Calls Try.prog 59 #[.pointer (some ⟨g, 0, none⟩), .slice ka k.length kc] w fun r w' => r = .returned (.int .i64 (if isIn k ps then (rankM k ps : Int) + 1 else (rankM k ps : Int))) ∧ Below w.heap.size w w' := by
  have S := hide (place_any ka kc k w h ht)
  have hl := rank_le k ps
  have hl2 : ps.length ≤ 1000000 := by obtain ⟨F, v, es, h⟩ := h; rw [h.len]; exact h.ln
  generalize rankM k ps = rk at S hl ⊢
  generalize isIn k ps = ii at S ⊢
  clear ht h
  cases ii with
  | true =>
    go_enter Try.func59, Try.ntmps59
    go_wp2_with fail
    refine S.out.mono ?_
    rintro e w2 ⟨rfl, f⟩
    have F := hide f
    clear f
    go_wp2
    go_ret
    exact ⟨rfl, F.out⟩
  | false =>
    go_enter Try.func59, Try.ntmps59
    go_wp2_with fail
    refine S.out.mono ?_
    rintro e w2 ⟨rfl, f⟩
    have F := hide f
    clear f
    go_wp2
    go_ret
    exact ⟨rfl, F.out⟩
set_option maxHeartbeats 400000 in
theorem upTo_nil (ka : Option Addr) (kc : Nat) (k : List Int) (w : World) (ht : Rd w ka k) : Calls Try.prog 59 #[.pointer none, .slice ka k.length kc] w fun r w' => r = .returned (.int .i64 0) ∧ Below w.heap.size w w' := by
  have S := hide (place_nil ka kc k w ht)
  clear ht
  go_enter Try.func59, Try.ntmps59
  go_wp2_with fail
  refine S.out.mono ?_
  rintro e w2 ⟨rfl, f⟩
  have F := hide f
  clear f
  go_wp2
  go_ret
  exact ⟨rfl, F.out⟩
/-- The n-th pair's cells. -/
theorem MdF.cells {g : Nat} {ps : List KV} {K : Nat → Prop} {w : World} {F : Nat → Prop} {v : Value} {es : List Ent} (h : MdF g ps K w F v es) {i : Nat} {p : KV} (hp : ps[i]? = some p) :
    ∃ b c e, v = .slice (some ⟨b, 0, none⟩) es.length c ∧ es[i]? = some e ∧ e.kv = p ∧ i < es.length ∧ w.cell? ⟨b, i * 2, none⟩ = some (.slice e.a e.k.length e.c) ∧ w.cell? ⟨b, i * 2 + 1, none⟩ = some (.int .u64 e.v) := by
  rw [h.at] at hp
  obtain ⟨e, he, hk⟩ := Option.map_eq_some_iff.1 hp
  obtain ⟨a, c, rfl, hr⟩ := h.rp
  have hi := (List.getElem?_eq_some_iff.1 he).1
  obtain ⟨b, cap, e2⟩ := owns_slice h.row (by omega)
  simp only [Value.slice.injEq] at e2
  obtain ⟨rfl, -, rfl⟩ := e2
  obtain ⟨b', off, ea, c0, c1⟩ := hr.cells he
  simp only [Option.some.injEq, Addr.mk.injEq] at ea
  obtain ⟨rfl, rfl, -⟩ := ea
  rw [Nat.zero_add] at c0 c1
  exact ⟨b, c, e, rfl, he, hk, hi, c0, c1⟩
set_option maxHeartbeats 400000 in
theorem get_any {g : Nat} {ps : List KV} {K : Nat → Prop} (ka : Option Addr) (kc : Nat) (k : List Int) (w : World) (h : Md g ps K w) (ht : Rd w ka k) :
    Calls Try.prog 32 #[.pointer (some ⟨g, 0, none⟩), .slice ka k.length kc] w fun r w' => r = .returned (.tuple #[.int .u64 (valO (findM k ps)), .bool (isIn k ps)]) ∧ Below w.heap.size w w' := by
  have S := hide (place_any ka kc k w h ht)
  cases hi : isIn k ps with
  | true =>
    obtain ⟨u, hu⟩ := isIn_true hi
    have hv : Hid (valO (findM k ps) = u) := by show _ = _; unfold findM; rw [if_pos hi, hu]; rfl
    rw [hi] at S
    obtain ⟨F0, v, es, h⟩ := h
    obtain ⟨b, c, e, rfl, he, hk, hil, c0, c1⟩ := h.cells hu
    have hev : e.v = u := congrArg Prod.snd hk
    rw [hev] at c1
    have hd := h.hd
    have hgl := hd.lt
    have hbl := World.block_lt_of_cell? w _ c1
    have d0 := fun w' (f : Below w.heap.size w w') => (hd.below f hgl).cell 0
    have d1 := fun w' (f : Below w.heap.size w w') => (f.cell (p := ⟨b, rankM k ps * 2 + 1, none⟩) hbl).trans c1
    have D0 := hide d0
    have D1 := hide d1
    have hln := h.ln
    generalize rankM k ps = rk at S hil D1
    clear ht h hu he hk hev hd c0 c1 d0 d1 hi
    go_enter Try.func32, Try.ntmps32
    go_wp2_with fail
    refine S.out.mono ?_
    rintro e w2 ⟨rfl, f⟩
    have F := hide f
    have e0 := D0.out _ f
    have e1 := D1.out _ f
    simp only [List.getElem?_cons_zero] at e0
    clear f
    go_wp2
    go_ret2
    refine ⟨?_, F.out⟩
    rw [hv.out]
    rfl
  | false =>
    have hv : Hid (valO (findM k ps) = 0) := by show _ = _; unfold findM; rw [hi]; rfl
    rw [hi] at S
    generalize rankM k ps = rk at S
    clear ht h hi
    go_enter Try.func32, Try.ntmps32
    go_wp2_with fail
    refine S.out.mono ?_
    rintro e w2 ⟨rfl, f⟩
    have F := hide f
    clear f
    go_wp2
    go_ret2
    refine ⟨?_, F.out⟩
    rw [hv.out]
    rfl
end Go.Proofs.Ytahlbebkcoofkaa
