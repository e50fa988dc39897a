/- Lists of pairs that are answered: all in memory of their own. -/
import Derived.Test.YtnedcoomldmhhaaMd8
namespace Go.Proofs.Ytnedcoomldmhhaa
set_option maxRecDepth 20000
open Go.RowKit Go.Sort
set_option linter.unusedVariables false

def zE : Ent := ⟨none, 0, [], 0⟩
theorem made_pairs (n : Nat) : (madeCells #[.slice none 0 0, .int .u64 0] (n * 2)).toList = flat Ent.cells (List.replicate n zE) := by
  apply List.ext_getElem?
  intro j
  by_cases hj : j < n * 2
  · have h1 : (List.replicate n zE)[j / 2]? = some zE := by rw [List.getElem?_replicate, if_pos (by omega)]
    have h2 := flat_get Ent.cells_length (List.replicate n zE) (j / 2) zE (j % 2) h1 (by omega)
    rw [show j / 2 * 2 + j % 2 = j by omega] at h2
    rw [h2]
    have h3 : j % 2 = 0 ∨ j % 2 = 1 := by omega
    rcases h3 with h3 | h3 <;> simp [madeCells, hj, h3, zE, Ent.cells]
  · rw [List.getElem?_eq_none (by simp [madeCells]; omega), List.getElem?_eq_none (by rw [flat_length Ent.cells_length]; simp; omega)]
theorem info_pair' : (Try.prog.info? 47).map (fun i => (i.zero, i.size, i.bytes)) = some (some (.agg #[.slice none 0 0, .int .u64 0]), 2, 32) := by kernel_rfl
theorem info_pair : ∃ i, Try.prog.info? 47 = some i ∧ i.zero = some (.agg #[.slice none 0 0, .int .u64 0]) ∧ i.size = 2 ∧ i.bytes = 32 := info_of info_pair'
theorem make_pairs (w : World) (kl kc : IntKind) (l c : Int) (n : Nat) (hl : l = n) (hc : c = n) (hb : n ≤ 100000000) :
    ∃ w', (Instr.makeSlice 26 (.int kl l) (.int kc c)).run Try.prog w = .ok (.slice (some ⟨w.heap.size, 0, none⟩) n n) w' ∧
      Blk w' w.heap.size 47 (flat Ent.cells (List.replicate n zE)) ∧ Below w.heap.size w w' ∧ w'.heap.size = w.heap.size + 1 := by
  obtain ⟨i, h1, h2, h3, h4⟩ := info_pair
  subst hl hc
  have hr := run_make (P := Try.prog) w 26 47 i _ Try.underlying26 h1 h2 kl kc n n (by omega) (by omega) (by rw [h4]; omega) (by omega)
  simp only [Int.toNat_natCast, h3] at hr
  refine ⟨_, hr, ?_, (Below.refl _ _).alloc (Nat.le_refl _) _, by simp⟩
  unfold Blk
  rw [heap_alloc_new]
  have := made_pairs n
  rw [← this]
  rfl

/-- Pairs whose keys lie each in a block of its own. -/
structure Own (B : Nat) (w : World) (es : List Ent) : Prop where
  ks : ∀ e ∈ es, ∃ b, e.a = some ⟨b, 0, none⟩ ∧ B ≤ b ∧ Blk w b 5 (u8s e.k) ∧ e.c = e.k.length ∧ IsBytes e.k ∧ e.k.length ≤ 1000000 ∧ 0 ≤ e.v ∧ e.v ≤ 18446744073709551615
  ds : es.Pairwise (fun e f => e.a ≠ f.a)
theorem Own.below {B : Nat} {w w' : World} {es : List Ent} (h : Own B w es) (f : Below w.heap.size w w') : Own B w' es :=
  ⟨fun e he => by obtain ⟨b, h1, h2, h3, h4⟩ := h.ks e he; exact ⟨b, h1, h2, h3.below f h3.lt, h4⟩, h.ds⟩
theorem Own.same {B : Nat} {w w' : World} {es : List Ent} (h : Own B w es) (g : Nat) (e0 : TypeId) (cur : List Value) (hg : Blk w g e0 cur) (he : e0 ≠ 5) (hs : ∀ k, k ≠ g → k < w.heap.size → w'.heap[k]? = w.heap[k]?) : Own B w' es :=
  ⟨fun e he' => by
    obtain ⟨b, h1, h2, h3, h4⟩ := h.ks e he'
    exact ⟨b, h1, h2, (hs b (fun hb => by subst hb; exact blk_apart hg h3 he rfl) h3.lt).trans h3, h4⟩, h.ds⟩
theorem Own.rd {B : Nat} {w : World} {es : List Ent} (h : Own B w es) {e : Ent} (he : e ∈ es) : Rd w e.a e.k := by
  obtain ⟨b, h1, h2, h3, h4, h5, h6, _⟩ := h.ks e he
  rw [h1]
  exact blk_rd h3 h5 (by unfold maxLen; omega)
/-- A list of pairs of the call's own. -/
structure Lst (B : Nat) (w : World) (v : Value) (es : List Ent) : Prop where
  row : w.ownsRow B 47 2 v es.length (flat Ent.cells es)
  own : Own B w es
  ln : es.length ≤ 1000000
theorem Lst.below {B : Nat} {w w' : World} {v : Value} {es : List Ent} (h : Lst B w v es) (f : Below w.heap.size w w') : Lst B w' v es := ⟨h.row.below f (Nat.le_refl _), h.own.below f, h.ln⟩
theorem Lst.rp {B : Nat} {w : World} {v : Value} {es : List Ent} (h : Lst B w v es) : ∃ a c, v = .slice a es.length c ∧ Rp w a es :=
  owns_rp h.row (fun e he => ⟨h.own.rd he, by obtain ⟨b, _, _, _, _, _, _, h7⟩ := h.own.ks e he; exact h7⟩) h.ln
theorem Lst.down {B B' : Nat} {w : World} {v : Value} {es : List Ent} (h : Lst B w v es) (hB : B' ≤ B) : Lst B' w v es := by
  refine ⟨⟨h.row.1, ?_⟩, ⟨fun e he => ?_, h.own.ds⟩, h.ln⟩
  · rcases h.row.2 with h | ⟨g, cap, cur, h1, h2, h3⟩
    · exact .inl h
    · exact .inr ⟨g, cap, cur, h1, by omega, h3⟩
  · obtain ⟨b, h1, h2, h3⟩ := h.own.ks e he
    exact ⟨b, h1, by omega, h3⟩

theorem flat_putE (es : List Ent) (i : Nat) (t : Ent) (hi : i < es.length) : ((flat Ent.cells es).set (i * 2) (.slice t.a t.k.length t.c)).set (i * 2 + 1) (.int .u64 t.v) = flat Ent.cells (es.set i t) := by
  obtain ⟨r, hr⟩ : ∃ r, es[i]? = some r := ⟨es[i], List.getElem?_eq_getElem hi⟩
  have e1 := flat_set Ent.cells_length es i r ⟨t.a, t.c, t.k, r.v⟩ 0 (.slice t.a t.k.length t.c) hr (by omega) rfl
  simp only [Nat.add_zero] at e1
  rw [e1, flat_set Ent.cells_length (es.set i ⟨t.a, t.c, t.k, r.v⟩) i _ t 1 (.int .u64 t.v) (List.getElem?_set_self hi) (by omega) rfl, List.set_set]
theorem row_cells {w : World} {b : Nat} {es : List Ent} {rest : List Value} (h : Blk w b 47 (flat Ent.cells es ++ rest)) {i : Nat} {e : Ent} (he : es[i]? = some e) : w.cell? ⟨b, i * 2, none⟩ = some (.slice e.a e.k.length e.c) ∧ w.cell? ⟨b, i * 2 + 1, none⟩ = some (.int .u64 e.v) := by
  have hi : i < es.length := (List.getElem?_eq_some_iff.1 he).1
  refine ⟨?_, ?_⟩
  · rw [h.cell, List.getElem?_append_left (by rw [flat_length Ent.cells_length]; omega)]
    exact flat_get Ent.cells_length es i e 0 he (by omega)
  · rw [h.cell, List.getElem?_append_left (by rw [flat_length Ent.cells_length]; omega)]
    exact flat_get Ent.cells_length es i e 1 he (by omega)
theorem row_put {w : World} {b : Nat} {es : List Ent} {rest : List Value} (h : Blk w b 47 (flat Ent.cells es ++ rest)) (i : Nat) (t : Ent) (hi : i < es.length) : Blk ((w.setCell ⟨b, i * 2, none⟩ (.slice t.a t.k.length t.c)).setCell ⟨b, i * 2 + 1, none⟩ (.int .u64 t.v)) b 47 (flat Ent.cells (es.set i t) ++ rest) := by
  have := (h.set (i * 2) (.slice t.a t.k.length t.c)).set (i * 2 + 1) (.int .u64 t.v)
  rwa [List.set_append_left _ _ (by rw [flat_length Ent.cells_length]; omega), List.set_append_left _ _ (by rw [List.length_set, flat_length Ent.cells_length]; omega), flat_putE es i t hi] at this
theorem set2_other (w : World) (b o o' : Nat) (x y : Value) (k : Nat) (h : k ≠ b) : ((w.setCell ⟨b, o, none⟩ x).setCell ⟨b, o', none⟩ y).heap[k]? = w.heap[k]? :=
  (Below.heap_setCell _ ⟨b, o', none⟩ _ _ h).trans (Below.heap_setCell _ ⟨b, o, none⟩ _ _ h)
/-- One pair more. -/
theorem Own.snoc {B : Nat} {w : World} {es : List Ent} (h : Own B w es) (g : Nat) (k : List Int) (v : Int) (hg : Blk w g 5 (u8s k)) (hB : B ≤ g) (hb : IsBytes k) (hk : k.length ≤ 1000000) (hv : 0 ≤ v ∧ v ≤ 18446744073709551615) (hn : ∀ e ∈ es, e.a ≠ some ⟨g, 0, none⟩) : Own B w (es ++ [⟨some ⟨g, 0, none⟩, k.length, k, v⟩]) := by
  refine ⟨fun e he => ?_, List.pairwise_append.2 ⟨h.ds, List.pairwise_singleton _ _, fun e he f hf => ?_⟩⟩
  · rcases List.mem_append.1 he with he | he
    · exact h.ks e he
    · simp at he; subst he
      exact ⟨g, rfl, hB, hg, rfl, hb, hk, hv⟩
  · simp at hf; subst hf; exact hn e he

set_option maxHeartbeats 2000000 in
theorem copies_any (es : List Ent) (a : Option Addr) (c : Nat) (w : World) (h : Rp w a es) (hk : ∀ e ∈ es, e.k.length ≤ 1000000) :
    Calls Try.prog 53 #[.slice a es.length c] w fun r w' => ∃ v fs, r = .returned v ∧ Lst w.heap.size w' v fs ∧ fs.map Ent.kv = es.map Ent.kv ∧ Below w.heap.size w w' := by
  have hn := h.1
  obtain ⟨w1, r1, b1, f1, s1⟩ := make_pairs w .i64 .i64 es.length es.length es.length rfl rfl (by omega)
  have H := hide h
  have HK := hide hk
  have B1 := hide b1
  have F1 := hide f1
  clear h hk b1 f1 s1
  go_enter Try.func53, Try.ntmps53
  go_wp2_with fail
  go_loopw [11] (fun vi wr => ∃ (i : Nat) (ds : List Ent), vi = .int .i64 i ∧ i ≤ es.length ∧ ds.length = i ∧ Hid (ds.map Ent.kv = (es.take i).map Ent.kv) ∧ Hid (Below w.heap.size w wr) ∧ Hid (Blk wr w.heap.size 47 (flat Ent.cells (ds ++ List.replicate (es.length - i) zE))) ∧ Hid (Own w.heap.size wr ds)) (fun vi _ => (es.length - intOf vi).toNat)
  case atStart => exact ⟨0, [], rfl, by omega, rfl, rfl, F1.out, B1.out, ⟨by simp, List.Pairwise.nil⟩⟩
  case round =>
    clear F1 B1 r1
    obtain ⟨i, ds, rfl, hi, hdl, HD, F, B, O⟩ := hrel
    by_cases hin : i < es.length
    · obtain ⟨e, he⟩ : ∃ e, es[i]? = some e := ⟨es[i], List.getElem?_eq_getElem hin⟩
      have hme := List.mem_of_getElem? he
      obtain ⟨b, off, rfl, c0, c1⟩ := (H.out.below F.out (Nat.le_refl _)).cells he
      have HE := hide he
      clear he
      have fb : Below wr.heap.size wr (wr.alloc (.cells #[.slice e.a e.k.length e.c, .int .u64 e.v] 47 (0, 0))) := (Below.refl _ wr).alloc (Nat.le_refl _) _
      have C := copied_any e _ (((H.out.2.1 e hme).1.below F.out (Nat.le_refl _)).below fb (Nat.le_refl _)) (HK.out e hme)
      have FB := hide fb
      have HV := hide ((H.out.2.1 e hme).2)
      have HBK := hide ((H.out.2.1 e hme).1.1)
      have HKL := hide (HK.out e hme)
      clear fb hme
      go_wp2_with fail
      refine C.mono ?_
      rintro r w2 ⟨q, hq, rfl, b2, f2⟩
      have f3 := FB.out.trans (f2.mono (by simp))
      have x2 := B.out.below f3 B.out.lt
      have x3 : Blk w2 w.heap.size 47 (flat Ent.cells (ds ++ List.replicate (es.length - i) zE) ++ []) := by simpa using x2
      obtain ⟨z, hz⟩ : ∃ z, (ds ++ List.replicate (es.length - i) zE)[i]? = some z := ⟨_, List.getElem?_eq_getElem (by simp; omega)⟩
      obtain ⟨k0, k1⟩ := row_cells x3 hz
      have k2 := x2.frozen (i * 2)
      have k3 := x2.frozen (i * 2 + 1)
      have P3 := row_put x3 i ⟨some ⟨q, 0, none⟩, e.k.length, e.k, e.v⟩ (by simp; omega)
      have hset : (ds ++ List.replicate (es.length - i) zE).set i ⟨some ⟨q, 0, none⟩, e.k.length, e.k, e.v⟩ = (ds ++ [⟨some ⟨q, 0, none⟩, e.k.length, e.k, e.v⟩]) ++ List.replicate (es.length - (i + 1)) zE := by
        rw [show es.length - i = (es.length - (i + 1)) + 1 by omega, List.replicate_succ, List.set_append_right _ _ (by omega), hdl, Nat.sub_self]
        simp
      rw [hset, List.append_nil] at P3
      have O3 : Own w.heap.size w2 (ds ++ [⟨some ⟨q, 0, none⟩, e.k.length, e.k, e.v⟩]) := (O.out.below f3).snoc q e.k e.v b2 (by have := F.out.size; simp at hq; omega) HBK.out HKL.out HV.out (fun d hd hda => by
        obtain ⟨b', h1, _, h3, _⟩ := O.out.ks d hd
        rw [h1] at hda
        simp only [Option.some.injEq, Addr.mk.injEq] at hda
        have := h3.lt
        simp at hq
        omega)
      have O4 := hide (O3.same w.heap.size _ _ x2 (by decide) (fun k hk _ => set2_other w2 w.heap.size (i * 2) (i * 2 + 1) (.slice (some ⟨q, 0, none⟩) e.k.length e.k.length) (.int .u64 e.v) k hk))
      have F4 : Hid (Below w.heap.size w ((w2.setCell ⟨w.heap.size, i * 2, none⟩ (.slice (some ⟨q, 0, none⟩) e.k.length e.k.length)).setCell ⟨w.heap.size, i * 2 + 1, none⟩ (.int .u64 e.v))) :=
        ((F.out.trans (f3.mono F.out.size)).setCell (by show _ ≤ w.heap.size; omega) _).setCell (by show _ ≤ w.heap.size; omega) _
      have B4 := hide P3
      clear f2 f3 x2 x3 P3 hset O3 b2 hz C F B O FB
      go_wp2
      go_roundw
      case rel =>
        refine ⟨i + 1, _, by go_num, by omega, by simp [hdl], ?_, F4, B4, O4⟩
        show _ = _
        have h9 := HD.out
        rw [List.take_succ_eq_append_getElem hin, List.map_append, List.map_append, h9]
        have := HE.out
        rw [List.getElem?_eq_getElem hin] at this
        cases this
        rfl
      case measure => simp [intOf]; omega
    · obtain rfl : i = es.length := by omega
      go_wp2
      go_ret
      have hb := B.out
      rw [Nat.sub_self] at hb
      simp only [List.replicate_zero, List.append_nil] at hb
      refine ⟨_, ds, rfl, ⟨⟨by rw [flat_length Ent.cells_length], .inr ⟨w.heap.size, es.length, _, by rw [hdl]; rfl, Nat.le_refl _, hb, by omega, by unfold maxLen; omega, ?_, ?_⟩⟩, O.out, by omega⟩, ?_, F.out⟩
      · simp [flat_length Ent.cells_length, hdl]
      · rw [List.take_of_length_le (by simp [flat_length Ent.cells_length])]
      · have := HD.out
        rwa [List.take_length] at this
end Go.Proofs.Ytnedcoomldmhhaa
