/- Lists of lists of pairs; byFirst; Split. -/
import Derived.Test.YtnlhocbpoommjaaSh9
import Derived.Test.YtnlhocbpoommjaaPut8
namespace Go.Proofs.Ytnlhocbpoommjaa
open Go.RowKit Go.Sort
set_option linter.unusedVariables false
set_option maxRecDepth 20000

theorem info_row' : (Try.prog.info? 22).map (fun i => (i.zero, i.size, i.bytes)) = some (some (.slice none 0 0), 1, 24) := by kernel_rfl
theorem info_row : ∃ i, Try.prog.info? 22 = some i ∧ i.zero = some (.slice none 0 0) ∧ i.size = 1 ∧ i.bytes = 24 := info_of info_row'
/-- A list of lists of pairs, all of the call's own. -/
structure LL (B : Nat) (w : World) (v : Value) (gs : List (Value × List Ent)) : Prop where
  row : w.ownsRow B 22 1 v gs.length (gs.map Prod.fst)
  ls : ∀ x ∈ gs, Lst B w x.1 x.2
  ds : gs.Pairwise (fun x y => ∀ k, x.1.ownBlock = some k → y.1.ownBlock ≠ some k)
  ln : gs.length ≤ 1000000
theorem LL.below {B : Nat} {w w' : World} {v : Value} {gs : List (Value × List Ent)} (h : LL B w v gs) (f : Below w.heap.size w w') : LL B w' v gs :=
  ⟨h.row.below f (Nat.le_refl _), fun x hx => (h.ls x hx).below f, h.ds, h.ln⟩
theorem LL.down {B B' : Nat} {w : World} {v : Value} {gs : List (Value × List Ent)} (h : LL B w v gs) (hB : B' ≤ B) : LL B' w v gs :=
  ⟨owns_base h.row hB, fun x hx => (h.ls x hx).down hB, h.ds, h.ln⟩
theorem LL.nil (B : Nat) (w : World) : LL B w (.slice none 0 0) [] := ⟨World.ownsRow_nil _ _ _ _, by simp, List.Pairwise.nil, by simp⟩
theorem Lst.nil (B : Nat) (w : World) : Lst B w (.slice none 0 0) [] := ⟨World.ownsRow_nil _ _ _ _, ⟨by simp, List.Pairwise.nil⟩, by simp⟩
/-- Where no block but one that is of neither kind has turned. -/
theorem Lst.same {B : Nat} {w w' : World} {v : Value} {es : List Ent} (h : Lst B w v es) (hs : ∀ k, k < w.heap.size → (v.ownBlock = some k ∨ ∃ cur, Blk w k 5 cur) → w'.heap[k]? = w.heap[k]?) : Lst B w' v es :=
  ⟨owns_same h.row (fun k hk => hs k (h.row.lt k hk).2 (.inl hk)), ⟨fun e he => by
    obtain ⟨b, h1, h2, h3, h4⟩ := h.own.ks e he
    exact ⟨b, h1, h2, (hs b h3.lt (.inr ⟨_, h3⟩)).trans h3, h4⟩, h.own.ds⟩, h.ln⟩
/-- append(lists, nil). -/
theorem ll_none {B : Nat} {w : World} {v : Value} {gs : List (Value × List Ent)} (h : LL B w v gs) (hB : B ≤ w.heap.size) (hn : gs.length < 1000000) :
    ∃ a' c' w', (Builtin.append_ #[71, 71] 71 #[v, .slice (some ⟨w.heap.size, 0, none⟩) 1 1]).run Try.prog (w.alloc (.cells #[.slice none 0 0] 22)) = .ok (.slice a' (gs.length + 1) c') w' ∧
      LL B w' (.slice a' (gs.length + 1) c') (gs ++ [(.slice none 0 0, [])]) ∧ Below B w w' ∧ (∀ k, k < w.heap.size → v.ownBlock ≠ some k → w'.heap[k]? = w.heap[k]?) := by
  obtain ⟨i, h1, h2, h3, h4⟩ := info_row
  obtain ⟨v', w', r, o, g, ho⟩ := append_lit (P := Try.prog) w B 71 22 i _ 1 24 Try.underlying71 h1 h2 h3 h4 rfl (by omega) v gs.length _ h.row [.slice none 0 0] rfl (by intro u hu; simp at hu; subst hu; rfl) (by omega) (by omega) hB
  obtain ⟨a', c', rfl⟩ := owns_slice' o
  have f1 : Below B w (w.alloc (.cells #[.slice none 0 0] 22)) := (Below.refl _ _).alloc hB _
  refine ⟨a', c', w', r, ⟨by simpa using o, fun x hx => ?_, ?_, by simp; omega⟩, f1.grown g (by have := f1.size; omega) (fun k hk => (h.row.lt k hk).1), fun k hk hne => (g.block k (by simp; omega) (fun e => hne e.symm)).trans (Below.heap_alloc w _ k hk)⟩
  · rcases List.mem_append.1 hx with hx | hx
    · have hl := h.ls x hx
      refine hl.same (fun k hk hc => ?_)
      have hk1 : k < (w.alloc (.cells #[.slice none 0 0] 22)).heap.size := by simp; omega
      rw [g.block k hk1 (fun e => ?_)]
      · exact Below.heap_alloc w _ k hk
      · rcases hc with hc | ⟨cur, hc⟩
        · rcases hl.row.2 with ⟨e0, _⟩ | ⟨b, cap, cur, e0, _, hg, _⟩
          · rw [e0] at hc; simp [Value.ownBlock] at hc
          · have hbk : b = k := by rw [e0] at hc; simpa [Value.ownBlock] using hc
            subst hbk
            have hg' : Blk w b 54 cur.toList := by unfold Blk; exact hg
            exact owns_apart h.row hg' (by decide) e.symm
        · exact owns_apart h.row hc (by decide) e.symm
    · simp at hx; subst hx; exact Lst.nil B w'
  · rw [List.pairwise_append]
    refine ⟨h.ds, List.pairwise_singleton _ _, fun x _ y hy k _ => ?_⟩
    simp at hy; subst hy; simp [Value.ownBlock]
/-- lists[at] = append(lists[at], a pair), at the last one. -/
theorem ll_push {B : Nat} {w6 : World} {b c : Nat} {x : Value} {gs : List (Value × List Ent)} {fs : List Ent} (h : LL B w6 (.slice (some ⟨b, 0, none⟩) (gs.length + 1) c) (gs ++ [(x, fs)])) (hB : B ≤ w6.heap.size) (q : Nat) (k : List Int) (u : Int) (bq : Blk w6 q 5 (u8s k)) (hq : B ≤ q) (hb : IsBytes k) (hk : k.length ≤ 1000000) (hv : 0 ≤ u ∧ u ≤ 18446744073709551615) (hn : ∀ e ∈ fs, e.a ≠ some ⟨q, 0, none⟩) (hl : fs.length < 1000000) :
    ∃ a' c' w', (Builtin.append_ #[22, 22] 22 #[x, .slice (some ⟨w6.heap.size, 0, none⟩) 1 1]).run Try.prog (w6.alloc (.cells #[.slice (some ⟨q, 0, none⟩) k.length k.length, .int .u64 u] 54)) = .ok (.slice a' (fs.length + 1) c') w' ∧
      w'.cell? ⟨b, gs.length, none⟩ = some x ∧ w'.frozen? ⟨b, gs.length, none⟩ = false ∧
      LL B (w'.setCell ⟨b, gs.length, none⟩ (.slice a' (fs.length + 1) c')) (.slice (some ⟨b, 0, none⟩) (gs.length + 1) c) (gs ++ [(.slice a' (fs.length + 1) c', fs ++ [⟨some ⟨q, 0, none⟩, k.length, k, u⟩])]) ∧ Below B w6 (w'.setCell ⟨b, gs.length, none⟩ (.slice a' (fs.length + 1) c')) := by
  have l : Lst B w6 x fs := h.ls (x, fs) (by simp)
  obtain ⟨i, h1, h2, h3, h4⟩ := info_pair
  obtain ⟨v', w', r, o, g, ho⟩ := append_lit (P := Try.prog) w6 B 22 54 i _ 2 32 Try.underlying22 h1 h2 h3 h4 rfl (by omega) x fs.length _ l.row [.slice (some ⟨q, 0, none⟩) k.length k.length, .int .u64 u] rfl (by intro u hu; simp at hu; rcases hu with rfl | rfl <;> rfl) (by omega) (by omega) hB
  obtain ⟨a', c', rfl⟩ := owns_slice' o
  -- the outer row
  obtain ⟨cur, hcur, hc1⟩ : ∃ cur : List Value, Blk w6 b 22 cur ∧ cur.take (gs.length + 1) = gs.map Prod.fst ++ [x] ∧ c * 1 = cur.length ∧ gs.length + 1 ≤ c ∧ B ≤ b ∧ c ≤ maxLen := by
    rcases h.row.2 with ⟨e0, _⟩ | ⟨b', c', cur, e0, hb', hg, g1, g2, g3, g4⟩
    · simp at e0
    · simp only [Value.slice.injEq, Option.some.injEq, Addr.mk.injEq] at e0
      obtain ⟨⟨rfl, -⟩, -, rfl⟩ := e0
      refine ⟨cur.toList, hg, ?_, ?_, ?_, hb', g2⟩
      · simpa using g4
      · simpa using g3.symm
      · simpa using g1
  obtain ⟨hc1, hc2, hc3, hc4, hc5⟩ := hc1
  have hxb : x.ownBlock ≠ some b := owns_apart l.row hcur (by decide)
  have s1 : (w6.alloc (.cells #[.slice (some ⟨q, 0, none⟩) k.length k.length, .int .u64 u] 54)).heap.size = w6.heap.size + 1 := by simp
  have keep0 : ∀ z, z < w6.heap.size → x.ownBlock ≠ some z → w'.heap[z]? = w6.heap[z]? := fun z hz hne => by
    rw [g.block z (by omega) (fun e => hne e.symm)]
    exact Below.heap_alloc w6 _ z hz
  have hb' : Blk w' b 22 cur := (keep0 b hcur.lt hxb).trans hcur
  have hxB : ∀ z, x.ownBlock = some z → B ≤ z := fun z hz => (l.row.lt z hz).1
  have fb : Below B w6 w' := by
    have f1 : Below B w6 (w6.alloc (.cells #[.slice (some ⟨q, 0, none⟩) k.length k.length, .int .u64 u] 54)) := (Below.refl _ _).alloc hB _
    exact f1.grown g (by have := f1.size; omega) hxB
  have hcg : cur[gs.length]? = some x := by
    have e1 : (cur.take (gs.length + 1))[gs.length]? = some x := by rw [hc1]; simp
    rwa [List.getElem?_take_of_lt (by omega)] at e1
  have keep1 : ∀ z, z < w6.heap.size → x.ownBlock ≠ some z → z ≠ b → (w'.setCell ⟨b, gs.length, none⟩ (.slice a' (fs.length + 1) c')).heap[z]? = w6.heap[z]? := fun z hz h1 h2 => (Below.heap_setCell _ ⟨b, gs.length, none⟩ _ _ h2).trans (keep0 z hz h1)
  have keepq : ∀ z cur', Blk w6 z 5 cur' → Blk (w'.setCell ⟨b, gs.length, none⟩ (.slice a' (fs.length + 1) c')) z 5 cur' := fun z cur' hz =>
    (keep1 z hz.lt (owns_apart l.row hz (by decide)) (fun e => by subst e; exact blk_apart hcur hz (by decide) rfl)).trans hz
  have hset : Blk (w'.setCell ⟨b, gs.length, none⟩ (.slice a' (fs.length + 1) c')) b 22 (cur.set gs.length (.slice a' (fs.length + 1) c')) := hb'.set _ _
  refine ⟨a', c', w', r, (hb'.cell _).trans hcg, hb'.frozen _, ⟨?_, ?_, ?_, by have := h.ln; simpa using this⟩, fb.setCell hc4 _⟩
  · refine ⟨by simp, .inr ⟨b, c, _, by simp, hc4, hset, by simp; omega, hc5, by simp; omega, ?_⟩⟩
    simp only [List.length_append, List.length_cons, List.length_nil, Nat.zero_add, Nat.mul_one, List.map_append, List.map_cons, List.map_nil]
    have hlen : (gs.map Prod.fst).length = gs.length := by simp
    have hlt : gs.length < cur.length := by omega
    have e2 : cur.take gs.length = gs.map Prod.fst := by
      have e3 : (cur.take (gs.length + 1)).take gs.length = gs.map Prod.fst := by rw [hc1, List.take_append_of_le_length (by simp), List.take_of_length_le (by simp)]
      rwa [List.take_take, Nat.min_eq_left (by omega)] at e3
    rw [List.set_eq_take_append_cons_drop, if_pos hlt, e2]
    rw [show gs.map Prod.fst ++ Value.slice a' (fs.length + 1) c' :: cur.drop (gs.length + 1) = (gs.map Prod.fst ++ [Value.slice a' (fs.length + 1) c']) ++ cur.drop (gs.length + 1) by simp, List.take_append_of_le_length (by simp), List.take_of_length_le (by simp)]
  · intro y hy
    rcases List.mem_append.1 hy with hy | hy
    · have hly := h.ls y (by simp [hy])
      have hne : ∀ z, y.1.ownBlock = some z → x.ownBlock ≠ some z := by
        have := (List.pairwise_append.1 h.ds).2.2 y hy (x, fs) (by simp)
        exact this
      refine hly.same (fun z hz hc => ?_)
      rcases hc with hc | ⟨cur', hc⟩
      · refine keep1 z hz (hne z hc) (fun e => ?_)
        subst e
        exact owns_apart hly.row hcur (by decide) hc
      · exact keep1 z hz (owns_apart l.row hc (by decide)) (fun e => by subst e; exact blk_apart hcur hc (by decide) rfl)
    · simp only [List.mem_singleton] at hy
      subst hy
      refine ⟨?_, ?_, by simp; omega⟩
      · have e1 : flat Ent.cells (fs ++ [(⟨some ⟨q, 0, none⟩, k.length, k, u⟩ : Ent)]) = flat Ent.cells fs ++ [.slice (some ⟨q, 0, none⟩) k.length k.length, .int .u64 u] := by rw [flat_append]; rfl
        show World.ownsRow _ _ _ _ _ (fs ++ [_]).length _
        rw [e1]
        have o2 : (w'.setCell ⟨b, gs.length, none⟩ (.slice a' (fs.length + 1) c')).ownsRow B 54 2 (.slice a' (fs.length + 1) c') (fs.length + 1) (flat Ent.cells fs ++ [.slice (some ⟨q, 0, none⟩) k.length k.length, .int .u64 u]) := by
          refine owns_same o (fun z hz => Below.heap_setCell _ ⟨b, gs.length, none⟩ _ _ ?_)
          intro e
          subst e
          exact owns_apart o hb' (by decide) hz
        simpa using o2
      · have own2 : Own B (w'.setCell ⟨b, gs.length, none⟩ (.slice a' (fs.length + 1) c')) fs :=
          ⟨fun e he => by
            obtain ⟨bb, h1, h2, h3, h4⟩ := l.own.ks e he
            exact ⟨bb, h1, h2, keepq bb _ h3, h4⟩, l.own.ds⟩
        exact own2.snoc q k u (keepq q _ bq) hq hb hk hv hn
  · rw [List.pairwise_append]
    refine ⟨(List.pairwise_append.1 h.ds).1, List.pairwise_singleton _ _, fun y hy z hz m hm => ?_⟩
    simp only [List.mem_singleton] at hz
    subst hz
    rcases ho with e | e
    · rw [e]; exact (List.pairwise_append.1 h.ds).2.2 y hy (x, fs) (by simp) m hm
    · rw [e]
      have := ((h.ls y (by simp [hy])).row.lt m hm).2
      simp; omega
theorem LL.last {B : Nat} {w : World} {al : Option Addr} {cl n : Nat} {x : Value} {gs : List (Value × List Ent)} {fs : List Ent} (h : LL B w (.slice al n cl) (gs ++ [(x, fs)])) : ∃ b ax cx, al = some ⟨b, 0, none⟩ ∧ x = .slice ax fs.length cx ∧ w.cell? ⟨b, gs.length, none⟩ = some x ∧ n = gs.length + 1 ∧ b < w.heap.size := by
  have l : Lst B w x fs := h.ls (x, fs) (by simp)
  obtain ⟨ax, cx, hx⟩ := owns_slice' l.row
  obtain ⟨b, cap, e2⟩ := owns_slice h.row (by simp)
  simp only [Value.slice.injEq] at e2
  obtain ⟨rfl, rfl, rfl⟩ := e2
  have hc := h.row.cellAt gs.length (by simp)
  refine ⟨b, ax, cx, rfl, hx, ?_, by simp, (h.row.lt b rfl).2⟩
  have e3 : ((gs ++ [(x, fs)]).map Prod.fst)[gs.length]? = some x := by simp
  rw [e3] at hc
  exact hc
end Go.Proofs.Ytnlhocbpoommjaa
