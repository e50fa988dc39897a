/- copy and clear over rows of pairs; slices.Insert of one pair. -/
import Derived.Test.YtahlbebkcoofkaaNw9
import Derived.Laws.CopyRow
import Derived.Lib.Overlaps
import Derived.Lib.AppendZerosOnto
namespace Go.Proofs.Ytahlbebkcoofkaa
set_option maxRecDepth 20000
open Go.RowKit Go.Sort
set_option linter.unusedVariables false

theorem run_copy_blk (w : World) (ty : TypeId) (g : Nat) (cur : List Value) (hg : Blk w g 54 cur) (o dLen dCap : Nat) (a : Addr) (sLen sCap : Nat) (cs : List Value) (n : Nat) (hn : Nat.min sLen dLen = n) (hl : cs.length = n * 2)
    (hsrc : ∀ j v, cs[j]? = some v → w.cell? (a.add j) = some v) (hfit : o + cs.length ≤ cur.length) (h1 : ∀ v ∈ cs, v.oneCell' = true) :
    ∃ w', (Builtin.copy_ #[22, 22] ty #[.slice (some ⟨g, o, none⟩) dLen dCap, .slice (some a) sLen sCap]).run Try.prog w = .ok (.int .i64 (n : Int)) w' ∧
      Blk w' g 54 (cur.take o ++ cs ++ cur.drop (o + cs.length)) ∧ w.grownBy w' (some g) ∧ w'.heap.size = w.heap.size := by
  have hlo := run_loadCells_list (P := Try.prog) w a cs hsrc
  have hst := run_storeCells_at Try.prog g o 54 cs 0 cur.toArray w hg (by simpa using hfit) h1
  obtain ⟨i, hi1, hi2, hi3, hi4⟩ := info_pair
  refine ⟨w.setRow g (cur.take o ++ cs ++ cur.drop (o + cs.length)).toArray, ?_, ?_, ⟨rfl, rfl, rfl, by simp [World.setRow], fun k _ hk => setRow_other w g k _ (fun e => hk (by rw [e]))⟩, by simp [World.setRow]⟩
  · rw [hl] at hlo
    simp [Builtin.copy_, run_underlying Try.underlying22, Builtin.lenOf, Builtin.firstCells, sizeOf, typeInfo, hi1, hi3, hn, hlo, hst, goInt]
  · unfold Blk
    rw [setRow_heap w g _ _ 54 _ hg]

/-- One pair's place is cleared. -/
theorem run_clear_blk (w : World) (ty : TypeId) (g : Nat) (cur : List Value) (hg : Blk w g 54 cur) (o c : Nat) (hfit : o + 2 ≤ cur.length) :
    ∃ w', (Builtin.clear_ #[22] ty #[.slice (some ⟨g, o, none⟩) 1 c]).run Try.prog w = .ok (.tuple #[]) w' ∧
      Blk w' g 54 (cur.take o ++ [.slice none 0 0, .int .u64 0] ++ cur.drop (o + 2)) ∧ w.grownBy w' (some g) ∧ w'.heap.size = w.heap.size := by
  have hst := run_storeCells_at Try.prog g o 54 [.slice none 0 0, .int .u64 0] 0 cur.toArray w hg (by simpa using hfit) (by intro v hv; simp at hv; rcases hv with rfl | rfl <;> rfl)
  refine ⟨w.setRow g (cur.take o ++ [Value.slice none 0 0, Value.int .u64 0] ++ cur.drop (o + 2)).toArray, ?_, ?_, ⟨rfl, rfl, rfl, by simp [World.setRow], fun k _ hk => setRow_other w g k _ (fun e => hk (by rw [e]))⟩, by simp [World.setRow]⟩
  · have hz : (Builtin.zeroCells (Value.agg #[.slice none 0 0, .int .u64 0]).cells 1).toList = [.slice none 0 0, .int .u64 0] := by
      simp [Builtin.zeroCells, Value.cells]
      rfl
    have hv : ∀ w, (zeroValue 54).run Try.prog w = .ok (.agg #[.slice none 0 0, .int .u64 0]) w := Try.zeroValue54
    simp [Builtin.clear_, run_underlying Try.underlying22, hv, hz, hst]
  · unfold Blk
    rw [setRow_heap w g _ _ 54 _ hg]
theorem append_grow_pairs (w : World) (ty tx : TypeId) (b n c : Nat) (xs : List Value) (hxs : xs.length = n * 2) (hc : ∀ j u, xs[j]? = some u → w.cell? ⟨b, j, none⟩ = some u) (x : Value) (m : Nat) (news : List Value) (hs : Src Try.prog 2 tx x m news w) (hg : c < n + m) (hb : n + m ≤ 1000000000) :
    ∃ c' w' tail, (Builtin.append_ #[22, tx] ty #[.slice (some ⟨b, 0, none⟩) n c, x]).run Try.prog w = .ok (.slice (some ⟨w.heap.size, 0, none⟩) (n + m) c') w' ∧ n + m ≤ c' ∧ c' ≤ maxLen ∧ tail.length = (c' - (n + m)) * 2 ∧
      Blk w' w.heap.size 54 (xs ++ news ++ tail) ∧ Below w.heap.size w w' ∧ w'.heap.size = w.heap.size + 1 := by
  obtain ⟨i, h1, h2, h3, h4⟩ := info_pair
  have hs' : Src Try.prog i.size tx x m news w := by rw [h3]; exact hs
  have hr := run_append_grow_src (P := Try.prog) w 22 tx ty 54 i _ Try.underlying22 h1 h2 (some ⟨b, 0, none⟩) n c xs
    (by rw [h3]; exact run_firstCells_some w.drew 2 n _ n c xs hxs (fun j u hu => by rw [Addr.add_lit, Nat.zero_add]; exact hc j u hu)) x m news hs' hg (by omega) (growslice_fits (by omega) (by rw [h4]; omega))
  refine ⟨_, _, (Builtin.zeroCells (Value.agg #[.slice none 0 0, .int .u64 0]).cells (grownCap w (n + m) c 54 - (n + m))).toList, hr, grownCap_ge w (n + m) c _, grownCap_le_maxLen w (n + m) c _ (by unfold maxLen; omega), ?_, ?_, ?_, by simp⟩
  · simp [size_zeroCells, Value.cells]
  · unfold Blk
    refine (heap_alloc_new w.drew _).trans ?_
    simp
  · exact ⟨rfl, rfl, rfl, by simp, fun k hk => heap_alloc_old w.drew _ hk⟩

theorem zero_pairs (n : Nat) : (Builtin.zeroCells (Value.agg #[.slice none 0 0, .int .u64 0]).cells n).toList = flat Ent.cells (List.replicate n zE) := by
  rw [← made_pairs n]
  rfl
/-- append of zeros, where there is no room. -/
theorem append_zeros (w : World) (b n c : Nat) (xs : List Value) (hxs : xs.length = n * 2) (hc : ∀ j u, xs[j]? = some u → w.cell? ⟨b, j, none⟩ = some u) (k : Nat) (l : Int) (hl : l = (k : Int)) (h0 : 0 < k) (hg : c < n + k) (hb : n + k ≤ 1000000000) :
    ∃ c' w' tail, (Builtin.append_ #[22, 3] 22 #[.slice (some ⟨b, 0, none⟩) n c, .int .i64 l]).run Try.prog w = .ok (.slice (some ⟨w.heap.size, 0, none⟩) (n + k) c') w' ∧ n + k ≤ c' ∧ c' ≤ maxLen ∧ tail.length = (c' - (n + k)) * 2 ∧
      Blk w' w.heap.size 54 (xs ++ flat Ent.cells (List.replicate k zE) ++ tail) ∧ Below w.heap.size w w' ∧ w'.heap.size = w.heap.size + 1 := by
  obtain ⟨i, h1, h2, h3, h4⟩ := info_pair
  subst hl
  have hr := Lib.run_append_grow_zeros (P := Try.prog) w 22 3 22 54 i _ .i64 .i64 Try.underlying22 Try.underlying3 h1 h2 (some ⟨b, 0, none⟩) n c xs
    (by rw [h3]; exact run_firstCells_some w.drew 2 n _ n c xs hxs (fun j u hu => by rw [Addr.add_lit, Nat.zero_add]; exact hc j u hu)) k h0 (by omega) hg (by omega) (by rw [h4]; omega) (growslice_fits (by omega) (by rw [h4]; omega))
  refine ⟨_, _, (Builtin.zeroCells (Value.agg #[.slice none 0 0, .int .u64 0]).cells (grownCap w (n + k) c 54 - (n + k))).toList, hr, grownCap_ge w (n + k) c _, grownCap_le_maxLen w (n + k) c _ (by unfold maxLen; omega), ?_, ?_, ?_, by simp⟩
  · simp [size_zeroCells, Value.cells]
  · unfold Blk
    refine (heap_alloc_new w.drew _).trans ?_
    rw [← zero_pairs k]
    simp
  · exact ⟨rfl, rfl, rfl, by simp, fun k hk => heap_alloc_old w.drew _ hk⟩

set_option maxHeartbeats 2000000 in
/-- At the end. -/
theorem insert_end (w : World) (base : Nat) (v : Value) (es : List Ent) (e : Ent) (vb : Nat) (h : w.ownsRow base 54 2 v es.length (flat Ent.cells es)) (hv : Blk w vb 54 e.cells) (hn : es.length < 1000000) (hb : base ≤ w.heap.size) :
    Calls Try.prog 46 #[v, .int .i64 (es.length : Nat), .slice (some ⟨vb, 0, none⟩) 1 1] w fun r w' => ∃ v', r = .returned v' ∧ w'.ownsRow base 54 2 v' (es.length + 1) (flat Ent.cells (es ++ [e])) ∧ w.grownBy w' v.ownBlock ∧ (v'.ownBlock = v.ownBlock ∨ v'.ownBlock = some w.heap.size) := by
  have hs : Src Try.prog 2 22 (.slice (some ⟨vb, 0, none⟩) 1 1) 1 e.cells w :=
    Src.ofSlice _ Try.underlying22 _ 1 1 _ rfl (fun j u hu => by rw [Addr.add_lit, Nat.zero_add, hv.cell]; exact hu) (fun u hu => by simp [Ent.cells] at hu; rcases hu with rfl | rfl <;> rfl)
  obtain ⟨v', w', r, o, g, ho, _⟩ := append_pairs w 22 22 base v es.length _ h _ 1 _ hs (by omega) hb
  have O : Hid (w'.ownsRow base 54 2 v' (es.length + 1) (flat Ent.cells (es ++ [e]))) := by
    show World.ownsRow _ _ _ _ _ _ _
    rw [flat_append]
    simpa [flat] using o
  have G := hide g
  have HO := hide ho
  obtain ⟨a, c, rfl⟩ := owns_slice' h
  have hcap : es.length ≤ c ∧ c ≤ 9223372036854775807 := by
    rcases h.2 with ⟨e, h⟩ | ⟨q, cap, cur, e, _, _, h1, h2, _⟩
    · simp only [Value.slice.injEq] at e; omega
    · simp only [Value.slice.injEq] at e; unfold maxLen at h2; omega
  clear o g ho h hs hv
  generalize es.length = n at *
  by_cases hcn : c = n
  · subst hcn
    go_enter Try.func46, Try.ntmps46
    go_wp2_with (at_builtin; refine wpList_append_run rfl _ _ _ _ rfl _ _ _ _ rfl rfl r ?_)
    go_ret
    exact ⟨v', rfl, O.out, G.out, HO.out⟩
  · go_enter Try.func46, Try.ntmps46
    go_wp2_with (at_builtin; refine wpList_append_run rfl _ _ _ _ rfl _ _ _ _ rfl rfl r ?_)
    go_ret
    exact ⟨v', rfl, O.out, G.out, HO.out⟩

set_option maxHeartbeats 4000000 in
set_option maxRecDepth 20000 in
/-- There is room. -/
theorem insert_room (w : World) (b c : Nat) (rest : List Value) (es : List Ent) (e : Ent) (vb i : Nat) (h : Blk w b 54 (flat Ent.cells es ++ rest)) (hr : rest.length = (c - es.length) * 2) (hv : Blk w vb 54 e.cells) (hne : vb ≠ b) (hi : i < es.length) (hc : es.length + 1 ≤ c) (hcm : c ≤ maxLen) (hn : es.length < 1000000) :
    Calls Try.prog 46 #[.slice (some ⟨b, 0, none⟩) es.length c, .int .i64 (i : Nat), .slice (some ⟨vb, 0, none⟩) 1 1] w fun r w' => r = .returned (.slice (some ⟨b, 0, none⟩) (es.length + 1) c) ∧ Blk w' b 54 (flat Ent.cells (es.take i ++ e :: es.drop i) ++ rest.drop 2) ∧ w.grownBy w' (some b) := by
  have hcl : (flat Ent.cells es ++ rest).length = c * 2 := by rw [List.length_append, flat_length Ent.cells_length, hr]; omega
  have hsplit : flat Ent.cells es = flat Ent.cells (es.take i) ++ flat Ent.cells (es.drop i) := by rw [← flat_append, List.take_append_drop]
  have lt1 : (flat Ent.cells (es.take i)).length = i * 2 := by rw [flat_length Ent.cells_length]; simp; omega
  have ld1 : (flat Ent.cells (es.drop i)).length = (es.length - i) * 2 := by rw [flat_length Ent.cells_length]; simp
  have hd : Blk w.drew b 54 (flat Ent.cells es ++ rest) := h
  obtain ⟨w1, r1, b1, g1, s1⟩ := run_copy_blk w.drew 3 b _ hd ((i + 1) * 2) (es.length - i) (c - (i + 1)) ⟨b, i * 2, none⟩ (es.length + 1 - i) (c - i) (flat Ent.cells (es.drop i)) (es.length - i) (by show min _ _ = _; omega) ld1
    (fun j v hj => by
      have hjl := (List.getElem?_eq_some_iff.1 hj).1
      rw [Addr.add_lit, hd.cell, List.getElem?_append_left (by rw [flat_length Ent.cells_length]; omega), hsplit, List.getElem?_append_right (by omega), lt1, Nat.add_sub_cancel_left]
      exact hj) (by rw [hcl, ld1]; omega) (pairs_one _)
  have e1 : (flat Ent.cells es ++ rest).take ((i + 1) * 2) ++ flat Ent.cells (es.drop i) ++ (flat Ent.cells es ++ rest).drop ((i + 1) * 2 + (flat Ent.cells (es.drop i)).length) = (flat Ent.cells es ++ rest).take ((i + 1) * 2) ++ (flat Ent.cells (es.drop i) ++ rest.drop 2) := by
    rw [ld1, show (i + 1) * 2 + (es.length - i) * 2 = (flat Ent.cells es).length + 2 by rw [flat_length Ent.cells_length]; omega, List.drop_append, List.append_assoc]
    simp
  rw [e1] at b1
  have hv1 : Blk w1 vb 54 e.cells := (g1.block vb hv.lt (by simp; exact hne)).trans hv
  obtain ⟨w2, r2, b2, g2, s2⟩ := run_copy_blk w1 3 b _ b1 (i * 2) (es.length + 1 - i) (c - i) ⟨vb, 0, none⟩ 1 1 e.cells 1 (by show min _ _ = _; omega) rfl
    (fun j v hj => by rw [Addr.add_lit, Nat.zero_add, hv1.cell]; exact hj) (by
      have : e.cells.length = 2 := rfl
      simp only [List.length_append, List.length_take, List.length_append] at hcl ⊢
      rw [this]
      omega) (fun u hu => by simp [Ent.cells] at hu; rcases hu with rfl | rfl <;> rfl)
  have e2 : ((flat Ent.cells es ++ rest).take ((i + 1) * 2) ++ (flat Ent.cells (es.drop i) ++ rest.drop 2)).take (i * 2) ++ e.cells ++ ((flat Ent.cells es ++ rest).take ((i + 1) * 2) ++ (flat Ent.cells (es.drop i) ++ rest.drop 2)).drop (i * 2 + e.cells.length) = flat Ent.cells (es.take i ++ e :: es.drop i) ++ rest.drop 2 := by
    have l2 : ((flat Ent.cells es ++ rest).take ((i + 1) * 2)).length = i * 2 + 2 := by rw [List.length_take, hcl]; omega
    have t1 : ((flat Ent.cells es ++ rest).take ((i + 1) * 2) ++ (flat Ent.cells (es.drop i) ++ rest.drop 2)).take (i * 2) = flat Ent.cells (es.take i) := by
      rw [List.take_append_of_le_length (by omega), List.take_take, show min (i * 2) ((i + 1) * 2) = i * 2 by omega, hsplit, List.append_assoc, List.take_append_of_le_length (by omega), List.take_of_length_le (by omega)]
    have t2 : ((flat Ent.cells es ++ rest).take ((i + 1) * 2) ++ (flat Ent.cells (es.drop i) ++ rest.drop 2)).drop (i * 2 + e.cells.length) = flat Ent.cells (es.drop i) ++ rest.drop 2 := by
      rw [show i * 2 + e.cells.length = ((flat Ent.cells es ++ rest).take ((i + 1) * 2)).length by rw [l2]; rfl]
      exact List.drop_left
    rw [t1, t2, flat_append]
    simp [flat]
  rw [e2] at b2
  have B2 := hide b2
  have G2 : Hid (w.grownBy w2 (some b)) := ⟨by rw [g2.os, g1.os]; rfl, by rw [g2.tape, g1.tape]; rfl, by rw [g2.output, g1.output]; rfl, by rw [s2, s1]; exact Nat.le_refl _, fun k hk hne => by rw [g2.block k (by rw [s1]; exact hk) hne, g1.block k hk hne]; rfl⟩
  have hov : ∀ lb cb, (callFunc 65 #[.slice (some ⟨vb, 0, none⟩) 1 1, .slice (some ⟨b, (i + 1) * 2, none⟩) lb cb]).run Try.prog w = .ok (.value (.bool false)) w := fun lb cb => by
    have sa : w.shape? vb = some (54, 2) := by unfold Blk at hv; simp [World.shape?, hv, Ent.cells]
    have sb : w.shape? b = some (54, c * 2) := by unfold Blk at h; simp only [World.shape?, h]; simp [hcl] at *
    rw [run_callFunc_extern Try.func65 (by kernel_rfl) (by kernel_rfl) (by kernel_rfl) (e := Extern.SlicesOverlaps.overlaps #[22, 22] #[4]) (by kernel_rfl),
      Lib.run_overlaps_apart w 22 4 54 Try.underlying22 2 Try.sizeOf54 ⟨vb, 0, none⟩ ⟨b, (i + 1) * 2, none⟩ 1 1 lb cb hne _ _ _ _ sa sb (by omega) (hv.frozen 0) (hv.frozen 2)]
    rfl
  clear b2 g2 s2 b1 g1 s1 e1 e2 hd hv1 hv h hcl hsplit lt1 ld1 hr
  generalize es.length = n at *
  unfold maxLen at hcm
  have hw1 : IntKind.i64.wrap ((i : Int) + 1) = (i : Int) + 1 := by rw [IntKind.wrap_i64]; omega
  have hb1 : (0 : Int) ≤ (i : Int) + 1 := by omega
  have htn : ((i : Int) + 1).toNat = i + 1 := by omega
  have hb2 : ¬ (c = i + 1) := by omega
  have hb3 : (i : Int) ≤ (n : Int) + 1 := by omega
  have hb4 : ¬ (c = i) := by omega
  have hin : i ≤ n := by omega
  have hz2 : ¬ ((i : Int) = (n : Int)) := by omega
  go_enter Try.func46, Try.ntmps46
  go_wp2_with (simp only [hov])
  go_region
  go_wp2
  go_ret
  exact ⟨rfl, B2.out, G2.out⟩

set_option maxHeartbeats 4000000 in
set_option maxRecDepth 20000 in
/-- There is no room. -/
theorem insert_grow (w : World) (b c : Nat) (rest : List Value) (es : List Ent) (e : Ent) (vb i : Nat) (h : Blk w b 54 (flat Ent.cells es ++ rest)) (hv : Blk w vb 54 e.cells) (hi : i < es.length) (hc : c < es.length + 1) (hnc : es.length ≤ c) (hn : es.length < 1000000) :
    Calls Try.prog 46 #[.slice (some ⟨b, 0, none⟩) es.length c, .int .i64 (i : Nat), .slice (some ⟨vb, 0, none⟩) 1 1] w fun r w' => ∃ v', r = .returned v' ∧ w'.ownsRow w.heap.size 54 2 v' (es.length + 1) (flat Ent.cells (es.take i ++ e :: es.drop i)) ∧ Below w.heap.size w w' := by
  have hsplit : flat Ent.cells es = flat Ent.cells (es.take i) ++ flat Ent.cells (es.drop i) := by rw [← flat_append, List.take_append_drop]
  have lt1 : (flat Ent.cells (es.take i)).length = i * 2 := by rw [flat_length Ent.cells_length]; simp; omega
  have ld1 : (flat Ent.cells (es.drop i)).length = (es.length - i) * 2 := by rw [flat_length Ent.cells_length]; simp
  obtain ⟨c', w2, tail, r2, c1, c2, tl, b2, f2, s2⟩ := append_zeros w b i c (flat Ent.cells (es.take i)) lt1 (fun j u hu => by
    have hjl := (List.getElem?_eq_some_iff.1 hu).1
    rw [h.cell, hsplit, List.append_assoc, List.getElem?_append_left hjl]; exact hu) (es.length + 1 - i) ((es.length : Int) + 1 - (i : Int)) (by omega) (by omega) (by omega) (by omega)
  have hv2 := hv.below f2 hv.lt
  have h2 := h.below f2 h.lt
  have hcl : (flat Ent.cells (es.take i) ++ flat Ent.cells (List.replicate (es.length + 1 - i) zE) ++ tail).length = c' * 2 := by
    simp only [List.length_append, flat_length Ent.cells_length, tl, List.length_replicate, List.length_take]
    omega
  rw [show i + (es.length + 1 - i) = es.length + 1 by omega] at r2 c1
  obtain ⟨w3, r3, b3, g3, s3⟩ := run_copy_blk w2 3 w.heap.size _ b2 (i * 2) (es.length + 1 - i) (c' - i) ⟨vb, 0, none⟩ 1 1 e.cells 1 (by show min _ _ = _; omega) rfl
    (fun j v hj => by rw [Addr.add_lit, Nat.zero_add, hv2.cell]; exact hj) (by rw [hcl]; have : e.cells.length = 2 := rfl; omega) (fun u hu => by simp [Ent.cells] at hu; rcases hu with rfl | rfl <;> rfl)
  have e3 : (flat Ent.cells (es.take i) ++ flat Ent.cells (List.replicate (es.length + 1 - i) zE) ++ tail).take (i * 2) ++ e.cells ++ (flat Ent.cells (es.take i) ++ flat Ent.cells (List.replicate (es.length + 1 - i) zE) ++ tail).drop (i * 2 + e.cells.length) = flat Ent.cells (es.take i ++ [e]) ++ (flat Ent.cells (List.replicate (es.length - i) zE) ++ tail) := by
    have t1 : (flat Ent.cells (es.take i) ++ flat Ent.cells (List.replicate (es.length + 1 - i) zE) ++ tail).take (i * 2) = flat Ent.cells (es.take i) := by
      rw [List.append_assoc, List.take_append_of_le_length (by omega), List.take_of_length_le (by omega)]
    have t2 : (flat Ent.cells (es.take i) ++ flat Ent.cells (List.replicate (es.length + 1 - i) zE) ++ tail).drop (i * 2 + e.cells.length) = flat Ent.cells (List.replicate (es.length - i) zE) ++ tail := by
      rw [show es.length + 1 - i = (es.length - i) + 1 by omega, List.replicate_succ]
      have l9 : i * 2 + e.cells.length = (flat Ent.cells (es.take i) ++ zE.cells).length := by rw [List.length_append, lt1]; rfl
      have l8 : flat Ent.cells (es.take i) ++ flat Ent.cells (zE :: List.replicate (es.length - i) zE) ++ tail = (flat Ent.cells (es.take i) ++ zE.cells) ++ (flat Ent.cells (List.replicate (es.length - i) zE) ++ tail) := by simp [flat]
      rw [l8, l9]
      exact List.drop_left
    rw [t1, t2, flat_append]
    simp [flat]
  rw [e3] at b3
  have hd3 : Blk w3.drew w.heap.size 54 (flat Ent.cells (es.take i ++ [e]) ++ (flat Ent.cells (List.replicate (es.length - i) zE) ++ tail)) := b3
  have h3 : Blk w3.drew b 54 (flat Ent.cells es ++ rest) := (g3.block b h2.lt (by have := h.lt; simp; omega)).trans h2
  have lte : (flat Ent.cells (es.take i ++ [e])).length = (i + 1) * 2 := by rw [flat_length Ent.cells_length]; simp; omega
  obtain ⟨w4, r4, b4, g4, s4⟩ := run_copy_blk w3.drew 3 w.heap.size _ hd3 ((i + 1) * 2) (es.length - i) (c' - (i + 1)) ⟨b, i * 2, none⟩ (es.length - i) (c - i) (flat Ent.cells (es.drop i)) (es.length - i) (by show min _ _ = _; omega) ld1
    (fun j v hj => by
      have hjl := (List.getElem?_eq_some_iff.1 hj).1
      rw [Addr.add_lit, h3.cell, List.getElem?_append_left (by rw [flat_length Ent.cells_length]; omega), hsplit, List.getElem?_append_right (by omega), lt1, Nat.add_sub_cancel_left]
      exact hj) (by
        simp only [List.length_append, flat_length Ent.cells_length, List.length_replicate, List.length_take, List.length_drop, List.length_cons, List.length_nil]
        omega) (pairs_one _)
  have e4 : (flat Ent.cells (es.take i ++ [e]) ++ (flat Ent.cells (List.replicate (es.length - i) zE) ++ tail)).take ((i + 1) * 2) ++ flat Ent.cells (es.drop i) ++ (flat Ent.cells (es.take i ++ [e]) ++ (flat Ent.cells (List.replicate (es.length - i) zE) ++ tail)).drop ((i + 1) * 2 + (flat Ent.cells (es.drop i)).length) = flat Ent.cells (es.take i ++ e :: es.drop i) ++ tail := by
    have t1 : (flat Ent.cells (es.take i ++ [e]) ++ (flat Ent.cells (List.replicate (es.length - i) zE) ++ tail)).take ((i + 1) * 2) = flat Ent.cells (es.take i ++ [e]) := by
      rw [← lte]; exact List.take_left
    have t2 : (flat Ent.cells (es.take i ++ [e]) ++ (flat Ent.cells (List.replicate (es.length - i) zE) ++ tail)).drop ((i + 1) * 2 + (flat Ent.cells (es.drop i)).length) = tail := by
      have l9 : (i + 1) * 2 + (flat Ent.cells (es.drop i)).length = (flat Ent.cells (es.take i ++ [e]) ++ flat Ent.cells (List.replicate (es.length - i) zE)).length := by
        rw [List.length_append, lte, ld1, flat_length Ent.cells_length]; simp
      rw [← List.append_assoc, l9]
      exact List.drop_left
    rw [t1, t2, ← flat_append]
    simp
  rw [e4] at b4
  have O4 : Hid (w4.ownsRow w.heap.size 54 2 (.slice (some ⟨w.heap.size, 0, none⟩) (es.length + 1) c') (es.length + 1) (flat Ent.cells (es.take i ++ e :: es.drop i))) := by
    have lf : (flat Ent.cells (es.take i ++ e :: es.drop i)).length = (es.length + 1) * 2 := by rw [flat_length Ent.cells_length]; simp; omega
    refine ⟨lf, .inr ⟨w.heap.size, c', _, rfl, Nat.le_refl _, b4, c1, c2, ?_, ?_⟩⟩
    · rw [List.size_toArray, List.length_append, lf, tl]; omega
    · rw [List.toList_toArray, ← lf]; exact List.take_left
  have F4 : Hid (Below w.heap.size w w4) := by
    have f3 := f2.grown g3 (by omega) (fun k hk => by cases hk; exact Nat.le_refl _)
    have f3' : Below w.heap.size w w3.drew := ⟨f3.os, f3.tape, f3.output, f3.size, f3.block⟩
    exact f3'.grown g4 (by have := f3'.size; omega) (fun k hk => by cases hk; exact Nat.le_refl _)
  have hcc : c' ≤ 9223372036854775807 := by unfold maxLen at c2; omega
  clear hsplit lt1 ld1 tl b2 f2 s2 hv2 h2 hcl b3 g3 s3 e3 hd3 h3 lte b4 g4 s4 e4 h hv c2
  generalize es.length = n at *
  have hw1 : IntKind.i64.wrap ((i : Int) + 1) = (i : Int) + 1 := by rw [IntKind.wrap_i64]; omega
  have hb1 : (0 : Int) ≤ (i : Int) + 1 := by omega
  have htn : ((i : Int) + 1).toNat = i + 1 := by omega
  have hb2 : ¬ (c' = i + 1) := by omega
  have hb4 : ¬ (c = i) := by omega
  have hb5 : ¬ (c' = i) := by omega
  have hin : i ≤ n := by omega
  go_enter Try.func46, Try.ntmps46
  go_wp2_with (at_builtin; refine wpList_append_run rfl _ _ _ _ rfl _ _ _ _ rfl rfl r2 ?_)
  go_region
  go_wp2
  go_ret
  exact ⟨_, rfl, O4.out, F4.out⟩
end Go.Proofs.Ytahlbebkcoofkaa
