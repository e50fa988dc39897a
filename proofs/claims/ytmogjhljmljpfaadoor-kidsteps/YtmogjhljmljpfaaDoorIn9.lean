/- slices.Insert and slices.Delete of one number in a row of uint32. -/
import Derived.Test.YtmogjhljmljpfaaDoorRows
import Derived.Test.YtmogjhljmljpfaaDoorKp
import Derived.Laws.CopyRow
import Derived.Lib.Overlaps
import Derived.Lib.AppendZerosOnto
import Derived.Deep.RegionLaw
namespace Go.Proofs.YtmogjhljmljpfaaDoor
set_option maxRecDepth 20000
open Go.RowKit
set_option linter.unusedVariables false

theorem info_u32' : (Tryd.prog.info? 31).map (fun i => (i.zero, i.size, i.bytes)) = some (some (.int .u32 0), 1, 4) := by kernel_rfl
theorem info_u32 : ∃ i, Tryd.prog.info? 31 = some i ∧ i.zero = some (.int .u32 0) ∧ i.size = 1 ∧ i.bytes = 4 := by
  have h := info_u32'
  cases hq : Tryd.prog.info? 31 with
  | none => rw [hq] at h; cases h
  | some i =>
    rw [hq] at h
    simp at h
    exact ⟨i, rfl, h.1, h.2.1, h.2.2⟩
theorem u32s_append (xs ys : List Nat) : u32s (xs ++ ys) = u32s xs ++ u32s ys := by simp [u32s]
theorem u32s_cons (x : Nat) (ys : List Nat) : u32s (x :: ys) = .int .u32 (x : Int) :: u32s ys := rfl
theorem u32s_one (xs : List Nat) : ∀ u ∈ u32s xs, u.oneCell' = true := by
  intro u hu
  obtain ⟨x, _, rfl⟩ := List.mem_map.1 hu
  rfl

theorem copy_u32 (w : World) (ty : TypeId) (g : Nat) (cur : List Value) (hg : Blk w g 31 cur) (o dLen dCap : Nat) (a : Addr) (sLen sCap : Nat) (cs : List Value) (n : Nat) (hn : Nat.min sLen dLen = n) (hl : cs.length = n)
    (hsrc : ∀ j v, cs[j]? = some v → w.cell? (a.add j) = some v) (hfit : o + cs.length ≤ cur.length) (h1 : ∀ v ∈ cs, v.oneCell' = true) :
    ∃ w', (Builtin.copy_ #[49, 49] ty #[.slice (some ⟨g, o, none⟩) dLen dCap, .slice (some a) sLen sCap]).run Tryd.prog w = .ok (.int .i64 (n : Int)) w' ∧
      Blk w' g 31 (cur.take o ++ cs ++ cur.drop (o + cs.length)) ∧ w.grownBy w' (some g) ∧ w'.heap.size = w.heap.size := by
  have hlo := run_loadCells_list (P := Tryd.prog) w a cs hsrc
  have hst := run_storeCells_at Tryd.prog g o 31 cs 0 cur.toArray w hg (by simpa using hfit) h1
  obtain ⟨i, hi1, hi2, hi3, hi4⟩ := info_u32
  refine ⟨w.setRow g (cur.take o ++ cs ++ cur.drop (o + cs.length)).toArray, ?_, ?_, ⟨rfl, rfl, rfl, by simp [World.setRow], fun k _ hk => setRow_other w g k _ (fun e => hk (by rw [e]))⟩, by simp [World.setRow]⟩
  · rw [hl] at hlo
    simp [Builtin.copy_, run_underlying Tryd.underlying49, Builtin.lenOf, Builtin.firstCells, sizeOf, typeInfo, hi1, hi3, hn, hlo, hst, goInt]
  · unfold Blk
    rw [setRow_heap w g _ _ 31 _ hg]

theorem clear_u32 (w : World) (ty : TypeId) (g : Nat) (cur : List Value) (hg : Blk w g 31 cur) (o c : Nat) (hfit : o + 1 ≤ cur.length) :
    ∃ w', (Builtin.clear_ #[49] ty #[.slice (some ⟨g, o, none⟩) 1 c]).run Tryd.prog w = .ok (.tuple #[]) w' ∧
      Blk w' g 31 (cur.take o ++ [.int .u32 0] ++ cur.drop (o + 1)) ∧ w.grownBy w' (some g) ∧ w'.heap.size = w.heap.size := by
  have hst := run_storeCells_at Tryd.prog g o 31 [.int .u32 0] 0 cur.toArray w hg (by simpa using hfit) (by intro v hv; simp at hv; rcases hv with rfl; rfl)
  refine ⟨w.setRow g (cur.take o ++ [Value.int .u32 0] ++ cur.drop (o + 1)).toArray, ?_, ?_, ⟨rfl, rfl, rfl, by simp [World.setRow], fun k _ hk => setRow_other w g k _ (fun e => hk (by rw [e]))⟩, by simp [World.setRow]⟩
  · have hz : (Builtin.zeroCells (Value.int .u32 0).cells 1).toList = [.int .u32 0] := by
      simp [Builtin.zeroCells, Value.cells]
    have hv : ∀ w, (zeroValue 31).run Tryd.prog w = .ok (.int .u32 0) w := Tryd.zeroValue31
    simp [Builtin.clear_, run_underlying Tryd.underlying49, hv, hz, hst]
  · unfold Blk
    rw [setRow_heap w g _ _ 31 _ hg]

theorem appends_u32 (w : World) (ty tx : TypeId) (base : Nat) (v : Value) (n : Nat) (xs : List Value) (hown : w.ownsRow base 31 1 v n xs)
    (x : Value) (m : Nat) (news : List Value) (hs : Src Tryd.prog 1 tx x m news w) (hb : n + m ≤ 1000000000) (hbase : base ≤ w.heap.size) :
    ∃ v' w', (Builtin.append_ #[49, tx] ty #[v, x]).run Tryd.prog w = .ok v' w' ∧ w'.ownsRow base 31 1 v' (n + m) (xs ++ news) ∧ w.grownBy w' v.ownBlock ∧ (v'.ownBlock = v.ownBlock ∨ v'.ownBlock = some w.heap.size) := by
  obtain ⟨i, h1, h2, h3, h4⟩ := info_u32
  obtain ⟨v', w', r, o, g, hb', _⟩ := run_append_src (P := Tryd.prog) base 49 tx ty 31 i _ 1 4 Tryd.underlying49 h1 h2 h3 h4 rfl (by decide) v n xs hown x m news hs (by unfold maxLen; omega) (by omega) hbase
  exact ⟨v', w', r, o, g, hb'⟩

theorem append_zeros_u32 (w : World) (b n c : Nat) (xs : List Value) (hxs : xs.length = n) (hc : ∀ j u, xs[j]? = some u → w.cell? ⟨b, j, none⟩ = some u) (k : Nat) (l : Int) (hl : l = (k : Int)) (h0 : 0 < k) (hg : c < n + k) (hb : n + k ≤ 1000000000) :
    ∃ c' w' zs tail, (Builtin.append_ #[49, 3] 49 #[.slice (some ⟨b, 0, none⟩) n c, .int .i64 l]).run Tryd.prog w = .ok (.slice (some ⟨w.heap.size, 0, none⟩) (n + k) c') w' ∧ n + k ≤ c' ∧ c' ≤ maxLen ∧ zs.length = k ∧ tail.length = c' - (n + k) ∧
      Blk w' w.heap.size 31 (xs ++ zs ++ tail) ∧ Below w.heap.size w w' ∧ w'.heap.size = w.heap.size + 1 := by
  obtain ⟨i, h1, h2, h3, h4⟩ := info_u32
  subst hl
  have hr := Lib.run_append_grow_zeros (P := Tryd.prog) w 49 3 49 31 i _ .i64 .i64 Tryd.underlying49 Tryd.underlying3 h1 h2 (some ⟨b, 0, none⟩) n c xs
    (by rw [h3]; exact run_firstCells_some w.drew 1 n _ n c xs (by omega) (fun j u hu => by rw [Addr.add_lit, Nat.zero_add]; exact hc j u hu)) k h0 (by omega) hg (by omega) (by rw [h4]; omega) (growslice_fits (by omega) (by rw [h4]; omega))
  refine ⟨_, _, (Builtin.zeroCells (Value.int .u32 0).cells k).toList, (Builtin.zeroCells (Value.int .u32 0).cells (grownCap w (n + k) c 31 - (n + k))).toList, hr, grownCap_ge w (n + k) c _, grownCap_le_maxLen w (n + k) c _ (by unfold maxLen; omega), ?_, ?_, ?_, ?_, by simp⟩
  · simp [size_zeroCells, Value.cells]
  · simp [size_zeroCells, Value.cells]
  · unfold Blk
    refine (heap_alloc_new w.drew _).trans ?_
    simp
  · exact ⟨rfl, rfl, rfl, by simp, fun k hk => heap_alloc_old w.drew _ hk⟩

theorem append_room_u32 (w : World) (ty tx : TypeId) (b n c : Nat) (cur : List Value) (hg : Blk w b 31 cur) (hcl : cur.length = c) (x : Value) (m : Nat) (news : List Value) (hs : Src Tryd.prog 1 tx x m news w) (hfit : n + m ≤ c) :
    ∃ w', (Builtin.append_ #[49, tx] ty #[.slice (some ⟨b, 0, none⟩) n c, x]).run Tryd.prog w = .ok (.slice (some ⟨b, 0, none⟩) (n + m) c) w' ∧
      Blk w' b 31 (cur.take n ++ (news ++ cur.drop (n + news.length))) ∧ w.grownBy w' (some b) ∧ w'.heap.size = w.heap.size := by
  obtain ⟨i, h1, h2, h3, h4⟩ := info_u32
  have hl : news.length = m := by have := hs.newsLen; omega
  have hs' : Src Tryd.prog i.size tx x m news w := by rw [h3]; exact hs
  have hr := run_append_room_src (P := Tryd.prog) w 49 tx ty 31 i Tryd.underlying49 h1 b 0 n c x m news hs' hfit
    (fun j hj => by rw [block_cell hg, h3, List.getElem?_eq_getElem (by omega)]; rfl) (fun j hj => block_frozen hg _)
  have hb := setCells_block b 31 news n w cur hg (by omega)
  simp only [h3, Nat.zero_add, Nat.mul_one] at hr
  exact ⟨_, hr, hb, ⟨(setCells_os _ _ _ _).1, (setCells_os _ _ _ _).2.1, (setCells_os _ _ _ _).2.2, Nat.le_of_eq (setCells_size _ _ _ _).symm, fun k _ hk => setCells_other b news _ w k (fun e => hk (by rw [e]))⟩, setCells_size _ _ _ _⟩

set_option maxHeartbeats 2000000 in
theorem insert_end (w : World) (base : Nat) (v : Value) (xs : List Nat) (x : Nat) (vb : Nat) (h : w.ownsRow base 31 1 v xs.length (u32s xs)) (hv : Blk w vb 31 [.int .u32 (x : Int)]) (hn : xs.length < 1000000) (hb : base ≤ w.heap.size) :
    Calls Tryd.prog 25 #[v, .int .i64 (xs.length : Nat), .slice (some ⟨vb, 0, none⟩) 1 1] w fun r w' => ∃ v', r = .returned v' ∧ w'.ownsRow base 31 1 v' (xs.length + 1) (u32s (xs ++ [x])) ∧ w.grownBy w' v.ownBlock ∧ (v'.ownBlock = v.ownBlock ∨ v'.ownBlock = some w.heap.size) := by
  have hs : Src Tryd.prog 1 49 (.slice (some ⟨vb, 0, none⟩) 1 1) 1 [.int .u32 (x : Int)] w :=
    Src.ofSlice _ Tryd.underlying49 _ 1 1 _ rfl (fun j u hu => by rw [Addr.add_lit, Nat.zero_add, hv.cell]; exact hu) (fun u hu => by simp at hu; rcases hu with rfl; rfl)
  obtain ⟨v', w', r, o, g, ho⟩ := appends_u32 w 49 49 base v xs.length _ h _ 1 _ hs (by omega) hb
  have O : Hid (w'.ownsRow base 31 1 v' (xs.length + 1) (u32s (xs ++ [x]))) := by
    show World.ownsRow _ _ _ _ _ _ _
    rw [u32s_append]
    exact o
  have G := hide g
  have HO := hide ho
  obtain ⟨a, c, rfl⟩ := owns_slice' h
  have hcap : xs.length ≤ c ∧ c ≤ 9223372036854775807 := by
    rcases h.2 with ⟨e, h⟩ | ⟨q, cap, cur, e, _, _, h1, h2, _⟩
    · simp only [Value.slice.injEq] at e; omega
    · simp only [Value.slice.injEq] at e; unfold maxLen at h2; omega
  clear o g ho h hs hv
  generalize xs.length = n at *
  by_cases hcn : c = n
  · subst hcn
    go_enter Tryd.func25, Tryd.ntmps25
    go_wp2_with (at_builtin; refine wpList_append_run rfl _ _ _ _ rfl _ _ _ _ rfl rfl r ?_)
    go_ret
    exact ⟨v', rfl, O.out, G.out, HO.out⟩
  · go_enter Tryd.func25, Tryd.ntmps25
    go_wp2_with (at_builtin; refine wpList_append_run rfl _ _ _ _ rfl _ _ _ _ rfl rfl r ?_)
    go_ret
    exact ⟨v', rfl, O.out, G.out, HO.out⟩

theorem take_app {α : Type} (a b : List α) (n : Nat) (h : n = a.length) : (a ++ b).take n = a := by subst h; exact List.take_left
theorem drop_app {α : Type} (a b : List α) (n : Nat) (h : n = a.length) : (a ++ b).drop n = b := by subst h; exact List.drop_left

set_option maxHeartbeats 4000000 in
theorem insert_room (w : World) (b c : Nat) (rest : List Value) (A B : List Nat) (x : Nat) (vb : Nat) (h : Blk w b 31 (u32s A ++ u32s B ++ rest)) (hr : A.length + B.length + rest.length = c) (hv : Blk w vb 31 [.int .u32 (x : Int)]) (hne : vb ≠ b) (hB : 0 < B.length) (hc : A.length + B.length + 1 ≤ c) (hcm : c ≤ maxLen) (hn : A.length + B.length < 1000000) :
    Calls Tryd.prog 25 #[.slice (some ⟨b, 0, none⟩) (A.length + B.length) c, .int .i64 (A.length : Nat), .slice (some ⟨vb, 0, none⟩) 1 1] w fun r w' => r = .returned (.slice (some ⟨b, 0, none⟩) (A.length + B.length + 1) c) ∧ Blk w' b 31 (u32s (A ++ x :: B) ++ rest.drop 1) ∧ w.grownBy w' (some b) := by
  have la : (u32s A).length = A.length := u32s_length A
  have lb : (u32s B).length = B.length := u32s_length B
  have hcl : (u32s A ++ u32s B ++ rest).length = c := by simp [la, lb]; omega
  have hd : Blk w.drew b 31 (u32s A ++ u32s B ++ rest) := h
  obtain ⟨w1, r1, b1, g1, s1⟩ := copy_u32 w.drew 3 b _ hd (A.length + 1) B.length (c - (A.length + 1)) ⟨b, A.length, none⟩ (B.length + 1) (c - A.length) (u32s B) B.length (by show min _ _ = _; omega) lb
    (fun j v hj => by
      have hjl := (List.getElem?_eq_some_iff.1 hj).1
      rw [Addr.add_lit, hd.cell, List.append_assoc, List.getElem?_append_right (by omega), la, Nat.add_sub_cancel_left, List.getElem?_append_left hjl]
      exact hj) (by rw [hcl, lb]; omega) (u32s_one _)
  have e1 : (u32s A ++ u32s B ++ rest).drop (A.length + 1 + (u32s B).length) = rest.drop 1 := by
    rw [show A.length + 1 + (u32s B).length = (u32s A ++ u32s B).length + 1 by simp [la]; omega, List.drop_append]
    simp
  rw [e1] at b1
  have hv1 : Blk w1 vb 31 [.int .u32 (x : Int)] := (g1.block vb hv.lt (by simp; exact hne)).trans hv
  have lt1 : ((u32s A ++ u32s B ++ rest).take (A.length + 1)).length = A.length + 1 := by rw [List.length_take, hcl]; omega
  obtain ⟨w2, r2, b2, g2, s2⟩ := copy_u32 w1 3 b _ b1 A.length (B.length + 1) (c - A.length) ⟨vb, 0, none⟩ 1 1 [.int .u32 (x : Int)] 1 (by show min _ _ = _; omega) rfl
    (fun j v hj => by rw [Addr.add_lit, Nat.zero_add, hv1.cell]; exact hj) (by simp only [List.length_append, lt1, List.length_cons, List.length_nil]; omega) (fun u hu => by simp at hu; rcases hu with rfl; rfl)
  have e2 : (((u32s A ++ u32s B ++ rest).take (A.length + 1)) ++ u32s B ++ rest.drop 1).take A.length ++ [Value.int .u32 (x : Int)] ++ (((u32s A ++ u32s B ++ rest).take (A.length + 1)) ++ u32s B ++ rest.drop 1).drop (A.length + 1) = u32s (A ++ x :: B) ++ rest.drop 1 := by
    have t1 : (((u32s A ++ u32s B ++ rest).take (A.length + 1)) ++ u32s B ++ rest.drop 1).take A.length = u32s A := by
      rw [List.append_assoc, List.take_append_of_le_length (by omega), List.take_take, show min A.length (A.length + 1) = A.length by omega, List.append_assoc]
      exact take_app _ _ _ la.symm
    have t2 : (((u32s A ++ u32s B ++ rest).take (A.length + 1)) ++ u32s B ++ rest.drop 1).drop (A.length + 1) = u32s B ++ rest.drop 1 := by
      rw [List.append_assoc]
      exact drop_app _ _ _ lt1.symm
    rw [t1, t2, u32s_append, u32s_cons]
    simp
  have e3 : [Value.int .u32 (x : Int)].length = 1 := rfl
  rw [e3, e2] at b2
  have B2 := hide b2
  have G2 : Hid (w.grownBy w2 (some b)) := ⟨by rw [g2.os, g1.os]; rfl, by rw [g2.tape, g1.tape]; rfl, by rw [g2.output, g1.output]; rfl, by rw [s2, s1]; exact Nat.le_refl _, fun k hk hne => by rw [g2.block k (by rw [s1]; exact hk) hne, g1.block k hk hne]; rfl⟩
  have hov : ∀ lb cb, (callFunc 42 #[.slice (some ⟨vb, 0, none⟩) 1 1, .slice (some ⟨b, A.length + 1, none⟩) lb cb]).run Tryd.prog w = .ok (.value (.bool false)) w := fun lb cb => by
    have sa : w.shape? vb = some (31, 1) := by unfold Blk at hv; simp [World.shape?, hv]
    have sb : w.shape? b = some (31, c) := by unfold Blk at h; simp only [World.shape?, h]; simp at hcl; simp [hcl]
    rw [run_callFunc_extern Tryd.func42 (by kernel_rfl) (by kernel_rfl) (by kernel_rfl) (e := Extern.SlicesOverlaps.overlaps #[49, 49] #[4]) (by kernel_rfl),
      Lib.run_overlaps_apart w 49 4 31 Tryd.underlying49 1 Tryd.sizeOf31 ⟨vb, 0, none⟩ ⟨b, A.length + 1, none⟩ 1 1 lb cb hne _ _ _ _ sa sb (by omega) (hv.frozen 0) (hv.frozen 1)]
    rfl
  clear b2 g2 s2 b1 g1 s1 e1 e2 hd hv1 hv h hcl lt1 hr la lb e3
  generalize A.length = i at *
  generalize B.length = m at *
  unfold maxLen at hcm
  have hw1 : IntKind.i64.wrap ((i : Int) + 1) = (i : Int) + 1 := by rw [IntKind.wrap_i64]; omega
  have hw2 : IntKind.i64.wrap ((i : Int) + (m : Int) + 1) = (i : Int) + (m : Int) + 1 := by rw [IntKind.wrap_i64]; omega
  have hb1 : (0 : Int) ≤ (i : Int) + 1 := by omega
  have htn : ((i : Int) + 1).toNat = i + 1 := by omega
  have htn2 : ((i : Int) + (m : Int) + 1).toNat = i + m + 1 := by omega
  have hb2 : ¬ (c = i + 1) := by omega
  have hb3 : (i : Int) ≤ (i : Int) + (m : Int) + 1 := by omega
  have hb4 : ¬ (c = i) := by omega
  have hin : i ≤ i + m := by omega
  have hz2 : ¬ ((i : Int) = (i : Int) + (m : Int)) := by omega
  have hz3 : i + m - i = m := by omega
  have hz4 : i + m + 1 - i = m + 1 := by omega
  have hz5 : i + m + 1 - (i + 1) = m := by omega
  go_enter Tryd.func25, Tryd.ntmps25
  go_wp2_with (simp only [hov])
  go_region
  go_wp2
  go_ret
  exact ⟨rfl, B2.out, G2.out⟩
end Go.Proofs.YtmogjhljmljpfaaDoor
