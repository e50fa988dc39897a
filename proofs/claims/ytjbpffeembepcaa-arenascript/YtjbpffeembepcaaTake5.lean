/- unused, copied, Free, Take, Give. -/
import Derived.Test.YtjbpffeembepcaaFind5
import Derived.Laws.CopyRow
import Derived.Laws.CopyOwn
namespace Go.Proofs.Ytjbpffeembepcaa
open Go.RowKit
set_option linter.unusedVariables false

theorem free_any {w : World} {g : Nat} {most : Int} {rs : List Row} {back : List Nat} {vc vb : Value} (h : ArC w g most rs back vc vb) (hm : (rs.length : Int) ≤ most ∧ most ≤ 1048576) (hb : back.length ≤ rs.length) :
    Calls Try.prog 23 #[.pointer (some ⟨g, 0, none⟩)] w fun e w' => e = .returned (.int .i64 (most - ((rs.length - back.length : Nat) : Int))) ∧ Still w w' := by
  have F : ∀ n, Calls Try.prog 21 #[.pointer (some ⟨g, 0, none⟩)] (w.drewN n) fun e w' => e = .returned (.int .i64 ((rs.length - back.length : Nat) : Int)) ∧ ∃ m, w' = (w.drewN n).drewN m := fun n => live_any (h.still ⟨n, rfl⟩) (by omega) hb
  have c0 : w.cell? ⟨g, 0, none⟩ = some (.int .i64 most) := h.blk.cell 0
  clear h
  go_enter Try.func23, Try.ntmps23
  go_wp2
  go_quiet (first | (go_at_call 21; exact Calls.quiet_of (F _)))
  go_wp2
  go_ret
  exact ⟨ret_int (by first | omega | (rw [IntKind.wrap_i64]; omega)), _, rfl⟩

theorem info_of {e : TypeId} {z : Value} {s b : Nat} (h : (Try.prog.info? e).map (fun i => (i.zero, i.size, i.bytes)) = some (some z, s, b)) : ∃ i, Try.prog.info? e = some i ∧ i.zero = some z ∧ i.size = s ∧ i.bytes = b := by
  cases hq : Try.prog.info? e with
  | none => rw [hq] at h; cases h
  | some i =>
    rw [hq] at h
    simp only [Option.map_some, Option.some.injEq, Prod.mk.injEq] at h
    exact ⟨i, rfl, h.1, h.2.1, h.2.2⟩
theorem info_u64 : ∃ i, Try.prog.info? 32 = some i ∧ i.zero = some (.int .u64 0) ∧ i.size = 1 ∧ i.bytes = 8 := info_of (by kernel_rfl)
theorem info_u32 : ∃ i, Try.prog.info? 28 = some i ∧ i.zero = some (.int .u32 0) ∧ i.size = 1 ∧ i.bytes = 4 := info_of (by kernel_rfl)
theorem info_cell : ∃ i, Try.prog.info? 67 = some i ∧ i.zero = some (.agg #[.slice none 0 0, .bool false]) ∧ i.size = 2 ∧ i.bytes = 32 := info_of (by kernel_rfl)

/-- append of what was laid into a block of its own. -/
theorem append_lit {P : Program} (w : World) (base : Nat) (t e : TypeId) (i : TypeInfo) (z : Value) (size bytes : Nat) (ht : P.underlying t = some (.slice e)) (hi : P.info? e = some i) (hz : i.zero = some z)
    (hsize : i.size = size) (hby : i.bytes = bytes) (hzs : z.cells.size = size) (hsz : 0 < size) (v : Value) (n : Nat) (xs : List Value) (hown : w.ownsRow base e size v n xs) (news : List Value) (hl : news.length = size) (h1 : ∀ u ∈ news, u.oneCell' = true)
    (h63 : n + 1 ≤ 1099511627776) (hby2 : bytes ≤ 64) (hbase : base ≤ w.heap.size) :
    ∃ v' w', (Builtin.append_ #[t, t] t #[v, .slice (some ⟨w.heap.size, 0, none⟩) 1 1]).run P (w.alloc (.cells news.toArray e)) = .ok v' w' ∧ w'.ownsRow base e size v' (n + 1) (xs ++ news) ∧
      (w.alloc (.cells news.toArray e)).grownBy w' v.ownBlock ∧ (v'.ownBlock = v.ownBlock ∨ v'.ownBlock = some (w.heap.size + 1)) := by
  have hs : Src P size t (.slice (some ⟨w.heap.size, 0, none⟩) 1 1) 1 news (w.alloc (.cells news.toArray e)) :=
    Src.ofSlice _ ht _ 1 1 _ (by omega) (fun j u hu => by
      have := World.news_of_block (heap_alloc_new w (.cells news.toArray e)) j u
      exact this (by simpa using hu)) h1
  have hown' : (w.alloc (.cells news.toArray e)).ownsRow base e size v n xs := owns_same hown (fun k hk => Below.heap_alloc w _ k (hown.lt k hk).2)
  obtain ⟨v', w', r, o, g, hb, _⟩ := run_append_src (P := P) base t t t e i z size bytes ht hi hz hsize hby hzs hsz v n xs hown' _ 1 news hs (by unfold maxLen; omega) (by
    have : (n + 1) * bytes ≤ 1099511627776 * 64 := Nat.mul_le_mul h63 hby2
    omega) (by simp; omega)
  refine ⟨v', w', r, o, g, ?_⟩
  simpa using hb

theorem unused_back {K : Nat → Prop} {w : World} {g : Nat} {most : Int} {rs : List Row} {back : List Nat} {h : Nat} (A : AK K w g most rs (back ++ [h])) (hb : back.length ≤ 1048576) :
    Calls Try.prog 28 #[.pointer (some ⟨g, 0, none⟩)] w fun e w' => e = .returned (.int .u32 (h : Int)) ∧ AK K w' g most rs back ∧ Kp K w w' := by
  obtain ⟨k0, vc, vb, a, k1⟩ := A
  obtain ⟨gb, cap, rfl⟩ := owns_slice a.backs (by simp)
  have hl : (back ++ [h]).length = back.length + 1 := by simp
  have o := a.backs
  rw [hl] at o
  have c2 : w.cell? ⟨g, 2, none⟩ = some (.slice (some ⟨gb, 0, none⟩) (back.length + 1) cap) := by rw [← hl]; exact a.blk.cell 2
  have f2 := a.blk.frozen 2
  have d : w.cell? ⟨gb, back.length, none⟩ = some (.int .u32 (h : Int)) := (o.cellAt back.length (by omega)).trans (by simp [u32s])
  have hcap : back.length + 1 ≤ cap := by
    rcases o.2 with ⟨h', _⟩ | ⟨g', cap', cur, h', _, hg, hnc, _⟩
    · simp at h'
    · simp only [Value.slice.injEq] at h'
      omega
  have op : w.ownsRow 0 28 1 (.slice (some ⟨gb, 0, none⟩) back.length cap) back.length (u32s back) := ownsRow_pop (last := [.int .u32 (h : Int)]) (by simp [u32s]) (by simpa [u32s] using o)
  have R : Hid (AK K (w.setCell ⟨g, 2, none⟩ (.slice (some ⟨gb, 0, none⟩) back.length cap)) g most rs back ∧ Kp K w (w.setCell ⟨g, 2, none⟩ (.slice (some ⟨gb, 0, none⟩) back.length cap))) := by
    refine ⟨⟨fun k hk => by simpa [World.setCell] using k0 k hk, vc, .slice (some ⟨gb, 0, none⟩) back.length cap, ?_, ?_⟩, (Kp.refl _ _).setCell _ _ _ (k1 g (.inl rfl))⟩
    · have sm : ∀ k, k ≠ g → (w.setCell ⟨g, 2, none⟩ (.slice (some ⟨gb, 0, none⟩) back.length cap)).heap[k]? = w.heap[k]? := fun k hk => Below.heap_setCell w ⟨g, 2, none⟩ _ k hk
      refine ⟨a.blk.set 2 _, owns_same a.rows (fun k hk => sm k (fun e => owns_apart a.rows a.blk (by decide) (e ▸ hk))), owns_same op (fun k hk => sm k (fun e => owns_apart op a.blk (by decide) (e ▸ hk))), fun i q ws hi => (sm q (blk_apart (a.words i q ws hi) a.blk (by decide))).trans (a.words i q ws hi), a.apart⟩
    · rintro k (hk | hk | hk | hk)
      · exact k1 k (.inl hk)
      · exact k1 k (.inr (.inl hk))
      · exact k1 k (.inr (.inr (.inl hk)))
      · exact k1 k (.inr (.inr (.inr hk)))
  have e1 : IntKind.i64.wrap (((back.length + 1 : Nat) : Int) - 1) = (back.length : Int) := by rw [IntKind.wrap_i64]; omega
  have e2 : (((back.length + 1 : Nat) : Int) - 1) = (back.length : Int) := by omega
  clear a o op k1 k0
  go_enter Try.func28, Try.ntmps28
  go_wp2
  go_ret
  exact ⟨rfl, R.out⟩

theorem unused_new {K : Nat → Prop} {w : World} {g : Nat} {most : Int} {rs : List Row} (A : AK K w g most rs []) (hb : rs.length < 1048576) :
    Calls Try.prog 28 #[.pointer (some ⟨g, 0, none⟩)] w fun e w' => e = .returned (.int .u32 ((rs.length + 1 : Nat) : Int)) ∧ AK K w' g most (rs ++ [none]) [] ∧ Kp K w w' := by
  obtain ⟨k0, vc, vb, a, k1⟩ := A
  obtain ⟨ab, cab, rfl⟩ := owns_slice' a.backs
  have c1 : w.cell? ⟨g, 1, none⟩ = some vc := a.blk.cell 1
  have c2 : w.cell? ⟨g, 2, none⟩ = some (.slice ab 0 cab) := a.blk.cell 2
  obtain ⟨i, h1, h2, h3, h4⟩ := info_cell
  obtain ⟨v', w', r, o, gr, hv⟩ := append_lit (P := Try.prog) w 0 61 67 i _ 2 32 Try.underlying61 h1 h2 h3 h4 rfl (by omega) vc _ _ a.rows [.slice none 0 0, .bool false] rfl (by
    intro u hu
    simp at hu
    rcases hu with rfl | rfl <;> rfl) (by omega) (by omega) (by omega)
  have ne : vc.ownBlock ≠ some g := owns_apart a.rows a.blk (by decide)
  have sm : ∀ k, k < w.heap.size → vc.ownBlock ≠ some k → w'.heap[k]? = w.heap[k]? := fun k hk hn =>
    (gr.block k (by simp; omega) (fun e => hn e.symm)).trans (Below.heap_alloc w _ k hk)
  have b' : Blk w' g 63 [.int .i64 most, vc, .slice ab 0 cab] := (sm g a.blk.lt ne).trans a.blk
  have c1' : w'.cell? ⟨g, 1, none⟩ = some vc := b'.cell 1
  have f1' : w'.frozen? ⟨g, 1, none⟩ = false := b'.frozen 1
  obtain ⟨av, capv, hvv⟩ := owns_slice' o
  subst hvv
  have hln : (rs ++ [none]).length = rs.length + 1 := by simp
  have o2 : w'.ownsRow 0 67 2 (.slice av (rs.length + 1) capv) (rs ++ [none]).length (flat2 (rs ++ [none])) := by
    rw [hln, flat2_append]
    exact o
  have b2 := b'.set 1 (.slice av (rs.length + 1) capv)
  have c1n : (w'.setCell ⟨g, 1, none⟩ (.slice av (rs.length + 1) capv)).cell? ⟨g, 1, none⟩ = some (.slice av (rs.length + 1) capv) := b2.cell 1
  have n1 : ∀ k, Value.ownBlock (.slice av (rs.length + 1) capv) = some k → ¬ K k := by
    intro k hk
    rcases hv with hv | hv
    · exact k1 k (.inr (.inl (hv ▸ hk)))
    · rw [hv] at hk
      simp at hk
      intro hK
      have := k0 k hK
      omega
  have R : Hid (AK K (w'.setCell ⟨g, 1, none⟩ (.slice av (rs.length + 1) capv)) g most (rs ++ [none]) [] ∧ Kp K w (w'.setCell ⟨g, 1, none⟩ (.slice av (rs.length + 1) capv))) := by
    have kp : Kp K w w' := ((Kp.refl K w).alloc _).grown gr (fun k hk => k1 k (.inr (.inl hk)))
    refine ⟨⟨fun k hk => by have := k0 k hk; have := kp.size; simp [World.setCell]; omega, .slice av (rs.length + 1) capv, .slice ab 0 cab, ?_, ?_⟩, kp.setCell _ _ _ (k1 g (.inl rfl))⟩
    · have sm2 : ∀ k, k ≠ g → (w'.setCell ⟨g, 1, none⟩ (.slice av (rs.length + 1) capv)).heap[k]? = w'.heap[k]? := fun k hk => Below.heap_setCell w' ⟨g, 1, none⟩ _ k hk
      have ob : w'.ownsRow 0 28 1 (.slice ab 0 cab) 0 (u32s []) := owns_same a.backs (fun k hk => sm k (a.backs.lt k hk).2 (owns_apart2 a.backs a.rows (by decide) k hk))
      refine ⟨b2, owns_same o2 (fun k hk => sm2 k (fun e => owns_apart o2 b' (by decide) (e ▸ hk))), owns_same ob (fun k hk => sm2 k (fun e => owns_apart ob b' (by decide) (e ▸ hk))), ?_, ?_⟩
      · intro i q ws hi
        have hi' : rs[i]? = some (some (q, ws)) := by
          rw [List.getElem?_append] at hi
          split at hi
          · exact hi
          · rw [List.getElem?_singleton] at hi
            split at hi <;> simp at hi
        have bq := a.words i q ws hi'
        have bq' : Blk w' q 32 (u64s ws) := (sm q bq.lt (owns_apart a.rows bq (by decide))).trans bq
        exact (sm2 q (blk_apart bq' b' (by decide))).trans bq'
      · intro i j q ws ws' hi hj
        have dn : ∀ (i : Nat) (ws : List Int), (rs ++ [none])[i]? = some (some (q, ws)) → rs[i]? = some (some (q, ws)) := by
          intro i ws hi
          rw [List.getElem?_append] at hi
          split at hi
          · exact hi
          · rw [List.getElem?_singleton] at hi
            split at hi <;> simp at hi
        exact a.apart i j q ws ws' (dn i ws hi) (dn j ws' hj)
    · rintro k (hk | hk | hk | ⟨i, ws, hi⟩)
      · exact k1 k (.inl hk)
      · exact n1 k hk
      · exact k1 k (.inr (.inr (.inl hk)))
      · refine k1 k (.inr (.inr (.inr ⟨i, ws, ?_⟩)))
        rw [List.getElem?_append] at hi
        split at hi
        · exact hi
        · rw [List.getElem?_singleton] at hi
          split at hi <;> simp at hi
  have e1 : IntKind.u32.wrap ((rs.length + 1 : Nat) : Int) = ((rs.length + 1 : Nat) : Int) := by rw [IntKind.wrap_u32]; omega
  clear a o o2 gr hv k1 k0 n1 sm ne b2 h1 h2 h3 h4
  go_enter Try.func28, Try.ntmps28
  go_wp2_with (at_builtin; refine wpList_append_run rfl _ _ _ _ rfl _ _ _ _ rfl rfl r ?_)
  go_ret
  exact ⟨ret_int (by first | rfl | omega | (rw [IntKind.wrap_u32]; omega)), R.out⟩

/-- Words that are handed in: none of them turns where K is kept. -/
def Wd (K : Nat → Prop) (w : World) (a : Option Addr) (ws : List Int) : Prop :=
  (ws = [] ∨ ∃ b off, a = some ⟨b, off, none⟩ ∧ K b ∧ ∀ j, j < ws.length → w.cell? ⟨b, off + j, none⟩ = some (.int .u64 (wAt ws j)))
theorem Wd.kp {K : Nat → Prop} {w w' : World} {a : Option Addr} {ws : List Int} (h : Wd K w a ws) (k : Kp K w w') : Wd K w' a ws := by
  rcases h with h | ⟨b, off, rfl, hb, hc⟩
  · exact .inl h
  · refine .inr ⟨b, off, rfl, hb, fun j hj => ?_⟩
    have h1 := hc j hj
    rw [World.cell?_of_block (w := w) (w' := w') (a := ⟨b, off + j, none⟩) (k.block b hb (World.block_lt_of_cell? w _ h1))]
    exact h1

theorem copied_any {K : Nat → Prop} (w : World) (a : Option Addr) (ws : List Int) (cap : Nat) (hl : ws.length ≤ 1048576) (h : Wd K w a ws) :
    Calls Try.prog 29 #[.slice a ws.length cap] w fun e w' => e = .returned (.slice (some ⟨w.heap.size, 0, none⟩) ws.length ws.length) ∧ Blk w' w.heap.size 32 (u64s ws) ∧ Below w.heap.size w w' ∧ w'.heap.size = w.heap.size + 1 := by
  obtain ⟨i, h1, h2, h3, h4⟩ := info_u64
  obtain ⟨w1, r1, b1, f1, s1⟩ := run_make_blk (P := Try.prog) (w := w) 29 32 i (.int .u64 0) Try.underlying29 h1 h2 h3 rfl .i64 .i64 _ _ ws.length ws.length rfl rfl (Nat.le_refl _) (by rw [h4]; omega) (by unfold maxLen; omega)
  have hs1 : (Try.prog.info? 32).map (·.size) = some 1 := by rw [h1]; simp [h3]
  have C : ∃ u w2, (Builtin.copy_ #[29, 29] 3 #[.slice (some ⟨w.heap.size, 0, none⟩) ws.length ws.length, .slice a ws.length cap]).run Try.prog w1 = .ok u w2 ∧ Blk w2 w.heap.size 32 (u64s ws) ∧ Below w.heap.size w1 w2 ∧ w2.heap.size = w1.heap.size := by
    rcases h with h0 | ⟨b, off, rfl, hb, hc⟩
    · subst h0
      cases hq : Try.prog.info? 32 with
      | none => rw [hq] at h1; cases h1
      | some i' =>
        refine ⟨goInt 0, w1, ?_, b1, Below.refl _ _, rfl⟩
        cases a <;> simp [Builtin.copy_, run_underlying (P := Try.prog) Try.underlying29, Builtin.lenOf, Builtin.firstCells, sizeOf, typeInfo, hq, storeCells, loadCells, loadCellsFrom]
    · have hlen : (u64s ws).length = Nat.min ws.length ws.length := by simp [u64s_length]
      have hr := run_copy_row (P := Try.prog) w1 29 29 3 32 w.heap.size 0 ws.length ws.length ⟨b, off, none⟩ ws.length cap _ 32 (u64s ws) Try.underlying29 hs1 b1 hlen ?_ ?_ ?_
      · refine ⟨_, _, hr, ?_, ?_, ?_⟩
        · unfold Blk
          rw [setRow_heap w1 _ _ _ _ _ b1]
          simp [u64s_length]
        · exact below_setRow (Below.refl _ _) (Nat.le_refl _) _
        · simp
      · intro j v hv
        have hj : j < ws.length := by have := (List.getElem?_eq_some_iff.1 hv).1; simpa [u64s_length] using this
        rw [u64s_get ws j hj] at hv
        have hcc := hc j hj
        have hbl := World.block_lt_of_cell? w _ hcc
        have : (⟨b, off, none⟩ : Addr).add j = ⟨b, off + j, none⟩ := by
          by_cases h : j = 0
          · subst h; rfl
          · simp [Addr.add, h]
        rw [this, World.cell?_of_block (w := w) (w' := w1) (a := ⟨b, off + j, none⟩) (f1.block b hbl), hcc]
        exact hv
      · simp [u64s_length]
      · intro v hv
        simp [u64s] at hv
        obtain ⟨x, _, rfl⟩ := hv
        rfl
  obtain ⟨u, w2, r2, b2, f2, s2⟩ := C
  have R : Hid (Blk w2 w.heap.size 32 (u64s ws) ∧ Below w.heap.size w w2 ∧ w2.heap.size = w.heap.size + 1) := ⟨b2, f1.trans f2, by omega⟩
  clear b1 b2 f1 f2 s1 s2 h1 h2 h3 h4 hs1 h
  go_enter Try.func29, Try.ntmps29
  go_wp2
  go_ret
  exact ⟨rfl, R.out⟩
end Go.Proofs.Ytjbpffeembepcaa
