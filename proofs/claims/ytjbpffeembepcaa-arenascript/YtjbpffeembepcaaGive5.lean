/- Give; New; what Take refuses; Ar's readers. -/
import Derived.Test.YtjbpffeembepcaaTake6
namespace Go.Proofs.Ytjbpffeembepcaa
open Go.RowKit
set_option linter.unusedVariables false
set_option linter.unusedSimpArgs false

theorem AK.wipe {K : Nat → Prop} {w : World} {g : Nat} {most : Int} {rs : List Row} {back : List Nat} {vb : Value} {gc cap n : Nat} (h : ArC w g most rs back (.slice (some ⟨gc, 0, none⟩) rs.length cap) vb) (hn : n < rs.length) :
    ArC ((w.setCell ⟨gc, n * 2, none⟩ (.slice none 0 0)).setCell ⟨gc, n * 2 + 1, none⟩ (.bool false)) g most (rs.set n none) back (.slice (some ⟨gc, 0, none⟩) rs.length cap) vb := by
  have o1 := (h.rows.stored (n * 2) (.slice none 0 0)).1
  have o2 := (o1.stored (n * 2 + 1) (.bool false)).1
  rw [flat2_set rs n none _ _ rfl hn] at o2
  have sm : ∀ k, k ≠ gc → ((w.setCell ⟨gc, n * 2, none⟩ (.slice none 0 0)).setCell ⟨gc, n * 2 + 1, none⟩ (.bool false)).heap[k]? = w.heap[k]? := fun k hk =>
    (Below.heap_setCell _ ⟨gc, n * 2 + 1, none⟩ _ k hk).trans (Below.heap_setCell _ ⟨gc, n * 2, none⟩ _ k hk)
  have ow : ∀ (i q' : Nat) (ws' : List Int), (rs.set n none)[i]? = some (some (q', ws')) → rs[i]? = some (some (q', ws')) := by
    intro i q' ws' hi
    rw [List.getElem?_set] at hi
    split at hi
    · simp at hi
    · exact hi
  refine ⟨(sm g (fun e => owns_apart h.rows h.blk (by decide) (by rw [e]; rfl))).trans h.blk, by rw [List.length_set]; exact o2, owns_same h.backs (fun k hk => sm k (fun e => owns_apart2 h.backs h.rows (by decide) k hk (by rw [e]; rfl))), ?_, ?_⟩
  · intro i q' ws' hi
    have b := h.words i q' ws' (ow i q' ws' hi)
    exact (sm _ (fun e => owns_apart h.rows b (by decide) (by rw [e]; rfl))).trans b
  · intro i j q' ws1 ws2 hi hj
    exact h.apart i j q' ws1 ws2 (ow _ _ _ hi) (ow _ _ _ hj)

theorem ArC.pushed {w w' : World} {g : Nat} {most : Int} {rs : List Row} {back back' : List Nat} {vc vb vb' : Value} (h : ArC w g most rs back vc vb) (sm : ∀ k, k < w.heap.size → vb.ownBlock ≠ some k → w'.heap[k]? = w.heap[k]?) (o : w'.ownsRow 0 28 1 vb' back'.length (u32s back')) :
    ArC (w'.setCell ⟨g, 2, none⟩ vb') g most rs back' vc vb' := by
  have b' : Blk w' g 63 [.int .i64 most, vc, vb] := (sm g h.blk.lt (owns_apart h.backs h.blk (by decide))).trans h.blk
  have sm2 : ∀ k, k ≠ g → (w'.setCell ⟨g, 2, none⟩ vb').heap[k]? = w'.heap[k]? := fun k hk => Below.heap_setCell w' ⟨g, 2, none⟩ _ k hk
  have orw : w'.ownsRow 0 67 2 vc rs.length (flat2 rs) := owns_same h.rows (fun k hk => sm k (h.rows.lt k hk).2 (owns_apart2 h.rows h.backs (by decide) k hk))
  refine ⟨b'.set 2 vb', owns_same orw (fun k hk => sm2 k (fun e => owns_apart orw b' (by decide) (e ▸ hk))), owns_same o (fun k hk => sm2 k (fun e => owns_apart o b' (by decide) (e ▸ hk))), ?_, h.apart⟩
  intro i q ws hi
  have bq := h.words i q ws hi
  have bq' : Blk w' q 32 (u64s ws) := (sm q bq.lt (owns_apart h.backs bq (by decide))).trans bq
  exact (sm2 q (blk_apart bq' b' (by decide))).trans bq'

set_option maxHeartbeats 800000 in
theorem give_has {K : Nat → Prop} {w : World} {g : Nat} {most : Int} {cs : Cells} {back : List Nat} (A : Ar K w g most cs back) (n : Nat) (ws : List Int) (hn : cs[n]? = some (some ws)) :
    Calls Try.prog 14 #[.pointer (some ⟨g, 0, none⟩), .int .u32 ((n : Int) + 1)] w fun e w' => e = .returned (.int .i64 0) ∧ Ar K w' g most (cs.set n none) (back ++ [n + 1]) ∧ Kp K w w' := by
  obtain ⟨rs, h1, ⟨k0, vc, vb, a, k1⟩, G⟩ := A
  have hl : cs.length = rs.length := by rw [← h1, absr_length]
  have hlen := G.len
  have hlim := G.lim
  have hbl := G.blen
  have hlt : n < rs.length := by rw [← hl]; exact (List.getElem?_eq_some_iff.1 hn).1
  obtain ⟨gc, cap, rfl⟩ := owns_slice a.rows (by omega)
  obtain ⟨q, hq⟩ : ∃ q, rs[n]? = some (some (q, ws)) := by
    rw [← h1, absr_get] at hn
    cases hr : rs[n]? with
    | none => rw [hr] at hn; simp at hn
    | some r =>
      rw [hr] at hn
      rcases r with _ | ⟨q, ws'⟩
      · simp at hn
      · simp at hn
        subst hn
        exact ⟨q, rfl⟩
  have F := find_has a (by omega) n q ws hq
  have z0 := (a.rows.cellAt (n * 2) (by omega)).trans (flat2_get rs n _ 0 hq (by omega))
  have z1 := (a.rows.cellAt (n * 2 + 1) (by omega)).trans (flat2_get rs n _ 1 hq (by omega))
  simp only [cell2] at z0 z1
  have y0 := a.rows.frozenAt (n * 2)
  have y1 := a.rows.frozenAt (n * 2 + 1)
  have p := AK.wipe (K := K) a hlt
  obtain ⟨w2, hw2⟩ : ∃ w2, w2 = (w.setCell ⟨gc, n * 2, none⟩ (.slice none 0 0)).setCell ⟨gc, n * 2 + 1, none⟩ (.bool false) := ⟨_, rfl⟩
  rw [← hw2] at p
  have c2 : w2.cell? ⟨g, 2, none⟩ = some vb := p.blk.cell 2
  have nKc : ¬ K gc := k1 gc (.inr (.inl rfl))
  have kp2 : Kp K w w2 := by rw [hw2]; exact ((Kp.refl K w).setCell _ _ _ nKc).setCell _ _ _ nKc
  obtain ⟨i, i1, i2, i3, i4⟩ := info_u32
  obtain ⟨v', w', r, o, gr, hv⟩ := append_lit (P := Try.prog) w2 0 47 28 i _ 1 4 Try.underlying47 i1 i2 i3 i4 rfl (by omega) vb _ _ p.backs [.int .u32 ((n : Int) + 1)] rfl (by
    intro u hu
    simp at hu
    subst hu
    rfl) (by omega) (by omega) (by omega)
  obtain ⟨av, capv, hvv⟩ := owns_slice' o
  have sm : ∀ k, k < w2.heap.size → vb.ownBlock ≠ some k → w'.heap[k]? = w2.heap[k]? := fun k hk hnn =>
    (gr.block k (by simp; omega) (fun e => hnn e.symm)).trans (Below.heap_alloc w2 _ k hk)
  have b' : Blk w' g 63 [.int .i64 most, .slice (some ⟨gc, 0, none⟩) rs.length cap, vb] := (sm g p.blk.lt (owns_apart p.backs p.blk (by decide))).trans p.blk
  have c2' : w'.cell? ⟨g, 2, none⟩ = some vb := b'.cell 2
  have f2' : w'.frozen? ⟨g, 2, none⟩ = false := b'.frozen 2
  have kp : Kp K w w' := (kp2.alloc _).grown gr (fun k hk => k1 k (.inr (.inr (.inl hk))))
  have R : Hid (Ar K (w'.setCell ⟨g, 2, none⟩ v') g most (cs.set n none) (back ++ [n + 1]) ∧ Kp K w (w'.setCell ⟨g, 2, none⟩ v')) := by
    refine ⟨⟨rs.set n none, by rw [← h1]; simp [absr, List.map_set], ⟨fun k hk => by have := k0 k hk; have := kp.size; simp [World.setCell]; omega, _, v', p.pushed sm (by simpa [u32s] using o), ?_⟩, G.give n ws hn⟩, kp.setCell _ _ _ (k1 g (.inl rfl))⟩
    rintro k (hk | hk | hk | ⟨j, ws', hj⟩)
    · exact k1 k (.inl hk)
    · exact k1 k (.inr (.inl hk))
    · rcases hv with hv | hv
      · exact k1 k (.inr (.inr (.inl (hv ▸ hk))))
      · rw [hv] at hk
        simp at hk
        intro hK
        have := k0 k hK
        have := kp2.size
        omega
    · refine k1 k (.inr (.inr (.inr ⟨j, ws', ?_⟩)))
      rw [List.getElem?_set] at hj
      split at hj
      · simp at hj
      · exact hj
  subst hvv
  have c2w : w.cell? ⟨g, 2, none⟩ = some vb := a.blk.cell 2
  have hne : ¬ gc = g := fun e => owns_apart a.rows a.blk (by decide) (by rw [e]; rfl)
  have hne' : ¬ g = gc := fun e => hne e.symm
  clear a p G k1 k0 kp kp2 sm b' o gr hv h1 hn hq i1 i2 i3 i4 nKc hlen hlim hbl hl hlt
  subst hw2
  simp only [World.size_setCell] at r
  go_enter Try.func14, Try.ntmps14
  go_wp2_with (first | (go_at_call 30; refine F.mono ?_; rintro e w1 ⟨rfl, rfl⟩) | (at_builtin; refine wpList_append_run rfl _ _ _ _ rfl _ _ _ _ rfl rfl r ?_))
  go_ret
  exact ⟨rfl, R.out⟩

theorem abs_has {rs : List Row} {cs : Cells} {n : Nat} {ws : List Int} (h : absr rs = cs) (hn : cs[n]? = some (some ws)) : ∃ q, rs[n]? = some (some (q, ws)) := by
  rw [← h, absr_get] at hn
  cases hr : rs[n]? with
  | none => rw [hr] at hn; simp at hn
  | some r =>
    rw [hr] at hn
    rcases r with _ | ⟨q, ws'⟩
    · simp at hn
    · simp at hn
      subst hn
      exact ⟨q, rfl⟩
/-- There is no cell of handle h. -/
def noH (cs : Cells) (h : Nat) : Prop := h = 0 ∨ cs.length < h ∨ cs[h - 1]? = some none
theorem abs_none {rs : List Row} {cs : Cells} {h : Nat} (e : absr rs = cs) (hn : noH cs h) : noCell rs h := by
  rcases hn with hn | hn | hn
  · exact .inl hn
  · exact .inr (.inl (by rw [← absr_length, e]; exact hn))
  · refine .inr (.inr ?_)
    rw [← e, absr_get] at hn
    cases hr : rs[h - 1]? with
    | none => rw [hr] at hn; simp at hn
    | some r =>
      rw [hr] at hn
      rcases r with _ | ⟨q, ws'⟩
      · rfl
      · simp at hn
/-- A handle has a cell, or it has none. -/
theorem has_or (cs : Cells) (h : Nat) : noH cs h ∨ ∃ n ws, h = n + 1 ∧ cs[n]? = some (some ws) := by
  by_cases h0 : h = 0
  · exact .inl (.inl h0)
  by_cases h1 : cs.length < h
  · exact .inl (.inr (.inl h1))
  cases hr : cs[h - 1]? with
  | none => exact absurd hr (by rw [List.getElem?_eq_getElem (by omega)]; simp)
  | some r =>
    cases r with
    | none => exact .inl (.inr (.inr hr))
    | some ws => exact .inr ⟨h - 1, ws, by omega, hr⟩

section
variable {K : Nat → Prop} {w : World} {g : Nat} {most : Int} {cs : Cells} {back : List Nat}
theorem Ar.fit (A : Ar K w g most cs back) : cs.length ≤ 1048576 := by
  have h1 := A.good.len
  have h2 := A.good.lim
  omega
theorem give_none (A : Ar K w g most cs back) (x : Nat) (hx : x < 4294967296) (hn : noH cs x) :
    Calls Try.prog 14 #[.pointer (some ⟨g, 0, none⟩), .int .u32 (x : Int)] w fun e w' => e = .returned (.int .i64 5) ∧ w' = w := by
  have hl := A.fit
  obtain ⟨rs, h1, ⟨k0, vc, vb, a, k1⟩, G⟩ := A
  have F := find_none a (by rw [← h1, absr_length] at hl; exact hl) x hx (abs_none h1 hn)
  clear a k1 k0 G h1 hl
  go_enter Try.func14, Try.ntmps14
  go_wp2_with (go_at_call 30; refine F.mono ?_; rintro e w1 ⟨rfl, rfl⟩)
  go_ret
  exact ⟨rfl, rfl⟩
theorem a_size (A : Ar K w g most cs back) (n : Nat) (ws : List Int) (hn : cs[n]? = some (some ws)) :
    Calls Try.prog 20 #[.pointer (some ⟨g, 0, none⟩), .int .u32 ((n : Int) + 1)] w fun e w' => e = .returned (.int .i64 (ws.length : Int)) ∧ w' = w := by
  have hl := A.fit
  obtain ⟨rs, h1, ⟨k0, vc, vb, a, k1⟩, G⟩ := A
  obtain ⟨q, hq⟩ := abs_has h1 hn
  exact size_has a (by rw [← h1, absr_length] at hl; exact hl) n q ws hq
theorem a_size_none (A : Ar K w g most cs back) (x : Nat) (hx : x < 4294967296) (hn : noH cs x) :
    Calls Try.prog 20 #[.pointer (some ⟨g, 0, none⟩), .int .u32 (x : Int)] w fun e w' => e = .returned (.int .i64 0) ∧ w' = w := by
  have hl := A.fit
  obtain ⟨rs, h1, ⟨k0, vc, vb, a, k1⟩, G⟩ := A
  exact size_none a (by rw [← h1, absr_length] at hl; exact hl) x hx (abs_none h1 hn)
theorem a_get (A : Ar K w g most cs back) (n i : Nat) (ws : List Int) (hn : cs[n]? = some (some ws)) (hi : i < ws.length) :
    Calls Try.prog 16 #[.pointer (some ⟨g, 0, none⟩), .int .u32 ((n : Int) + 1), .int .i64 (i : Int)] w fun e w' => e = .returned (.tuple #[.int .u64 (wAt ws i), .int .i64 0]) ∧ w' = w := by
  have hl := A.fit
  obtain ⟨rs, h1, ⟨k0, vc, vb, a, k1⟩, G⟩ := A
  obtain ⟨q, hq⟩ := abs_has h1 hn
  exact get_has a (by rw [← h1, absr_length] at hl; exact hl) n q i ws hq hi
theorem a_get_out (A : Ar K w g most cs back) (n : Nat) (i : Int) (ws : List Int) (hn : cs[n]? = some (some ws)) (hi : i < 0 ∨ (ws.length : Int) ≤ i) :
    Calls Try.prog 16 #[.pointer (some ⟨g, 0, none⟩), .int .u32 ((n : Int) + 1), .int .i64 i] w fun e w' => e = .returned (.tuple #[.int .u64 0, .int .i64 2]) ∧ w' = w := by
  have hl := A.fit
  obtain ⟨rs, h1, ⟨k0, vc, vb, a, k1⟩, G⟩ := A
  obtain ⟨q, hq⟩ := abs_has h1 hn
  exact get_not _ _ _ (.bool true) _ 2 (by omega) (word_out a (by rw [← h1, absr_length] at hl; exact hl) n q i ws hq hi)
theorem a_get_none (A : Ar K w g most cs back) (x : Nat) (hx : x < 4294967296) (i : Int) (hn : noH cs x) :
    Calls Try.prog 16 #[.pointer (some ⟨g, 0, none⟩), .int .u32 (x : Int), .int .i64 i] w fun e w' => e = .returned (.tuple #[.int .u64 0, .int .i64 5]) ∧ w' = w := by
  have hl := A.fit
  obtain ⟨rs, h1, ⟨k0, vc, vb, a, k1⟩, G⟩ := A
  exact get_not _ _ _ (.bool true) _ 5 (by omega) (word_none a (by rw [← h1, absr_length] at hl; exact hl) x hx i (abs_none h1 hn))
theorem a_set_out (A : Ar K w g most cs back) (n : Nat) (i v : Int) (ws : List Int) (hn : cs[n]? = some (some ws)) (hi : i < 0 ∨ (ws.length : Int) ≤ i) :
    Calls Try.prog 18 #[.pointer (some ⟨g, 0, none⟩), .int .u32 ((n : Int) + 1), .int .i64 i, .int .u64 v] w fun e w' => e = .returned (.int .i64 2) ∧ w' = w := by
  have hl := A.fit
  obtain ⟨rs, h1, ⟨k0, vc, vb, a, k1⟩, G⟩ := A
  obtain ⟨q, hq⟩ := abs_has h1 hn
  exact set_not _ _ _ v _ 2 (by omega) (word_out a (by rw [← h1, absr_length] at hl; exact hl) n q i ws hq hi)
theorem a_set_none (A : Ar K w g most cs back) (x : Nat) (hx : x < 4294967296) (i v : Int) (hn : noH cs x) :
    Calls Try.prog 18 #[.pointer (some ⟨g, 0, none⟩), .int .u32 (x : Int), .int .i64 i, .int .u64 v] w fun e w' => e = .returned (.int .i64 5) ∧ w' = w := by
  have hl := A.fit
  obtain ⟨rs, h1, ⟨k0, vc, vb, a, k1⟩, G⟩ := A
  exact set_not _ _ _ v _ 5 (by omega) (word_none a (by rw [← h1, absr_length] at hl; exact hl) x hx i (abs_none h1 hn))
theorem a_set (A : Ar K w g most cs back) (n i : Nat) (v : Int) (ws : List Int) (hn : cs[n]? = some (some ws)) (hi : i < ws.length) :
    Calls Try.prog 18 #[.pointer (some ⟨g, 0, none⟩), .int .u32 ((n : Int) + 1), .int .i64 (i : Int), .int .u64 v] w fun e w' => e = .returned (.int .i64 0) ∧ Ar K w' g most (cs.set n (some (ws.set i v))) back ∧ Kp K w w' := by
  have hl := A.fit
  obtain ⟨rs, h1, ⟨k0, vc, vb, a, k1⟩, G⟩ := A
  obtain ⟨q, hq⟩ := abs_has h1 hn
  have hlt := (List.getElem?_eq_some_iff.1 hn).1
  have hltr : n < rs.length := (List.getElem?_eq_some_iff.1 hq).1
  refine (set_has a (by rw [← h1, absr_length] at hl; exact hl) n q i v ws hq hi).mono ?_
  rintro e w' ⟨rfl, rfl⟩
  have nK : ¬ K q := k1 q (.inr (.inr (.inr ⟨n, ws, hq⟩)))
  have bq := a.words n q ws hq
  have sm : ∀ k, k ≠ q → (w.setCell ⟨q, i, none⟩ (.int .u64 v)).heap[k]? = w.heap[k]? := fun k hk => Below.heap_setCell w ⟨q, i, none⟩ _ k hk
  have ow : ∀ (j q' : Nat) (ws' : List Int), (rs.set n (some (q, ws.set i v)))[j]? = some (some (q', ws')) → j = n ∧ q' = q ∧ ws' = ws.set i v ∨ j ≠ n ∧ rs[j]? = some (some (q', ws')) := by
    intro j q' ws' hj
    rw [List.getElem?_set] at hj
    split at hj
    · rename_i e
      simp only [hltr, if_true, Option.some.injEq, Prod.mk.injEq] at hj
      exact .inl ⟨e.symm, hj.1.symm, hj.2.symm⟩
    · rename_i e
      exact .inr ⟨fun x => e x.symm, hj⟩
  have fl : flat2 (rs.set n (some (q, ws.set i v))) = flat2 rs := by
    have f := flat2_set rs n (some (q, ws.set i v)) (.slice (some ⟨q, 0, none⟩) ws.length ws.length) (.bool true) (by simp [cell2]) hltr
    rw [← f]
    have f0 := flat2_set rs n (some (q, ws)) (.slice (some ⟨q, 0, none⟩) ws.length ws.length) (.bool true) (by simp [cell2]) hltr
    rw [f0]
    congr 1
    apply List.ext_getElem?
    intro j
    rw [List.getElem?_set]
    split
    · rename_i e
      subst e
      simp [hltr] at hq ⊢
      exact hq.symm
    · rfl
  refine ⟨rfl, ⟨rs.set n (some (q, ws.set i v)), by rw [← h1]; simp [absr, List.map_set], ⟨fun k hk => by simpa [World.setCell] using k0 k hk, vc, vb, ⟨?_, ?_, ?_, ?_, ?_⟩, ?_⟩, ?_⟩, (Kp.refl K w).setCell _ _ _ nK⟩
  · exact (sm g (blk_apart a.blk bq (by decide))).trans a.blk
  · rw [fl, List.length_set]
    exact owns_same a.rows (fun k hk => sm k (fun e => owns_apart a.rows bq (by decide) (e ▸ hk)))
  · exact owns_same a.backs (fun k hk => sm k (fun e => owns_apart a.backs bq (by decide) (e ▸ hk)))
  · intro j q' ws' hj
    rcases ow j q' ws' hj with ⟨_, rfl, rfl⟩ | ⟨hne, hj'⟩
    · rw [← u64s_set]
      exact bq.set i _
    · refine (sm q' (fun e => ?_)).trans (a.words j q' ws' hj')
      subst e
      exact hne (a.apart j n q' ws' ws hj' hq)
  · intro j l q' ws1 ws2 hj hl
    rcases ow j q' ws1 hj with ⟨e1, e2, _⟩ | ⟨hne, hj'⟩
    · rcases ow l q' ws2 hl with ⟨e3, _, _⟩ | ⟨hne', hl'⟩
      · omega
      · subst e2
        exact absurd (a.apart l n q' ws2 ws hl' hq) hne'
    · rcases ow l q' ws2 hl with ⟨e3, e4, _⟩ | ⟨hne', hl'⟩
      · subst e4
        exact absurd (a.apart j n q' ws1 ws hj' hq) hne
      · exact a.apart j l q' ws1 ws2 hj' hl'
  · rintro k (hk | hk | hk | ⟨j, ws', hj⟩)
    · exact k1 k (.inl hk)
    · exact k1 k (.inr (.inl hk))
    · exact k1 k (.inr (.inr (.inl hk)))
    · rcases ow j k ws' hj with ⟨_, e2, _⟩ | ⟨_, hj'⟩
      · rw [e2]; exact nK
      · exact k1 k (.inr (.inr (.inr ⟨j, ws', hj'⟩)))
  · refine ⟨by simpa using G.len, G.lim, ?_, ?_, G.nodup⟩
    · rw [List.countP_set hlt]
      have e : cs[n] = some ws := by rw [List.getElem?_eq_getElem hlt] at hn; simpa using hn
      have := G.cnt
      simp [e]
      omega
    · intro k hk
      obtain ⟨h3, h4⟩ := G.free k hk
      refine ⟨h3, ?_⟩
      rw [List.getElem?_set]
      split
      · rename_i e
        subst e
        rw [hn] at h4
        simp at h4
      · exact h4
theorem a_live (A : Ar K w g most cs back) : Calls Try.prog 21 #[.pointer (some ⟨g, 0, none⟩)] w fun e w' => e = .returned (.int .i64 ((cs.length - back.length : Nat) : Int)) ∧ Still w w' := by
  have hl := A.fit
  have hb := A.good.blen
  obtain ⟨rs, h1, ⟨k0, vc, vb, a, k1⟩, G⟩ := A
  rw [← h1, absr_length] at hl hb ⊢
  exact live_any a hl hb
theorem a_free (A : Ar K w g most cs back) : Calls Try.prog 23 #[.pointer (some ⟨g, 0, none⟩)] w fun e w' => e = .returned (.int .i64 (most - ((cs.length - back.length : Nat) : Int))) ∧ Still w w' := by
  have hb := A.good.blen
  have h2 := A.good.len
  have h3 := A.good.lim
  obtain ⟨rs, h1, ⟨k0, vc, vb, a, k1⟩, G⟩ := A
  rw [← h1, absr_length] at hb h2 ⊢
  exact free_any a ⟨h2, h3⟩ hb
theorem take_full (A : Ar K w g most cs back) (hf : most = ((cs.length - back.length : Nat) : Int)) (a : Option Addr) (n : Nat) (cap : Nat) (hw : n ≤ 64) :
    Calls Try.prog 11 #[.pointer (some ⟨g, 0, none⟩), .slice a n cap] w fun e w' => e = .returned (.tuple #[.int .u32 0, .int .i64 4]) ∧ Still w w' := by
  have F := a_free A
  have hz : most - ((cs.length - back.length : Nat) : Int) = 0 := by omega
  rw [hz] at F
  have hn : ¬ (64 < n) := by omega
  clear A hf hz
  go_enter Try.func11, Try.ntmps11
  go_wp2_with (go_at_call 23; refine F.mono ?_; rintro e w1 ⟨rfl, h1⟩; have S1 := hide h1; clear h1)
  go_ret2
  exact ⟨rfl, S1.out⟩
theorem take_long (p : Addr) (a : Option Addr) (n : Nat) (cap : Nat) (hw : 64 < n) :
    Calls Try.prog 11 #[.pointer (some p), .slice a n cap] w fun e w' => e = .returned (.tuple #[.int .u32 0, .int .i64 2]) ∧ w' = w := by
  have hw' : (64 : Int) < (n : Int) := by omega
  go_enter Try.func11, Try.ntmps11
  go_wp2
  go_ret2
  exact ⟨rfl, rfl⟩
theorem take_nil (a : Option Addr) (n : Nat) (cap : Nat) :
    Calls Try.prog 11 #[.pointer none, .slice a n cap] w fun e w' => e = .returned (.tuple #[.int .u32 0, .int .i64 1]) ∧ w' = w := by
  go_enter Try.func11, Try.ntmps11
  go_wp2
  go_ret2
  exact ⟨rfl, rfl⟩
theorem give_nil (x : Int) : Calls Try.prog 14 #[.pointer none, .int .u32 x] w fun e w' => e = .returned (.int .i64 1) ∧ w' = w := by
  go_enter Try.func14, Try.ntmps14
  go_wp2_with (go_at_call 30; refine (find_nil _ _).mono ?_; rintro e w1 ⟨rfl, rfl⟩)
  go_ret
  exact ⟨rfl, rfl⟩
theorem handles_nil : Calls Try.prog 25 #[.pointer none] w fun e w' => e = .returned (.slice none 0 0) ∧ w' = w := by
  go_enter Try.func25, Try.ntmps25
  go_wp2
  go_ret
  exact ⟨rfl, rfl⟩
theorem new_any (n : Int) (h0 : 0 ≤ n) (h1 : n ≤ 1048576) : Calls Try.prog 9 #[.int .i64 n] w fun e w' => e = .returned (.pointer (some ⟨w.heap.size, 0, none⟩)) ∧ Ar (fun k => k < w.heap.size) w' w.heap.size n [] [] ∧ Below w.heap.size w w' := by
  have hlow : ¬ (n < 0) := by omega
  have hhigh : ¬ (1048576 < n) := by omega
  go_enter Try.func9, Try.ntmps9
  go_wp2
  go_ret
  refine ⟨rfl, ⟨[], rfl, ⟨fun k hk => by simp; omega, .slice none 0 0, .slice none 0 0, ⟨Blk.new w _ _ _ rfl, World.ownsRow_nil _ _ _ _, World.ownsRow_nil _ _ _ _, by simp, by simp⟩, ?_⟩, ⟨by simpa using h0, h1, rfl, by simp, by simp⟩⟩, (Below.refl _ _).alloc (Nat.le_refl _) _⟩
  rintro k (hk | hk | hk | ⟨i, ws, hi⟩)
  · omega
  · simp [Value.ownBlock] at hk
  · simp [Value.ownBlock] at hk
  · simp at hi
theorem new_none (n : Int) (h0 : n < 0 ∨ 1048576 < n) : Calls Try.prog 9 #[.int .i64 n] w fun e w' => e = .returned (.pointer none) ∧ w' = w := by
  by_cases h : n < 0
  · go_enter Try.func9, Try.ntmps9
    go_wp2
    go_ret
    exact ⟨rfl, rfl⟩
  · have h' : 1048576 < n := by omega
    clear h0
    go_enter Try.func9, Try.ntmps9
    go_wp2
    go_ret
    exact ⟨rfl, rfl⟩
end
end Go.Proofs.Ytjbpffeembepcaa
