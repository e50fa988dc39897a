/- The document's arena: Give, New. -/
import Derived.Test.YtjbpffeembepcaaRefB5
namespace Go.Proofs.Ytjbpffeembepcaa
open Go.RowKit
set_option linter.unusedVariables false
set_option linter.unusedSimpArgs false

theorem rgive_none {w : World} {g : Nat} {most : Int} {rs : List RowR} {back : List Nat} {vc vb : Value} (h : RfC w g most rs back vc vb) (hl : rs.length ≤ 1048577) (x : Nat) (hx : x < 4294967296) (hn : hasR rs x = false) :
    Calls Try.prog 15 #[.pointer (some ⟨g, 0, none⟩), .int .u32 (x : Int)] w fun e w' => e = .returned (.int .i64 5) ∧ w' = w := by
  have T := rthere h hl x hx
  rw [hn] at T
  clear h hn hl
  go_enter Try.func15, Try.ntmps15
  go_wp2_with (go_at_call 19; refine T.mono ?_; rintro e w1 ⟨rfl, rfl⟩)
  go_ret
  exact ⟨rfl, rfl⟩
/-- A cell is laid anew: free, or with words that are none of another's. -/
theorem RfC.lay {w : World} {g : Nat} {most : Int} {rs : List RowR} {back : List Nat} {vb : Value} {gc cap n : Nat} (h : RfC w g most rs back (.slice (some ⟨gc, 0, none⟩) rs.length cap) vb) (hn : n < rs.length) (r : RowR) (u v : Value) (hr : cellR r = [u, v])
    (ho : ∀ v' ws, r = some (v', ws) → w.ownsRow 0 32 1 v' ws.length (u64s ws)) (hf : ∀ v' ws q, r = some (v', ws) → v'.ownBlock = some q → ∀ (i : Nat) (v2 : Value) (ws2 : List Int), rs[i]? = some (some (v2, ws2)) → v2.ownBlock ≠ some q) :
    RfC ((w.setCell ⟨gc, n * 2, none⟩ u).setCell ⟨gc, n * 2 + 1, none⟩ v) g most (rs.set n r) back (.slice (some ⟨gc, 0, none⟩) rs.length cap) vb := by
  have o1 := (h.rows.stored (n * 2) u).1
  have o2 := (o1.stored (n * 2 + 1) v).1
  rw [flatR_set rs n r _ _ hr hn] at o2
  have sm : ∀ k, k ≠ gc → ((w.setCell ⟨gc, n * 2, none⟩ u).setCell ⟨gc, n * 2 + 1, none⟩ v).heap[k]? = w.heap[k]? := fun k hk =>
    (Below.heap_setCell _ ⟨gc, n * 2 + 1, none⟩ _ k hk).trans (Below.heap_setCell _ ⟨gc, n * 2, none⟩ _ k hk)
  have ow : ∀ (i : Nat) (v' : Value) (ws' : List Int), (rs.set n r)[i]? = some (some (v', ws')) → i = n ∧ r = some (v', ws') ∨ i ≠ n ∧ rs[i]? = some (some (v', ws')) := by
    intro i v' ws' hi
    rw [List.getElem?_set] at hi
    split at hi
    · rename_i e
      simp only [hn, if_true, Option.some.injEq] at hi
      exact .inl ⟨e.symm, hi⟩
    · rename_i e
      exact .inr ⟨fun x => e x.symm, hi⟩
  refine ⟨(sm g (fun e => owns_apart h.rows h.blk (by decide) (by rw [e]; rfl))).trans h.blk, by rw [List.length_set]; exact o2, owns_same h.backs (fun k hk => sm k (fun e => owns_apart2 h.backs h.rows (by decide) k hk (by rw [e]; rfl))), ?_, ?_⟩
  · intro i v' ws' hi
    have b : w.ownsRow 0 32 1 v' ws'.length (u64s ws') := by
      rcases ow i v' ws' hi with ⟨_, e⟩ | ⟨_, hi'⟩
      · exact ho v' ws' e
      · exact h.words i v' ws' hi'
    exact owns_same b (fun k hk => sm k (fun e => owns_apart2 b h.rows (by decide) k hk (by rw [e]; rfl)))
  · intro i j q v1 v2 ws1 ws2 hi hj e1 e2
    rcases ow i v1 ws1 hi with ⟨h1, h2⟩ | ⟨_, hi'⟩
    · rcases ow j v2 ws2 hj with ⟨h4, _⟩ | ⟨_, hj'⟩
      · omega
      · exact absurd e2 (hf v1 ws1 q h2 e1 j v2 ws2 hj')
    · rcases ow j v2 ws2 hj with ⟨_, h5⟩ | ⟨_, hj'⟩
      · exact absurd e1 (hf v2 ws2 q h5 e2 i v1 ws1 hi')
      · exact h.apart i j q v1 v2 ws1 ws2 hi' hj' e1 e2
theorem RfC.pushed {w w' : World} {g : Nat} {most : Int} {rs : List RowR} {back back' : List Nat} {vc vb vb' : Value} (h : RfC w g most rs back vc vb) (sm : ∀ k, k < w.heap.size → vb.ownBlock ≠ some k → w'.heap[k]? = w.heap[k]?) (o : w'.ownsRow 0 28 1 vb' back'.length (u32s back')) :
    RfC (w'.setCell ⟨g, 1, none⟩ vb') g most rs back' vc vb' := by
  have b' : Blk w' g 49 [vc, vb, .int .i64 most] := (sm g h.blk.lt (owns_apart h.backs h.blk (by decide))).trans h.blk
  have sm2 : ∀ k, k ≠ g → (w'.setCell ⟨g, 1, none⟩ vb').heap[k]? = w'.heap[k]? := fun k hk => Below.heap_setCell w' ⟨g, 1, none⟩ _ k hk
  have orw : w'.ownsRow 0 45 2 vc rs.length (flatR rs) := owns_same h.rows (fun k hk => sm k (h.rows.lt k hk).2 (owns_apart2 h.rows h.backs (by decide) k hk))
  refine ⟨b'.set 1 vb', owns_same orw (fun k hk => sm2 k (fun e => owns_apart orw b' (by decide) (e ▸ hk))), owns_same o (fun k hk => sm2 k (fun e => owns_apart o b' (by decide) (e ▸ hk))), ?_, h.apart⟩
  intro i v ws hi
  have bq := h.words i v ws hi
  have bq' : w'.ownsRow 0 32 1 v ws.length (u64s ws) := owns_same bq (fun k hk => sm k (bq.lt k hk).2 (owns_apart2 bq h.backs (by decide) k hk))
  exact owns_same bq' (fun k hk => sm2 k (fun e => owns_apart bq' b' (by decide) (e ▸ hk)))
theorem absR_length (rs : List RowR) : (absR rs).length = rs.length := by simp [absR]
theorem absR_get (rs : List RowR) (n : Nat) : (absR rs)[n]? = rs[n]?.map (Option.map Prod.snd) := by simp [absR]
theorem absR_has {rs : List RowR} {cs : Cells} {n : Nat} {ws : List Int} (h : absR rs = none :: cs) (hn : cs[n]? = some (some ws)) : ∃ v, rs[n + 1]? = some (some (v, ws)) := by
  have e : (absR rs)[n + 1]? = some (some ws) := by rw [h]; simpa using hn
  rw [absR_get] at e
  cases hr : rs[n + 1]? with
  | none => rw [hr] at e; simp at e
  | some r =>
    rw [hr] at e
    rcases r with _ | ⟨q, ws'⟩
    · simp at e
    · simp at e
      subst e
      exact ⟨q, rfl⟩
theorem absR_none {rs : List RowR} {cs : Cells} {x : Nat} (h : absR rs = none :: cs) (hn : noH cs x) : hasR rs x = false := by
  have e : (absR rs)[x]? = (none :: cs)[x]? := by rw [h]
  rw [absR_get] at e
  have e2 : ((none :: cs)[x]?).join = none := by
    rcases x with _ | x
    · rfl
    · rw [List.getElem?_cons_succ]
      rcases hn with h0 | h0 | h0
      · omega
      · rw [List.getElem?_eq_none (by omega)]; rfl
      · simp only [Nat.add_sub_cancel] at h0
        rw [h0]; rfl
  unfold hasR
  rw [← e] at e2
  cases hr : rs[x]? with
  | none => rfl
  | some r =>
    rw [hr] at e2
    rcases r with _ | ⟨v, ws⟩
    · rfl
    · simp at e2
theorem absR_len {rs : List RowR} {cs : Cells} (h : absR rs = none :: cs) : rs.length = cs.length + 1 := by
  have := congrArg List.length h
  simpa [absR] using this

set_option maxHeartbeats 800000 in
theorem r_give_has {K : Nat → Prop} {w : World} {g : Nat} {most : Int} {cs : Cells} {back : List Nat} (A : Rf K w g most cs back) (n : Nat) (ws : List Int) (hn : cs[n]? = some (some ws)) :
    Calls Try.prog 15 #[.pointer (some ⟨g, 0, none⟩), .int .u32 ((n : Int) + 1)] w fun e w' => e = .returned (.int .i64 0) ∧ Rf K w' g most (cs.set n none) (back ++ [n + 1]) ∧ Kp K w w' := by
  obtain ⟨rs, h1, ⟨k0, vc, vb, a, k1⟩, G⟩ := A
  have hl := absR_len h1
  have hlen := G.len
  have hlim := G.lim
  have hbl := G.blen
  have hltc : n < cs.length := (List.getElem?_eq_some_iff.1 hn).1
  have hlt : n + 1 < rs.length := by omega
  obtain ⟨gc, cap, rfl⟩ := owns_slice a.rows (by omega)
  obtain ⟨v0, hq⟩ := absR_has h1 hn
  have T := rthere a (by omega) (n + 1) (by omega)
  rw [hasR_some hq] at T
  have z0 := (a.rows.cellAt ((n + 1) * 2) (by omega)).trans (flatR_get rs (n + 1) _ 0 hq (by omega))
  have z1 := (a.rows.cellAt ((n + 1) * 2 + 1) (by omega)).trans (flatR_get rs (n + 1) _ 1 hq (by omega))
  simp only [cellR] at z0 z1
  have y0 := a.rows.frozenAt ((n + 1) * 2)
  have y1 := a.rows.frozenAt ((n + 1) * 2 + 1)
  have p := a.lay hlt none (.slice none 0 0) (.bool false) rfl (fun _ _ e => by cases e) (fun _ _ _ e => by cases e)
  obtain ⟨w2, hw2⟩ : ∃ w2, w2 = (w.setCell ⟨gc, (n + 1) * 2, none⟩ (.slice none 0 0)).setCell ⟨gc, (n + 1) * 2 + 1, none⟩ (.bool false) := ⟨_, rfl⟩
  rw [← hw2] at p
  have c2 : w2.cell? ⟨g, 1, none⟩ = some vb := p.blk.cell 1
  have nKc : ¬ K gc := k1 gc (.inr (.inl rfl))
  have kp2 : Kp K w w2 := by rw [hw2]; exact ((Kp.refl K w).setCell _ _ _ nKc).setCell _ _ _ nKc
  obtain ⟨i, i1, i2, i3, i4⟩ := info_u32
  obtain ⟨v', w', r, o, gr, hv⟩ := append_lit (P := Try.prog) w2 0 47 28 i _ 1 4 Try.underlying47 i1 i2 i3 i4 rfl (by omega) vb _ _ p.backs [.int .u32 ((n : Int) + 1)] rfl (by
    intro u hu
    simp at hu
    subst hu
    rfl) (by omega) (by omega) (by omega)
  obtain ⟨av, capv, hvv⟩ := owns_slice' o
  have sm : ∀ k, k < w2.heap.size → vb.ownBlock ≠ some k → w'.heap[k]? = w2.heap[k]? := fun k hk hnn =>
    (gr.block k (by simp; omega) (fun e => hnn e.symm)).trans (Below.heap_alloc w2 _ k hk)
  have b' : Blk w' g 49 [.slice (some ⟨gc, 0, none⟩) rs.length cap, vb, .int .i64 most] := (sm g p.blk.lt (owns_apart p.backs p.blk (by decide))).trans p.blk
  have c2' : w'.cell? ⟨g, 1, none⟩ = some vb := b'.cell 1
  have f2' : w'.frozen? ⟨g, 1, none⟩ = false := b'.frozen 1
  have kp : Kp K w w' := (kp2.alloc _).grown gr (fun k hk => k1 k (.inr (.inr (.inl hk))))
  have R : Hid (Rf K (w'.setCell ⟨g, 1, none⟩ v') g most (cs.set n none) (back ++ [n + 1]) ∧ Kp K w (w'.setCell ⟨g, 1, none⟩ v')) := by
    refine ⟨⟨rs.set (n + 1) none, by unfold absR; rw [List.map_set]; show (absR rs).set (n + 1) none = _; rw [h1, List.set_cons_succ], ⟨fun k hk => by have := k0 k hk; have := kp.size; simp [World.setCell]; omega, _, v', p.pushed sm (by simpa [u32s] using o), ?_⟩, G.give n ws hn⟩, kp.setCell _ _ _ (k1 g (.inl rfl))⟩
    rintro k (hk | hk | hk | ⟨j, v2, ws', hj, e2⟩)
    · exact k1 k (.inl hk)
    · exact k1 k (.inr (.inl hk))
    · rcases hv with hv | hv
      · exact k1 k (.inr (.inr (.inl (hv ▸ hk))))
      · rw [hv] at hk
        simp at hk
        intro hK
        have := k0 k hK
        have := kp2.size
        omega
    · refine k1 k (.inr (.inr (.inr ⟨j, v2, ws', ?_, e2⟩)))
      rw [List.getElem?_set] at hj
      split at hj
      · simp at hj
      · exact hj
  subst hvv
  have c2w : w.cell? ⟨g, 1, none⟩ = some vb := a.blk.cell 1
  have c0w : w.cell? ⟨g, 0, none⟩ = some (.slice (some ⟨gc, 0, none⟩) rs.length cap) := a.blk.cell 0
  have hne : ¬ gc = g := fun e => owns_apart a.rows a.blk (by decide) (by rw [e]; rfl)
  have hne' : ¬ g = gc := fun e => hne e.symm
  obtain ⟨x, hx⟩ : ∃ x : Nat, x = n + 1 := ⟨_, rfl⟩
  have hxi : ((n : Int) + 1) = (x : Int) := by omega
  rw [hxi] at r ⊢
  rw [← hx] at T hw2 z0 z1 y0 y1 hlt
  have hlti : (x : Int) < (rs.length : Int) := by omega
  clear a p G k1 k0 kp kp2 sm b' o gr hv h1 hn hq i1 i2 i3 i4 nKc hlen hlim hbl hl hltc hx hxi
  subst hw2
  simp only [World.size_setCell] at r
  go_enter Try.func15, Try.ntmps15
  go_wp2_with (first | (go_at_call 19; refine T.mono ?_; rintro e w1 ⟨rfl, rfl⟩) | (at_builtin; refine wpList_append_run rfl _ _ _ _ rfl _ _ _ _ rfl rfl r ?_))
  go_ret
  exact ⟨rfl, R.out⟩
end Go.Proofs.Ytjbpffeembepcaa
