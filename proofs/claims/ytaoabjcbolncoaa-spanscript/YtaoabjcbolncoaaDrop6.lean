/- Drop. -/
import Derived.Test.YtaoabjcbolncoaaCut6
namespace Go.Proofs.Ytaoabjcbolncoaa
open Go.RowKit
set_option linter.unusedVariables false
set_option linter.unusedSimpArgs false

theorem SpC.pushed {w w' : World} {g : Nat} {most used : Int} {rs : List Txt} {back back' : List Nat} {vt vb vb' : Value} (h : SpC w g most used rs back vt vb) (sm : ∀ k, k < w.heap.size → vb.ownBlock ≠ some k → w'.heap[k]? = w.heap[k]?) (o : w'.ownsRow 0 28 1 vb' back'.length (u32s back')) :
    SpC (w'.setCell ⟨g, 3, none⟩ vb') g most used rs back' vt vb' := by
  have b' : Blk w' g 57 [.int .i64 most, .int .i64 used, vt, vb] := (sm g h.blk.lt (owns_apart h.backs h.blk (by decide))).trans h.blk
  have sm2 : ∀ k, k ≠ g → (w'.setCell ⟨g, 3, none⟩ vb').heap[k]? = w'.heap[k]? := fun k hk => Below.heap_setCell w' ⟨g, 3, none⟩ _ k hk
  have orw : w'.ownsRow 0 60 3 vt rs.length (flat cell3 rs) := owns_same h.rows (fun k hk => sm k (h.rows.lt k hk).2 (owns_apart2 h.rows h.backs (by decide) k hk))
  refine ⟨b'.set 3 vb', owns_same orw (fun k hk => sm2 k (fun e => owns_apart orw b' (by decide) (e ▸ hk))), owns_same o (fun k hk => sm2 k (fun e => owns_apart o b' (by decide) (e ▸ hk))), ?_, h.apart⟩
  intro i q l ws hi
  have bq := h.words i q l ws hi
  have bq' := bq.same (sm q bq.blk.lt (owns_apart h.backs bq.blk (by decide)))
  exact bq'.same (sm2 q (blk_apart bq'.blk b' (by decide)))

theorem Still.trans {a b c : World} (h : Still a b) (k : Still b c) : Still a c := by
  obtain ⟨n, rfl⟩ := h
  obtain ⟨m, rfl⟩ := k
  exact ⟨n + m, by simp⟩
set_option maxHeartbeats 1600000 in
theorem drop_has {K : Nat → Prop} {w : World} {g : Nat} {most : Int} {cs : Strs} {back : List Nat} (A : Sp g most cs back K w) (hc : cs.length ≤ 2147483648) (n : Nat) (xs : List Int) (hn : cs[n]? = some (some xs)) :
    Calls Try.prog 16 #[.pointer (some ⟨g, 0, none⟩), .int .u32 ((n : Int) + 1)] w fun e w' => e = .returned (.int .i64 0) ∧ Sp g most (cs.set n none) (back ++ [n + 1]) K w' ∧ Kp K w w' := by
  have G := A.good
  have hbl := G.blen
  obtain ⟨rs, h1, ⟨k0, vt, vb, a, kk⟩, -⟩ := A
  have hl : cs.length = rs.length := by rw [← h1, absT_length]
  have hlt : n < rs.length := by rw [← hl]; exact (List.getElem?_eq_some_iff.1 hn).1
  obtain ⟨q, l, zs, hq, rfl⟩ := absT_has h1 hn
  obtain ⟨gc, cap, rfl⟩ := owns_slice a.rows (by omega)
  have F := find_has a (by omega) n q l zs hq
  have T := a.words n q l zs hq
  have d0 : w.cell? ⟨gc, n * 3, none⟩ = some (.slice (some ⟨q, 0, none⟩) zs.length zs.length) := (a.rows.cellAt (n * 3) (by omega)).trans (flat_get cell3_length rs n _ 0 hq (by omega))
  have d1 : w.cell? ⟨gc, n * 3 + 1, none⟩ = some (.int .i64 (l : Int)) := (a.rows.cellAt (n * 3 + 1) (by omega)).trans (flat_get cell3_length rs n _ 1 hq (by omega))
  have ht := total_set cs n (some (zs.drop l)) none hn
  have htl := total_get cs n _ hn
  simp only [lenO] at ht htl
  have hroom := G.room
  have hlim := G.lim
  obtain ⟨u, hu⟩ : ∃ u : Int, u = (total cs : Int) := ⟨_, rfl⟩
  obtain ⟨u2, hu2⟩ : ∃ u2 : Int, u2 = (total (cs.set n none) : Int) := ⟨_, rfl⟩
  have hud : u - ((zs.drop l).length : Int) = u2 := by omega
  rw [← hu] at a
  have cb : w.cell? ⟨g, 3, none⟩ = some vb := a.blk.cell 3
  have hne : ¬ gc = g := fun e => owns_apart a.rows a.blk (by decide) (by rw [e]; rfl)
  have hne' : ¬ g = gc := fun e => hne e.symm
  have e1 : wrap64 u2 = u2 := wrap64_in _ (by omega)
  have e2 : IntKind.i64.wrap u2 = u2 := by rw [IntKind.wrap_i64]; omega
  have S : ∀ W, Still w W → ∃ av capv w', (Builtin.append_ #[45, 45] 45 #[vb, .slice (some ⟨W.heap.size, 0, none⟩) 1 1]).run Try.prog
      ((((((W.setCell ⟨g, 1, none⟩ (.int .i64 u2)).setCell ⟨gc, n * 3, none⟩ (.slice none 0 0)).setCell ⟨gc, n * 3 + 1, none⟩ (.int .i64 0)).setCell ⟨gc, n * 3 + 2, none⟩ (.bool false))).alloc (.cells #[.int .u32 ((n : Int) + 1)] 28)) = .ok (.slice av (back.length + 1) capv) w' ∧
      w'.cell? ⟨g, 3, none⟩ = some vb ∧ w'.frozen? ⟨g, 3, none⟩ = false ∧
      Hid (Sp g most (cs.set n none) (back ++ [n + 1]) K (w'.setCell ⟨g, 3, none⟩ (.slice av (back.length + 1) capv)) ∧ Kp K w (w'.setCell ⟨g, 3, none⟩ (.slice av (back.length + 1) capv))) := by
    intro W s
    have a1 := (a.still s).use u2
    have sz : W.heap.size = w.heap.size := by obtain ⟨nn, rfl⟩ := s; rfl
    have o2 := three_set a1.rows hlt none _ _ _ rfl
    obtain ⟨w1, hw1⟩ : ∃ w1, w1 = W.setCell ⟨g, 1, none⟩ (.int .i64 u2) := ⟨_, rfl⟩
    rw [← hw1] at a1 o2 ⊢
    obtain ⟨w2, hw2⟩ : ∃ w2, w2 = ((w1.setCell ⟨gc, n * 3, none⟩ (.slice none 0 0)).setCell ⟨gc, n * 3 + 1, none⟩ (.int .i64 0)).setCell ⟨gc, n * 3 + 2, none⟩ (.bool false) := ⟨_, rfl⟩
    rw [← hw2] at o2 ⊢
    have sm2 : ∀ k, k ≠ gc → w2.heap[k]? = w1.heap[k]? := fun k hk => by
      rw [hw2]
      exact (Below.heap_setCell _ ⟨gc, n * 3 + 2, none⟩ _ k hk).trans ((Below.heap_setCell _ ⟨gc, n * 3 + 1, none⟩ _ k hk).trans (Below.heap_setCell _ ⟨gc, n * 3, none⟩ _ k hk))
    have p := a1.turn (r := none) hlt o2 (fun k _ hk => sm2 k (fun e => hk (by rw [e]; rfl))) (fun q l xs e => by cases e) (fun q l xs e => by cases e)
    have nKc : ¬ K gc := kk gc (.inr (.inl rfl))
    have nG : ¬ K g := kk g (.inl rfl)
    have kp2 : Kp K w w2 := by
      rw [hw2, hw1]
      exact ((((s.kp K).setCell _ _ _ nG).setCell _ _ _ nKc).setCell _ _ _ nKc).setCell _ _ _ nKc
    have hz : w2.heap.size = W.heap.size := by rw [hw2, hw1]; simp [World.setCell]
    obtain ⟨i, i1, i2, i3, i4⟩ := info_u32
    obtain ⟨v', w', r, o, gr, hv⟩ := append_lit (P := Try.prog) w2 0 45 28 i _ 1 4 Try.underlying45 i1 i2 i3 i4 rfl (by omega) vb _ _ p.backs [.int .u32 ((n : Int) + 1)] rfl (by
      intro u hu
      simp at hu
      subst hu
      rfl) (by omega) (by omega) (by omega)
    obtain ⟨av, capv, rfl⟩ := owns_slice' o
    have sm : ∀ k, k < w2.heap.size → vb.ownBlock ≠ some k → w'.heap[k]? = w2.heap[k]? := fun k hk hnn =>
      (gr.block k (by simp; omega) (fun e => hnn e.symm)).trans (Below.heap_alloc w2 _ k hk)
    have b' : Blk w' g 57 [.int .i64 most, .int .i64 u2, .slice (some ⟨gc, 0, none⟩) rs.length cap, vb] := (sm g p.blk.lt (owns_apart p.backs p.blk (by decide))).trans p.blk
    have kp : Kp K w w' := (kp2.alloc _).grown gr (fun k hk => kk k (.inr (.inr (.inl hk))))
    rw [hz] at r
    refine ⟨av, capv, w', r, b'.cell 3, b'.frozen 3, ⟨rs.set n none, by rw [← h1]; simp [absT, List.map_set], ⟨fun k hk => by have := k0 k hk; have := kp.size; simp [World.setCell]; omega, _, _, by rw [← hu2]; exact p.pushed sm (by simpa [u32s] using o), ?_⟩, G.give n _ hn⟩, kp.setCell _ _ _ nG⟩
    rintro k (hk | hk | hk | ⟨j, l', ws', hj⟩)
    · exact kk k (.inl hk)
    · exact kk k (.inr (.inl hk))
    · rcases hv with hv | hv
      · exact kk k (.inr (.inr (.inl (hv ▸ hk))))
      · rw [hv] at hk
        simp at hk
        intro hK
        have := k0 k hK
        omega
    · refine kk k (.inr (.inr (.inr ⟨j, l', ws', ?_⟩)))
      rw [List.getElem?_set] at hj
      split at hj
      · simp at hj
      · exact hj
  have FB : Hid (∀ W, Still w W → W.frozen? ⟨g, 1, none⟩ = false ∧ W.cell? ⟨g, 1, none⟩ = some (.int .i64 u) ∧ W.cell? ⟨g, 3, none⟩ = some vb ∧ W.frozen? ⟨gc, n * 3, none⟩ = false ∧ W.frozen? ⟨gc, n * 3 + 1, none⟩ = false ∧ W.frozen? ⟨gc, n * 3 + 2, none⟩ = false ∧ W.cell? ⟨gc, n * 3, none⟩ = some (.slice (some ⟨q, 0, none⟩) zs.length zs.length) ∧ W.cell? ⟨gc, n * 3 + 1, none⟩ = some (.int .i64 (l : Int)) ∧ W.cell? ⟨gc, n * 3 + 2, none⟩ = some (.bool true)) := by
    intro W s
    obtain ⟨nn, rfl⟩ := s
    exact ⟨a.blk.frozen 1, a.blk.cell 1, cb, a.rows.frozenAt (n * 3), a.rows.frozenAt (n * 3 + 1), a.rows.frozenAt (n * 3 + 2), d0, d1, (a.rows.cellAt (n * 3 + 2) (by omega)).trans (flat_get cell3_length rs n _ 2 hq (by omega))⟩
  have R2 : Hid (∀ W, Still w W → Calls Try.prog 29 #[.pointer (some ⟨gc, n * 3, none⟩)] W fun e w' => e = .returned (.slice (some ⟨q, offL l zs.length, none⟩) (zs.drop l).length (zs.drop l).length) ∧ Still W w') := by
    intro W s
    obtain ⟨nn, rfl⟩ := s
    have R := rest_any (w := w.drewN nn) d0 d1 T.lost T.len
    rw [show zs.length - l = (zs.drop l).length by simp] at R
    exact R
  have HS := hide S
  have c1 : w.cell? ⟨g, 1, none⟩ = some (.int .i64 u) := a.blk.cell 1
  clear a kk k0 hq hn T h1 G htl hl hlt hc ht hroom hlim hu hu2 hbl S d0 d1 cb
  generalize zs.drop l = ys at *
  go_enter Try.func16, Try.ntmps16
  go_wp2_with fail
  refine F.mono ?_
  rintro e w1 ⟨rfl, rfl⟩
  have D1 : Hid (Still w1 w1.drew) := ⟨1, rfl⟩
  go_wp2_with fail
  go_region_with (go_at_call 29; refine (R2.out _ D1.out).mono ?_; rintro e w2 ⟨rfl, s2⟩; have S2 := hide (Still.trans D1.out s2); obtain ⟨x1, x2, x3, x4, x5, x6, x7, x8, x9⟩ := FB.out _ S2.out; clear s2)
  all_goals (
    obtain ⟨av, capv, w', r, y1, y2, hR⟩ := HS.out _ S2.out
    go_wp2_with (at_builtin; refine wpList_append_run rfl _ _ _ _ rfl _ _ _ _ rfl rfl r ?_)
    go_ret
    exact ⟨rfl, hR.out⟩)
theorem drop_none {K : Nat → Prop} {w : World} {g : Nat} {most : Int} {cs : Strs} {back : List Nat} (A : Sp g most cs back K w) (hc : cs.length ≤ 2147483648) (x : Nat) (hx : x < 4294967296) (hn : noH cs x) :
    Calls Try.prog 16 #[.pointer (some ⟨g, 0, none⟩), .int .u32 (x : Int)] w fun e w' => e = .returned (.int .i64 5) ∧ w' = w := by
  obtain ⟨rs, h1, ⟨k0, vt, vb, a, kk⟩, G⟩ := A
  have hl : cs.length = rs.length := by rw [← h1, absT_length]
  have F := find_none a (by omega) x hx (absT_none h1 hn)
  clear a kk k0 h1 G hl hc hn
  go_enter Try.func16, Try.ntmps16
  go_wp2_with fail
  refine F.mono ?_
  rintro e w1 ⟨rfl, rfl⟩
  go_wp2_with fail
  go_ret
  exact ⟨rfl, rfl⟩
theorem drop_nil (w : World) (x : Int) : Calls Try.prog 16 #[.pointer none, .int .u32 x] w fun e w' => e = .returned (.int .i64 1) ∧ w' = w := by
  go_enter Try.func16, Try.ntmps16
  go_wp2_with fail
  refine (find_nil _ _).mono ?_
  rintro e w1 ⟨rfl, rfl⟩
  go_wp2_with fail
  go_ret
  exact ⟨rfl, rfl⟩
end Go.Proofs.Ytaoabjcbolncoaa
