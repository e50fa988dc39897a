/- The document's pool: Drop. -/
import Derived.Test.YtaoabjcbolncoaaRfA6
namespace Go.Proofs.Ytaoabjcbolncoaa
open Go.RowKit
set_option linter.unusedVariables false
set_option linter.unusedSimpArgs false

theorem map_set_cell {α : Type} (f : α → Value) (rs : List α) (n : Nat) (r : α) : (rs.map f).set n (f r) = (rs.set n r).map f := by rw [List.map_set]
/-- Both rows are set at one place. -/
theorem RfC.lay {w : World} {g : Nat} {most used : Int} {rs : List RowR} {back : List Nat} {vb : Value} {gs cs gt ct n : Nat} (h : RfC w g most used rs back (.slice (some ⟨gs, 0, none⟩) rs.length cs) (.slice (some ⟨gt, 0, none⟩) rs.length ct) vb) (hn : n < rs.length) (r : RowR)
    (ho : ∀ v ws, r = some (v, ws) → w.ownsRow 0 5 1 v ws.length (u8s ws) ∧ IsBytes ws) (hf : ∀ v ws q, r = some (v, ws) → v.ownBlock = some q → ∀ (i : Nat) (v2 : Value) (ws2 : List Int), i ≠ n → rs[i]? = some (some (v2, ws2)) → v2.ownBlock ≠ some q) (w' : World)
    (hw' : w' = (w.setCell ⟨gs, n, none⟩ (sCell r)).setCell ⟨gt, n, none⟩ (tCell r) ∨ w' = (w.setCell ⟨gt, n, none⟩ (tCell r)).setCell ⟨gs, n, none⟩ (sCell r)) :
    RfC w' g most used (rs.set n r) back (.slice (some ⟨gs, 0, none⟩) rs.length cs) (.slice (some ⟨gt, 0, none⟩) rs.length ct) vb := by
  have hne : gs ≠ gt := fun e => owns_apart2 h.ss h.ts (by decide) gs rfl (by rw [e]; rfl)
  have key : w'.ownsRow 0 29 1 (.slice (some ⟨gs, 0, none⟩) rs.length cs) rs.length ((rs.set n r).map sCell) ∧ w'.ownsRow 0 4 1 (.slice (some ⟨gt, 0, none⟩) rs.length ct) rs.length ((rs.set n r).map tCell) ∧ ∀ k, k ≠ gs → k ≠ gt → w'.heap[k]? = w.heap[k]? := by
    have s1 := (h.ss.stored n (sCell r)).1
    have t1 := (h.ts.stored n (tCell r)).1
    rw [map_set_cell] at s1 t1
    rcases hw' with rfl | rfl
    · refine ⟨owns_same s1 (fun k hk => Below.heap_setCell _ ⟨gt, n, none⟩ _ k (fun e => hne (by simp [Value.ownBlock] at hk; exact hk.trans e))), ?_, fun k h1 h2 => (Below.heap_setCell _ ⟨gt, n, none⟩ _ k h2).trans (Below.heap_setCell _ ⟨gs, n, none⟩ _ k h1)⟩
      have t0 : (w.setCell ⟨gs, n, none⟩ (sCell r)).ownsRow 0 4 1 (.slice (some ⟨gt, 0, none⟩) rs.length ct) rs.length (rs.map tCell) := owns_same h.ts (fun k hk => Below.heap_setCell _ ⟨gs, n, none⟩ _ k (fun e => hne (by simp [Value.ownBlock] at hk; exact (hk.trans e).symm)))
      have t2 := (t0.stored n (tCell r)).1
      rwa [map_set_cell] at t2
    · refine ⟨?_, owns_same t1 (fun k hk => Below.heap_setCell _ ⟨gs, n, none⟩ _ k (fun e => hne (by simp [Value.ownBlock] at hk; exact (hk.trans e).symm))), fun k h1 h2 => (Below.heap_setCell _ ⟨gs, n, none⟩ _ k h1).trans (Below.heap_setCell _ ⟨gt, n, none⟩ _ k h2)⟩
      have s0 : (w.setCell ⟨gt, n, none⟩ (tCell r)).ownsRow 0 29 1 (.slice (some ⟨gs, 0, none⟩) rs.length cs) rs.length (rs.map sCell) := owns_same h.ss (fun k hk => Below.heap_setCell _ ⟨gt, n, none⟩ _ k (fun e => hne (by simp [Value.ownBlock] at hk; exact hk.trans e)))
      have s2 := (s0.stored n (sCell r)).1
      rwa [map_set_cell] at s2
  obtain ⟨k1, k2, sm⟩ := key
  refine h.turn hn k1 k2 (fun k _ h1 h2 => sm k (fun e => h1 (by rw [e]; rfl)) (fun e => h2 (by rw [e]; rfl))) (fun v ws e => ?_) hf
  have o := ho v ws e
  exact ⟨owns_same o.1 (fun k hk => sm k (fun e => owns_apart2 o.1 h.ss (by decide) k hk (by rw [e]; rfl)) (fun e => owns_apart2 o.1 h.ts (by decide) k hk (by rw [e]; rfl))), o.2⟩
/-- What was dropped is told. -/
theorem RfC.pushed {w w' : World} {g : Nat} {most used : Int} {rs : List RowR} {back back' : List Nat} {vs vt vb vb' : Value} (h : RfC w g most used rs back vs vt vb) (sm : ∀ k, k < w.heap.size → vb.ownBlock ≠ some k → w'.heap[k]? = w.heap[k]?) (o : w'.ownsRow 0 28 1 vb' back'.length (u32s back')) :
    RfC (w'.setCell ⟨g, 2, none⟩ vb') g most used rs back' vs vt vb' := by
  have b' : Blk w' g 47 [vs, vt, vb, .int .i64 most, .int .i64 used] := (sm g h.blk.lt (owns_apart h.backs h.blk (by decide))).trans h.blk
  have sm2 : ∀ k, k ≠ g → (w'.setCell ⟨g, 2, none⟩ vb').heap[k]? = w'.heap[k]? := fun k hk => Below.heap_setCell w' ⟨g, 2, none⟩ _ k hk
  have os : w'.ownsRow 0 29 1 vs rs.length (rs.map sCell) := owns_same h.ss (fun k hk => sm k (h.ss.lt k hk).2 (owns_apart2 h.ss h.backs (by decide) k hk))
  have ot : w'.ownsRow 0 4 1 vt rs.length (rs.map tCell) := owns_same h.ts (fun k hk => sm k (h.ts.lt k hk).2 (owns_apart2 h.ts h.backs (by decide) k hk))
  refine ⟨b'.set 2 vb', owns_same os (fun k hk => sm2 k (fun e => owns_apart os b' (by decide) (e ▸ hk))), owns_same ot (fun k hk => sm2 k (fun e => owns_apart ot b' (by decide) (e ▸ hk))), owns_same o (fun k hk => sm2 k (fun e => owns_apart o b' (by decide) (e ▸ hk))), ?_, h.apart⟩
  intro i v ws hi
  have bq := h.words i v ws hi
  have bq' : w'.ownsRow 0 5 1 v ws.length (u8s ws) := owns_same bq.1 (fun k hk => sm k (bq.1.lt k hk).2 (owns_apart2 bq.1 h.backs (by decide) k hk))
  exact ⟨owns_same bq' (fun k hk => sm2 k (fun e => owns_apart bq' b' (by decide) (e ▸ hk))), bq.2⟩

set_option maxHeartbeats 1600000 in
theorem rdrop_has {K : Nat → Prop} {w : World} {g : Nat} {most : Int} {cs : Strs} {back : List Nat} (A : Rf g most cs back K w) (hc : cs.length ≤ 2147483648) (n : Nat) (xs : List Int) (hn : cs[n]? = some (some xs)) :
    Calls Try.prog 17 #[.pointer (some ⟨g, 0, none⟩), .int .u32 ((n : Int) + 1)] w fun e w' => e = .returned (.int .i64 0) ∧ Rf g most (cs.set n none) (back ++ [n + 1]) K w' ∧ Kp K w w' := by
  have hlt0 := (List.getElem?_eq_some_iff.1 hn).1
  have T := r_has A hc (n + 1) (by omega)
  rw [atH_has hn, nat_succ] at T
  have G := A.good
  have hbl := G.blen
  obtain ⟨rs, h1, ⟨k0, vs, vt, vb, a, kk⟩, -⟩ := A
  have hl := absR_len h1
  obtain ⟨v0, hr⟩ := absR_has h1 hn
  obtain ⟨gs, cas, rfl⟩ := owns_slice a.ss (by omega)
  obtain ⟨gt, cat, rfl⟩ := owns_slice a.ts (by omega)
  obtain ⟨a0, c0, rfl⟩ := owns_slice' (a.words _ _ _ hr).1
  have ht := total_set cs n (some xs) none hn
  have htl := total_get cs n _ hn
  simp only [lenO] at ht htl
  have hroom := G.room
  have hlim := G.lim
  obtain ⟨u, hu⟩ : ∃ u : Int, u = (total cs : Int) := ⟨_, rfl⟩
  obtain ⟨u2, hu2⟩ : ∃ u2 : Int, u2 = (total (cs.set n none) : Int) := ⟨_, rfl⟩
  have hud : u - (xs.length : Int) = u2 := by omega
  have e1 : wrap64 u2 = u2 := wrap64_in _ (by omega)
  have e2 : IntKind.i64.wrap u2 = u2 := by rw [IntKind.wrap_i64]; omega
  rw [← hu] at a
  obtain ⟨x, hx⟩ : ∃ x : Int, x = (n : Int) + 1 := ⟨_, rfl⟩
  obtain ⟨N, hN⟩ : ∃ N : Nat, N = n + 1 := ⟨_, rfl⟩
  have hxN : x = (N : Int) := by omega
  rw [← hx, hxN] at T ⊢
  rw [← hN] at hr
  have hNl : N < rs.length := by omega
  have hNi : (N : Int) < (rs.length : Int) := by omega
  have FB : Hid (∀ W, Still w W → W.cell? ⟨g, 0, none⟩ = some (.slice (some ⟨gs, 0, none⟩) rs.length cas) ∧ W.cell? ⟨g, 1, none⟩ = some (.slice (some ⟨gt, 0, none⟩) rs.length cat) ∧ W.cell? ⟨g, 4, none⟩ = some (.int .i64 u) ∧ W.frozen? ⟨g, 4, none⟩ = false ∧ W.cell? ⟨gs, N, none⟩ = some (.slice a0 xs.length c0) ∧ W.frozen? ⟨gs, N, none⟩ = false ∧ W.cell? ⟨gt, N, none⟩ = some (.bool true) ∧ W.frozen? ⟨gt, N, none⟩ = false ∧ W.cell? ⟨g, 2, none⟩ = some vb) := by
    intro W s
    obtain ⟨nn, rfl⟩ := s
    exact ⟨a.blk.cell 0, a.blk.cell 1, a.blk.cell 4, a.blk.frozen 4, (a.ss.cellAt N (by simpa using hNl)).trans (by rw [List.getElem?_map, hr]; rfl), a.ss.frozenAt N, (a.ts.cellAt N (by simpa using hNl)).trans (by rw [List.getElem?_map, hr]; rfl), a.ts.frozenAt N, a.blk.cell 2⟩
  obtain ⟨x0, x1, x2, x3, x4, x5, x6, x7, x8⟩ := FB.out w ⟨0, rfl⟩
  have n1 : ¬ gs = g := fun e => owns_apart a.ss a.blk (by decide) (by rw [e]; rfl)
  have n2 : ¬ gt = g := fun e => owns_apart a.ts a.blk (by decide) (by rw [e]; rfl)
  have n3 : ¬ gs = gt := fun e => owns_apart2 a.ss a.ts (by decide) gs rfl (by rw [e]; rfl)
  have n1' : ¬ g = gs := fun e => n1 e.symm
  have n2' : ¬ g = gt := fun e => n2 e.symm
  have n3' : ¬ gt = gs := fun e => n3 e.symm
  have S : ∃ av capv w', (Builtin.append_ #[45, 45] 45 #[vb, .slice (some ⟨w.heap.size, 0, none⟩) 1 1]).run Try.prog
      ((((w.setCell ⟨g, 4, none⟩ (.int .i64 u2)).setCell ⟨gs, N, none⟩ (.slice none 0 0)).setCell ⟨gt, N, none⟩ (.bool false)).alloc (.cells #[.int .u32 (N : Int)] 28)).drew.drew = .ok (.slice av (back.length + 1) capv) w' ∧
      w'.cell? ⟨g, 2, none⟩ = some vb ∧ w'.frozen? ⟨g, 2, none⟩ = false ∧
      Hid (Rf g most (cs.set n none) (back ++ [n + 1]) K (w'.setCell ⟨g, 2, none⟩ (.slice av (back.length + 1) capv)) ∧ Kp K w (w'.setCell ⟨g, 2, none⟩ (.slice av (back.length + 1) capv))) := by
    have a1 := a.use u2
    obtain ⟨w1, hw1⟩ : ∃ w1, w1 = w.setCell ⟨g, 4, none⟩ (.int .i64 u2) := ⟨_, rfl⟩
    rw [← hw1] at a1 ⊢
    obtain ⟨w2, hw2⟩ : ∃ w2, w2 = (w1.setCell ⟨gs, N, none⟩ (.slice none 0 0)).setCell ⟨gt, N, none⟩ (.bool false) := ⟨_, rfl⟩
    have p := a1.lay hNl none (fun v ws e => by cases e) (fun v ws q e => by cases e) w2 (.inl hw2)
    rw [← hw2]
    have nKs : ¬ K gs := kk gs (.inr (.inl rfl))
    have nKt : ¬ K gt := kk gt (.inr (.inr (.inl rfl)))
    have nG : ¬ K g := kk g (.inl rfl)
    have kp2 : Kp K w w2 := by
      rw [hw2, hw1]
      exact (((Kp.refl K w).setCell _ _ _ nG).setCell _ _ _ nKs).setCell _ _ _ nKt
    have hz : w2.heap.size = w.heap.size := by rw [hw2, hw1]; simp [World.setCell]
    have p2 : RfC w2.drew.drew g most u2 (rs.set N none) back (.slice (some ⟨gs, 0, none⟩) rs.length cas) (.slice (some ⟨gt, 0, none⟩) rs.length cat) vb := p.same (fun _ _ => rfl)
    obtain ⟨i, i1, i2, i3, i4⟩ := info_u32
    obtain ⟨v', w', r, o, gr, hv⟩ := append_lit (P := Try.prog) w2.drew.drew 0 45 28 i _ 1 4 Try.underlying45 i1 i2 i3 i4 rfl (by omega) vb _ _ p2.backs [.int .u32 (N : Int)] rfl (by
      intro u hu
      simp at hu
      subst hu
      rfl) (by omega) (by omega) (by omega)
    obtain ⟨av, capv, rfl⟩ := owns_slice' o
    have sm : ∀ k, k < w2.drew.drew.heap.size → vb.ownBlock ≠ some k → w'.heap[k]? = w2.drew.drew.heap[k]? := fun k hk hnn =>
      (gr.block k (by simp; simp at hk; omega) (fun e => hnn e.symm)).trans (Below.heap_alloc w2.drew.drew _ k hk)
    have b' : Blk w' g 47 [.slice (some ⟨gs, 0, none⟩) rs.length cas, .slice (some ⟨gt, 0, none⟩) rs.length cat, vb, .int .i64 most, .int .i64 u2] := (sm g p2.blk.lt (owns_apart p2.backs p2.blk (by decide))).trans p2.blk
    have kp : Kp K w w' := ((kp2.drew.drew).alloc _).grown gr (fun k hk => kk k (.inr (.inr (.inr (.inl hk)))))
    have r' : (Builtin.append_ #[45, 45] 45 #[vb, .slice (some ⟨w2.heap.size, 0, none⟩) 1 1]).run Try.prog (w2.alloc (.cells #[.int .u32 (N : Int)] 28)).drew.drew = .ok (.slice av (back.length + 1) capv) w' := r
    rw [hz] at r'
    refine ⟨av, capv, w', r', b'.cell 2, b'.frozen 2, ⟨rs.set N none, ?_, ⟨fun k hk => by have := k0 k hk; have := kp.size; simp [World.setCell]; omega, _, _, _, by rw [← hu2]; exact p2.pushed sm (by simpa [u32s, hN] using o), ?_⟩, G.give n _ hn⟩, kp.setCell _ _ _ nG⟩
    · unfold absR
      rw [List.map_set]
      show (absR rs).set N none = _
      rw [h1, hN, List.set_cons_succ]
    rintro k (hk | hk | hk | hk | ⟨j, v1, ws', hj, e⟩)
    · exact kk k (.inl hk)
    · exact kk k (.inr (.inl hk))
    · exact kk k (.inr (.inr (.inl hk)))
    · rcases hv with hv | hv
      · exact kk k (.inr (.inr (.inr (.inl (hv ▸ hk)))))
      · rw [hv] at hk
        simp at hk
        intro hK
        have := k0 k hK
        omega
    · refine kk k (.inr (.inr (.inr (.inr ⟨j, v1, ws', ?_, e⟩))))
      rw [List.getElem?_set] at hj
      split at hj
      · simp at hj
      · exact hj
  obtain ⟨av, capv, w', r, y1, y2, hR⟩ := S
  clear a kk k0 hn h1 G htl hl hlt0 hc ht hroom hlim hu hu2 hbl hr hNl hN hx hxN
  go_enter Try.func17, Try.ntmps17
  go_wp2_with fail
  refine T.mono ?_
  rintro e w1 ⟨rfl, rfl⟩
  go_wp2_with fail
  go_region
  go_wp2_with fail
  go_region
  all_goals (
    go_wp2_with (at_builtin; refine wpList_append_run rfl _ _ _ _ rfl _ _ _ _ rfl rfl r ?_)
    go_ret
    exact ⟨rfl, hR.out⟩)
theorem rdrop_none {K : Nat → Prop} {w : World} {g : Nat} {most : Int} {cs : Strs} {back : List Nat} (A : Rf g most cs back K w) (hc : cs.length ≤ 2147483648) (x : Nat) (hx : x < 4294967296) (hn : noH cs x) :
    Calls Try.prog 17 #[.pointer (some ⟨g, 0, none⟩), .int .u32 (x : Int)] w fun e w' => e = .returned (.int .i64 5) ∧ w' = w := by
  have T := r_has A hc x hx
  rw [atH_no hn] at T
  clear A hc hn
  go_enter Try.func17, Try.ntmps17
  go_wp2_with fail
  refine T.mono ?_
  rintro e w1 ⟨rfl, rfl⟩
  go_wp2_with fail
  go_ret
  exact ⟨rfl, rfl⟩
end Go.Proofs.Ytaoabjcbolncoaa
