/- The document's pool: Put, told whole; its calls as functions of what it holds. -/
import Derived.Test.YtaoabjcbolncoaaRfE6
namespace Go.Proofs.Ytaoabjcbolncoaa
open Go.RowKit
set_option linter.unusedVariables false
set_option linter.unusedSimpArgs false

theorem rput_back {K : Nat → Prop} {w : World} {g : Nat} {most : Int} {cs : Strs} {back : List Nat} {h : Nat} (A : Rf g most cs (back ++ [h]) K w) (hc : cs.length ≤ 2147483648) (a : Option Addr) (xs : List Int) (cap : Nat) (W : Bd K w a xs) (hr : (xs.length : Int) ≤ most - total cs) :
    Calls Try.prog 13 #[.pointer (some ⟨g, 0, none⟩), .slice a xs.length cap] w fun e w' => e = .returned (.tuple #[.int .u32 (h : Int), .int .i64 0]) ∧ Rf g most (cs.set (h - 1) (some xs)) back K w' ∧ Kp K w w' := by
  have G := A.good
  obtain ⟨rs, h1, ⟨k0, vs, vt, vb, a0, kk⟩, -⟩ := A
  have hl := absR_len h1
  obtain ⟨p1, p2⟩ := G.free h (by simp)
  have hlt := (List.getElem?_eq_some_iff.1 p2).1
  have hbl := G.blen
  simp at hbl
  have hroom := G.room
  have hlim := G.lim
  have ht := total_set cs (h - 1) none (some xs) p2
  simp only [lenO] at ht
  obtain ⟨gs, cas, rfl⟩ := owns_slice a0.ss (by omega)
  obtain ⟨gt, cat, rfl⟩ := owns_slice a0.ts (by omega)
  obtain ⟨gb, cab, rfl⟩ := owns_slice a0.backs (by simp)
  have hb1 : (back ++ [h]).length = back.length + 1 := by simp
  have n1 : ¬ gs = g := fun e => owns_apart a0.ss a0.blk (by decide) (by rw [e]; rfl)
  have n2 : ¬ gt = g := fun e => owns_apart a0.ts a0.blk (by decide) (by rw [e]; rfl)
  have n3 : ¬ gs = gt := fun e => owns_apart2 a0.ss a0.ts (by decide) gs rfl (by rw [e]; rfl)
  have n4 : ¬ gb = g := fun e => owns_apart a0.backs a0.blk (by decide) (by rw [e]; rfl)
  have hNl : h < rs.length := by omega
  have nG : ¬ K g := kk g (.inl rfl)
  have nS : ¬ K gs := kk gs (.inr (.inl rfl))
  have nT : ¬ K gt := kk gt (.inr (.inr (.inl rfl)))
  have hcapb : back.length + 1 ≤ cab := by
    rcases a0.backs.2 with ⟨h', _⟩ | ⟨g', cap', cur, h', _, hg, hnc, _⟩
    · simp at h'
    · simp only [Value.slice.injEq] at h'
      have := h'.2.2
      omega
  obtain ⟨u2, hu2⟩ : ∃ u2 : Int, u2 = (total (cs.set (h - 1) (some xs)) : Int) := ⟨_, rfl⟩
  refine rput_walk_back (N := h) (bl := back.length) (cas := cas) (cat := cat) (cab := cab) (rl := rs.length) (u := (total cs : Int)) (u2 := u2) (gs := gs) (gt := gt) (gb := gb) (a0.blk.cell 3) (a0.blk.cell 4) (a0.blk.frozen 4) (wrap64_in _ (by omega)) hr (by omega) (wrap64_in _ (by omega)) (by rw [IntKind.wrap_i64]; omega)
    n1 (fun e => n1 e.symm) n2 (fun e => n2 e.symm) n3 (fun e => n3 e.symm) n4 (fun e => n4 e.symm) hNl hcapb (by omega) (P := fun w' => Rf g most (cs.set (h - 1) (some xs)) back K w' ∧ Kp K w w') ?_
  intro W0 s
  have aW := (a0.still s).use u2
  have kW : Kp K w (W0.setCell ⟨g, 4, none⟩ (.int .i64 u2)) := (s.kp K).setCell _ _ _ nG
  have rW := (W.kp kW).1
  have hsz : (W0.setCell ⟨g, 4, none⟩ (.int .i64 u2)).heap.size = w.heap.size := by obtain ⟨nn, rfl⟩ := s; simp [World.setCell]
  generalize W0.setCell ⟨g, 4, none⟩ (.int .i64 u2) = W1 at aW kW rW hsz ⊢
  obtain ⟨v', w', r, o, f⟩ := copy_bytes rW cap (by omega)
  obtain ⟨av, capv, rfl⟩ := owns_slice' o
  have a' : RfC w' g most u2 rs (back ++ [h]) (.slice (some ⟨gs, 0, none⟩) rs.length cas) (.slice (some ⟨gt, 0, none⟩) rs.length cat) (.slice (some ⟨gb, 0, none⟩) (back ++ [h]).length cab) := aW.same (fun k hk => f.block k (aW.lt hk))
  have kp : Kp K w w' := kW.trans ((Kp.of_below f).mono (fun k hk => by have := k0 k hk; omega))
  have bb := a'.backs
  have ob : w'.ownsRow 0 28 1 (.slice (some ⟨gb, 0, none⟩) back.length cab) back.length (u32s back) := ownsRow_pop (last := [.int .u32 (h : Int)]) (by simp [u32s]) (by rw [hb1] at bb; simpa [u32s] using bb)
  have cb : w'.cell? ⟨gb, back.length, none⟩ = some (.int .u32 (h : Int)) := (bb.cellAt back.length (by simp)).trans (by simp [u32s])
  have c2 : w'.cell? ⟨g, 2, none⟩ = some (.slice (some ⟨gb, 0, none⟩) (back.length + 1) cab) := by rw [← hb1]; exact a'.blk.cell 2
  have hob : ∀ q, Value.ownBlock (.slice av xs.length capv) = some q → w.heap.size ≤ q := fun q hq => by have := (o.lt q hq).1; omega
  refine ⟨av, capv, w', r, a'.blk.cell 0, a'.blk.cell 1, c2, a'.blk.frozen 2, cb, ⟨_, a'.ss.cellAt h (by simpa using hNl) |>.trans (List.getElem?_eq_getElem (by simpa using hNl))⟩, a'.ss.frozenAt _, ⟨_, a'.ts.cellAt h (by simpa using hNl) |>.trans (List.getElem?_eq_getElem (by simpa using hNl))⟩, a'.ts.frozenAt _, ?_⟩
  intro W2 s2
  have a4 := a'.pushed (w' := w') (fun _ _ _ => rfl) ob
  have o4 : (w'.setCell ⟨g, 2, none⟩ (.slice (some ⟨gb, 0, none⟩) back.length cab)).ownsRow 0 5 1 (.slice av xs.length capv) xs.length (u8s xs) := owns_same (owns_zero o) (fun k hk => Below.heap_setCell _ ⟨g, 2, none⟩ _ k (fun e => owns_apart (owns_zero o) a'.blk (by decide) (hk.trans (congrArg some e))))
  have a5 := a4.lay hNl (some (.slice av xs.length capv, xs)) (fun v ws e => by
      simp only [Option.some.injEq, Prod.mk.injEq] at e
      obtain ⟨rfl, rfl⟩ := e
      exact ⟨o4, W.1.1⟩) (fun v ws q e eq i v2 ws2 hi hj e2 => by
      simp only [Option.some.injEq, Prod.mk.injEq] at e
      obtain ⟨rfl, rfl⟩ := e
      have h3 := hob q eq
      have h4 := a0.lt (.inr (.inr (.inr (.inr ⟨i, v2, ws2, hj, e2⟩))))
      omega) _ (.inl rfl)
  have a6 := a5.still s2
  have kp2 : Kp K w W2 := (((kp.setCell _ _ _ nG).setCell _ _ _ nS).setCell _ _ _ nT).trans (s2.kp K)
  refine ⟨⟨_, ?_, ⟨fun k hk => by have := k0 k hk; have := kp2.size; omega, _, _, _, by rw [← hu2]; exact a6, ?_⟩, G.take xs W.1.1 hr⟩, kp2⟩
  · unfold absR
    rw [List.map_set]
    show (absR rs).set h (some xs) = _
    rw [h1]
    obtain ⟨n, rfl⟩ : ∃ n, h = n + 1 := ⟨h - 1, by omega⟩
    rw [List.set_cons_succ, Nat.add_sub_cancel]
  · rintro k (hk | hk | hk | hk | ⟨j, v1, ws', hj, e⟩)
    · exact kk k (.inl hk)
    · exact kk k (.inr (.inl hk))
    · exact kk k (.inr (.inr (.inl hk)))
    · exact kk k (.inr (.inr (.inr (.inl hk))))
    · rw [List.getElem?_set] at hj
      split at hj
      · simp only [hNl, if_true, Option.some.injEq, Prod.mk.injEq] at hj
        rw [← hj.1] at e
        intro hK
        have := k0 k hK
        have := hob k e
        omega
      · exact kk k (.inr (.inr (.inr (.inr ⟨j, v1, ws', hj, e⟩))))

theorem rput_new {K : Nat → Prop} {w : World} {g : Nat} {most : Int} {cs : Strs} (A : Rf g most cs [] K w) (hc : cs.length < 2147483648) (a : Option Addr) (xs : List Int) (cap : Nat) (W : Bd K w a xs) (hr : (xs.length : Int) ≤ most - total cs) :
    Calls Try.prog 13 #[.pointer (some ⟨g, 0, none⟩), .slice a xs.length cap] w fun e w' => e = .returned (.tuple #[.int .u32 ((cs.length + 1 : Nat) : Int), .int .i64 0]) ∧ Rf g most (cs ++ [some xs]) [] K w' ∧ Kp K w w' := by
  have G := A.good
  obtain ⟨rs, h1, ⟨k0, vs, vt, vb, a0, kk⟩, -⟩ := A
  have hl := absR_len h1
  have hroom := G.room
  have hlim := G.lim
  have ht := total_append cs [some xs]
  simp only [total, lenO] at ht
  obtain ⟨ab, cab, rfl⟩ := owns_slice' a0.backs
  have nG : ¬ K g := kk g (.inl rfl)
  obtain ⟨u2, hu2⟩ : ∃ u2 : Int, u2 = (total (cs ++ [some xs]) : Int) := ⟨_, rfl⟩
  rw [← hl]
  refine rput_walk_new (rl := rs.length) (ab := ab) (cab := cab) (vs := vs) (vt := vt) (u := (total cs : Int)) (u2 := u2) (a0.blk.cell 3) (a0.blk.cell 4) (a0.blk.frozen 4) (wrap64_in _ (by omega)) hr (by omega) (wrap64_in _ (by omega)) (by rw [IntKind.wrap_i64]; omega) (by omega)
    (P := fun w' => Rf g most (cs ++ [some xs]) [] K w' ∧ Kp K w w') ?_
  intro W0 s
  have aW := (a0.still s).use u2
  have kW : Kp K w (W0.setCell ⟨g, 4, none⟩ (.int .i64 u2)) := (s.kp K).setCell _ _ _ nG
  have rW := (W.kp kW).1
  have hsz : (W0.setCell ⟨g, 4, none⟩ (.int .i64 u2)).heap.size = w.heap.size := by obtain ⟨nn, rfl⟩ := s; simp [World.setCell]
  generalize W0.setCell ⟨g, 4, none⟩ (.int .i64 u2) = Wx at aW kW rW hsz ⊢
  obtain ⟨v', w', r, o, f⟩ := copy_bytes rW cap (by omega)
  obtain ⟨av, capv, rfl⟩ := owns_slice' o
  have a' : RfC w' g most u2 rs [] vs vt (.slice ab ([] : List Nat).length cab) := aW.same (fun k hk => f.block k (aW.lt hk))
  have kp : Kp K w w' := kW.trans ((Kp.of_below f).mono (fun k hk => by have := k0 k hk; omega))
  have hob : ∀ q, Value.ownBlock (.slice av xs.length capv) = some q → w.heap.size ≤ q := fun q hq => by have := (o.lt q hq).1; omega
  have oz := owns_zero o
  refine ⟨av, capv, w', r, a'.blk.cell 2, a'.blk.cell 0, a'.blk.cell 1, ?_⟩
  intro W1 p1 f1 b1 hp1
  have a1 : RfC W1 g most u2 rs [] vs vt (.slice ab ([] : List Nat).length cab) := a'.same (fun k hk => f1.block k (a'.lt hk))
  have oz1 : W1.ownsRow 0 5 1 (.slice av xs.length capv) xs.length (u8s xs) := owns_same oz (fun k hk => f1.block k (oz.lt k hk).2)
  obtain ⟨i, i1, i2, i3, i4⟩ := info_bs
  obtain ⟨av1, c1, w1, r1, o1, gr1, hv1⟩ := append_at (P := Try.prog) W1 43 29 i _ 24 Try.underlying43 i1 i2 i3 i4 rfl vs _ _ a1.ss p1 (.slice av xs.length capv) rfl b1 (by omega) (by omega)
  have sm1 : ∀ k, k < W1.heap.size → vs.ownBlock ≠ some k → w1.heap[k]? = W1.heap[k]? := fun k hk hn => gr1.block k hk (fun e => hn e.symm)
  have bg1 : Blk w1 g 47 [vs, vt, .slice ab ([] : List Nat).length cab, .int .i64 most, .int .i64 u2] := (sm1 g a1.blk.lt (owns_apart a1.ss a1.blk (by decide))).trans a1.blk
  refine ⟨av1, c1, w1, r1, bg1.cell 0, bg1.cell 1, gr1.size, fun p2 hp2 => (sm1 p2 hp2.lt (owns_apart a1.ss hp2 (by decide))).trans hp2, ?_⟩
  intro W2 p2 f2 b2 hp2
  have t1 : w1.ownsRow 0 4 1 vt rs.length (rs.map tCell) := owns_same a1.ts (fun k hk => sm1 k (a1.ts.lt k hk).2 (owns_apart2 a1.ts a1.ss (by decide) k hk))
  have t2 : W2.ownsRow 0 4 1 vt rs.length (rs.map tCell) := owns_same t1 (fun k hk => f2.block k (t1.lt k hk).2)
  have s2 : W2.ownsRow 0 29 1 (.slice av1 (rs.length + 1) c1) (rs.length + 1) (rs.map sCell ++ [.slice av xs.length capv]) := owns_same o1 (fun k hk => f2.block k (o1.lt k hk).2)
  obtain ⟨j, j1, j2, j3, j4⟩ := info_b
  obtain ⟨av2, c2, w2, r2, o2, gr2, hv2⟩ := append_at (P := Try.prog) W2 44 4 j _ 1 Try.underlying44 j1 j2 j3 j4 rfl vt _ _ t2 p2 (.bool true) rfl b2 (by omega) (by omega)
  have sm2 : ∀ k, k < W2.heap.size → vt.ownBlock ≠ some k → w2.heap[k]? = W2.heap[k]? := fun k hk hn => gr2.block k hk (fun e => hn e.symm)
  have bg2' := bg1.below f2 bg1.lt
  have bg2 : Blk w2 g 47 [vs, vt, .slice ab ([] : List Nat).length cab, .int .i64 most, .int .i64 u2] := (sm2 g bg2'.lt (owns_apart t2 bg2' (by decide))).trans bg2'
  refine ⟨av2, c2, w2, r2, bg2.cell 0, bg2.frozen 0, bg2.cell 1, bg2.frozen 1, ?_⟩
  intro W3 s3
  -- any other row, all the way
  have thru : ∀ {e : TypeId} {v : Value} {n : Nat} {ys : List Value}, W1.ownsRow 0 e 1 v n ys → e ≠ 29 → e ≠ 4 → e ≠ 47 → W3.ownsRow 0 e 1 v n ys := by
    intro e v n ys h0 e1 e2 e3
    have q1 : w1.ownsRow 0 e 1 v n ys := owns_same h0 (fun k hk => sm1 k (h0.lt k hk).2 (owns_apart2 h0 a1.ss e1 k hk))
    have q2 : W2.ownsRow 0 e 1 v n ys := owns_same q1 (fun k hk => f2.block k (q1.lt k hk).2)
    have q3 : w2.ownsRow 0 e 1 v n ys := owns_same q2 (fun k hk => sm2 k (q2.lt k hk).2 (owns_apart2 q2 t2 e2 k hk))
    have q4 : ((w2.setCell ⟨g, 0, none⟩ (.slice av1 (rs.length + 1) c1)).setCell ⟨g, 1, none⟩ (.slice av2 (rs.length + 1) c2)).ownsRow 0 e 1 v n ys := owns_same q3 (fun k hk => (Below.heap_setCell _ ⟨g, 1, none⟩ _ k (fun x => owns_apart q3 bg2 e3 (hk.trans (congrArg some x)))).trans (Below.heap_setCell _ ⟨g, 0, none⟩ _ k (fun x => owns_apart q3 bg2 e3 (hk.trans (congrArg some x)))))
    exact owns_kp q4 (s3.kp (fun _ => True)) (fun _ _ => trivial)
  have fin : ∀ {e : TypeId} {v : Value} {n : Nat} {ys : List Value}, w2.ownsRow 0 e 1 v n ys → e ≠ 47 → W3.ownsRow 0 e 1 v n ys := by
    intro e v n ys q3 e3
    have q4 : ((w2.setCell ⟨g, 0, none⟩ (.slice av1 (rs.length + 1) c1)).setCell ⟨g, 1, none⟩ (.slice av2 (rs.length + 1) c2)).ownsRow 0 e 1 v n ys := owns_same q3 (fun k hk => (Below.heap_setCell _ ⟨g, 1, none⟩ _ k (fun x => owns_apart q3 bg2 e3 (hk.trans (congrArg some x)))).trans (Below.heap_setCell _ ⟨g, 0, none⟩ _ k (fun x => owns_apart q3 bg2 e3 (hk.trans (congrArg some x)))))
    exact owns_kp q4 (s3.kp (fun _ => True)) (fun _ _ => trivial)
  have sw2 : w2.ownsRow 0 29 1 (.slice av1 (rs.length + 1) c1) (rs.length + 1) (rs.map sCell ++ [.slice av xs.length capv]) := owns_same s2 (fun k hk => sm2 k (s2.lt k hk).2 (owns_apart2 s2 t2 (by decide) k hk))
  have bg3 : Blk W3 g 47 [.slice av1 (rs.length + 1) c1, .slice av2 (rs.length + 1) c2, .slice ab ([] : List Nat).length cab, .int .i64 most, .int .i64 u2] := by
    have := (bg2.set 0 (.slice av1 (rs.length + 1) c1)).set 1 (.slice av2 (rs.length + 1) c2)
    exact this.kp (s3.kp (fun _ => True)) trivial
  have hln : (rs ++ [some (Value.slice av xs.length capv, xs)]).length = rs.length + 1 := by simp
  have dn : ∀ (i : Nat) (v : Value) (ws : List Int), (rs ++ [some (Value.slice av xs.length capv, xs)])[i]? = some (some (v, ws)) → rs[i]? = some (some (v, ws)) ∧ i < rs.length ∨ i = rs.length ∧ v = .slice av xs.length capv ∧ ws = xs := by
    intro i v ws hi
    rw [List.getElem?_append] at hi
    split at hi
    · rename_i hlt
      exact .inl ⟨hi, hlt⟩
    · rw [List.getElem?_singleton] at hi
      split at hi
      · rename_i h0 h2
        simp only [Option.some.injEq, Prod.mk.injEq] at hi
        exact .inr ⟨by omega, hi.1.symm, hi.2.symm⟩
      · cases hi
  have rfc : RfC W3 g most u2 (rs ++ [some (Value.slice av xs.length capv, xs)]) [] (.slice av1 (rs.length + 1) c1) (.slice av2 (rs.length + 1) c2) (.slice ab ([] : List Nat).length cab) := by
    refine ⟨bg3, ?_, ?_, thru a1.backs (by decide) (by decide) (by decide), ?_, ?_⟩
    · rw [hln]
      have e : (rs ++ [some (Value.slice av xs.length capv, xs)]).map sCell = rs.map sCell ++ [.slice av xs.length capv] := by simp [sCell]
      rw [e]
      exact fin sw2 (by decide)
    · rw [hln]
      have e : (rs ++ [some (Value.slice av xs.length capv, xs)]).map tCell = rs.map tCell ++ [.bool true] := by simp [tCell]
      rw [e]
      exact fin o2 (by decide)
    · intro i v ws hi
      rcases dn i v ws hi with ⟨hi', _⟩ | ⟨_, rfl, rfl⟩
      · have ow := a1.words i v ws hi'
        exact ⟨thru ow.1 (by decide) (by decide) (by decide), ow.2⟩
      · exact ⟨thru oz1 (by decide) (by decide) (by decide), W.1.1⟩
    · intro i1' j1' q v1 v2 ws1 ws2 hi hj e1 e2
      rcases dn i1' v1 ws1 hi with ⟨hi', hil⟩ | ⟨hi', rfl, rfl⟩
      · rcases dn j1' v2 ws2 hj with ⟨hj', hjl⟩ | ⟨hj', rfl, rfl⟩
        · exact a1.apart i1' j1' q v1 v2 ws1 ws2 hi' hj' e1 e2
        · have h3 := hob q e2
          have h4 := a0.lt (.inr (.inr (.inr (.inr ⟨i1', v1, ws1, hi', e1⟩))))
          omega
      · rcases dn j1' v2 ws2 hj with ⟨hj', hjl⟩ | ⟨hj', rfl, rfl⟩
        · have h3 := hob q e1
          have h4 := a0.lt (.inr (.inr (.inr (.inr ⟨j1', v2, ws2, hj', e2⟩))))
          omega
        · omega
  have hs0 := kp.size
  have hs1 := f1.size
  have hs2 := gr1.size
  have hs3 := f2.size
  have hs4 := gr2.size
  have kp3 : Kp K w w2 := by
    have k1 : Kp K w W1 := kp.trans ((Kp.of_below f1).mono (fun k hk => by have := k0 k hk; omega))
    have k2 : Kp K w w1 := k1.grown gr1 (fun k hk => kk k (.inr (.inl hk)))
    have k3 : Kp K w W2 := k2.trans ((Kp.of_below f2).mono (fun k hk => by have := k0 k hk; omega))
    exact k3.grown gr2 (fun k hk => kk k (.inr (.inr (.inl hk))))
  have kpE : Kp K w W3 := ((kp3.setCell _ _ _ nG).setCell _ _ _ nG).trans (s3.kp K)
  refine ⟨⟨_, ?_, ⟨fun k hk => by have := k0 k hk; have := kpE.size; omega, _, _, _, by rw [← hu2]; exact rfc, ?_⟩, G.grow xs W.1.1 hr⟩, kpE⟩
  · show absR (rs ++ [some (Value.slice av xs.length capv, xs)]) = _
    unfold absR
    rw [List.map_append]
    show absR rs ++ [some xs] = _
    rw [h1]
    rfl
  · rintro k (hk | hk | hk | hk | ⟨j, v1, ws', hj, e⟩)
    · exact kk k (.inl hk)
    · rcases hv1 with hv1 | hv1
      · exact kk k (.inr (.inl (hv1 ▸ hk)))
      · rw [hv1] at hk
        simp at hk
        intro hK
        have := k0 k hK
        omega
    · rcases hv2 with hv2 | hv2
      · exact kk k (.inr (.inr (.inl (hv2 ▸ hk))))
      · rw [hv2] at hk
        simp at hk
        intro hK
        have := k0 k hK
        omega
    · exact kk k (.inr (.inr (.inr (.inl hk))))
    · rcases dn j v1 ws' hj with ⟨hj', _⟩ | ⟨_, rfl, rfl⟩
      · exact kk k (.inr (.inr (.inr (.inr ⟨j, v1, ws', hj', e⟩))))
      · intro hK
        have := k0 k hK
        have := hob k e
        omega
section
variable {K : Nat → Prop} {w : World} {g : Nat} {most : Int} {cs : Strs} {back : List Nat}
theorem r_put (A : Rf g most cs back K w) (hc : cs.length < 2147483648) (a : Option Addr) (xs : List Int) (cap : Nat) (W : Bd K w a xs) :
    Calls Try.prog 13 #[.pointer (some ⟨g, 0, none⟩), .slice a xs.length cap] w fun e w' => e = .returned (.tuple #[.int .u32 (putTo most cs back xs).1, .int .i64 (putTo most cs back xs).2.1]) ∧
      Rf g most (putTo most cs back xs).2.2.1 (putTo most cs back xs).2.2.2 K w' ∧ Kp K w w' := by
  unfold putTo
  by_cases h1 : most - total cs < (xs.length : Int)
  · simp only [if_pos h1]
    refine (rput_full A a xs.length cap h1).mono ?_
    rintro e w' ⟨rfl, s⟩
    exact ⟨rfl, (Rf.lies _ _ _ _).still A s, s.kp K⟩
  simp only [if_neg h1]
  rcases List.eq_nil_or_concat back with rfl | ⟨back2, h, rfl⟩
  · simp only [List.getLast?_nil]
    exact rput_new A (by omega) a xs cap W (by omega)
  · rw [List.concat_eq_append] at A ⊢
    simp only [List.getLast?_append, List.getLast?_singleton, List.dropLast_concat, Option.some_or]
    exact rput_back A (by omega) a xs cap W (by omega)
theorem r_cut (A : Rf g most cs back K w) (hc : cs.length ≤ 2147483648) (x : Nat) (hx : x < 4294967296) (m : Int) :
    Calls Try.prog 15 #[.pointer (some ⟨g, 0, none⟩), .int .u32 (x : Int), .int .i64 m] w fun e w' => e = .returned (.int .i64 (cutTo cs x m).1) ∧ Rf g most (cutTo cs x m).2 back K w' ∧ Kp K w w' := by
  unfold cutTo
  rcases has_or cs x with hn | ⟨n, ws, rfl, hn⟩
  · rw [atH_no hn]
    refine (rcut_none A hc x hx m hn).mono ?_
    rintro e w' ⟨rfl, rfl⟩
    exact ⟨rfl, A, Kp.refl _ _⟩
  · rw [atH_has hn, nat_succ, Nat.add_sub_cancel]
    by_cases hi : m < 0 ∨ (ws.length : Int) < m
    · simp only [if_pos hi]
      refine (rcut_out A hc n m ws hn hi).mono ?_
      rintro e w' ⟨rfl, rfl⟩
      exact ⟨rfl, A, Kp.refl _ _⟩
    · simp only [if_neg hi]
      have h := rcut_has A hc n m.toNat ws hn (by omega)
      rw [show ((m.toNat : Nat) : Int) = m by omega] at h
      exact h
theorem r_drop (A : Rf g most cs back K w) (hc : cs.length ≤ 2147483648) (x : Nat) (hx : x < 4294967296) :
    Calls Try.prog 17 #[.pointer (some ⟨g, 0, none⟩), .int .u32 (x : Int)] w fun e w' => e = .returned (.int .i64 (dropTo cs back x).1) ∧ Rf g most (dropTo cs back x).2.1 (dropTo cs back x).2.2 K w' ∧ Kp K w w' := by
  unfold dropTo
  rcases has_or cs x with hn | ⟨n, ws, rfl, hn⟩
  · rw [atH_no hn]
    refine (rdrop_none A hc x hx hn).mono ?_
    rintro e w' ⟨rfl, rfl⟩
    exact ⟨rfl, A, Kp.refl _ _⟩
  · rw [atH_has hn, nat_succ, Nat.add_sub_cancel]
    exact rdrop_has A hc n ws hn
end
end Go.Proofs.Ytaoabjcbolncoaa
