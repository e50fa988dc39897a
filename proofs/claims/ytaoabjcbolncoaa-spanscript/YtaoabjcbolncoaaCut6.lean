/- cut, Cut. -/
import Derived.Test.YtaoabjcbolncoaaPut7
namespace Go.Proofs.Ytaoabjcbolncoaa
open Go.RowKit
set_option linter.unusedVariables false
set_option linter.unusedSimpArgs false

/-- What a cut leaves: the pool but for one string, whose bytes are ys. -/
def CutS (K : Nat → Prop) (w w' : World) (g : Nat) (most used : Int) (rs : List Txt) (n : Nat) (ys : List Int) (back : List Nat) : Prop := ∃ q l zs, zs.drop l = ys ∧ SK K w' g most used (rs.set n (some (q, l, zs))) back ∧ Kp K w w'
theorem CutS.turn {K : Nat → Prop} {w w' : World} {g : Nat} {most used : Int} {rs : List Txt} {back : List Nat} {vb : Value} {gc cap n q l : Nat} {zs ys : List Int} (k0 : ∀ k, K k → k < w.heap.size)
    (h : SpC w g most used rs back (.slice (some ⟨gc, 0, none⟩) rs.length cap) vb) (kk : ∀ k, FtS g (.slice (some ⟨gc, 0, none⟩) rs.length cap) vb rs k → ¬ K k) (hn : n < rs.length)
    (o : w'.ownsRow 0 60 3 (.slice (some ⟨gc, 0, none⟩) rs.length cap) rs.length (flat cell3 (rs.set n (some (q, l, zs)))))
    (sm : ∀ k, k < w.heap.size → k ≠ gc → w'.heap[k]? = w.heap[k]?) (kp : Kp K w w') (ht : TxtOk w' q l zs) (hq : w.heap.size ≤ q ∨ ∃ l' xs', rs[n]? = some (some (q, l', xs'))) (e : zs.drop l = ys) : CutS K w w' g most used rs n ys back := by
  refine ⟨q, l, zs, e, ⟨fun k hk => Nat.lt_of_lt_of_le (k0 k hk) kp.size, _, vb, h.turn hn o (fun k hl hk => sm k hl (fun e => hk (by rw [e]; rfl))) (fun q' l' xs' e' => ?_) (fun q' l' xs' e' i l2 xs2 hi hx => ?_), ?_⟩, kp⟩
  · simp only [Option.some.injEq, Prod.mk.injEq] at e'
    obtain ⟨rfl, rfl, rfl⟩ := e'
    exact ht
  · simp only [Option.some.injEq, Prod.mk.injEq] at e'
    obtain ⟨rfl, rfl, rfl⟩ := e'
    rcases hq with hq | ⟨l3, xs3, hq⟩
    · have := (h.words i _ l2 xs2 hx).blk.lt
      omega
    · exact hi (h.apart i n _ _ _ _ _ hx hq)
  · rintro k (hk | hk | hk | ⟨i, l', ws', hi⟩)
    · exact kk k (.inl hk)
    · exact kk k (.inr (.inl hk))
    · exact kk k (.inr (.inr (.inl hk)))
    · rw [List.getElem?_set] at hi
      split at hi
      · simp only [hn, if_true, Option.some.injEq, Prod.mk.injEq] at hi
        obtain ⟨rfl, -, -⟩ := hi
        rcases hq with hq | ⟨l3, xs3, hq⟩
        · intro hK
          have := k0 _ hK
          omega
        · exact kk _ (.inr (.inr (.inr ⟨n, l3, xs3, hq⟩)))
      · exact kk k (.inr (.inr (.inr ⟨i, l', ws', hi⟩)))

set_option maxHeartbeats 1600000 in
theorem cut_any {K : Nat → Prop} {w : World} {g : Nat} {most used : Int} {rs : List Txt} {back : List Nat} {vb : Value} {gc cap n q l m : Nat} {xs : List Int} (k0 : ∀ k, K k → k < w.heap.size)
    (h : SpC w g most used rs back (.slice (some ⟨gc, 0, none⟩) rs.length cap) vb) (kk : ∀ k, FtS g (.slice (some ⟨gc, 0, none⟩) rs.length cap) vb rs k → ¬ K k) (hn : rs[n]? = some (some (q, l, xs))) (hm : l + m ≤ xs.length) :
    Calls Try.prog 30 #[.pointer (some ⟨gc, n * 3, none⟩), .int .i64 (m : Int)] w fun e w' => e = .returned (.tuple #[]) ∧ CutS K w w' g most used rs n (xs.drop (l + m)) back := by
  have T := h.words n q l xs hn
  have hlt : n < rs.length := (List.getElem?_eq_some_iff.1 hn).1
  have d0 : w.cell? ⟨gc, n * 3, none⟩ = some (.slice (some ⟨q, 0, none⟩) xs.length xs.length) := (h.rows.cellAt (n * 3) (by omega)).trans (flat_get cell3_length rs n _ 0 hn (by omega))
  have d1 : w.cell? ⟨gc, n * 3 + 1, none⟩ = some (.int .i64 (l : Int)) := (h.rows.cellAt (n * 3 + 1) (by omega)).trans (flat_get cell3_length rs n _ 1 hn (by omega))
  have f1 := h.rows.frozenAt (n * 3 + 1)
  have f0 := h.rows.frozenAt (n * 3)
  obtain ⟨w1, hw1⟩ : ∃ w1, w1 = w.setCell ⟨gc, n * 3 + 1, none⟩ (.int .i64 ((l + m : Nat) : Int)) := ⟨_, rfl⟩
  have o1 := (h.rows.stored (n * 3 + 1) (.int .i64 ((l + m : Nat) : Int))).1
  rw [flat_set cell3_length rs n _ (some (q, l + m, xs)) 1 _ hn (by omega) rfl, ← hw1] at o1
  have sm1 : ∀ k, k ≠ gc → w1.heap[k]? = w.heap[k]? := fun k hk => by rw [hw1]; exact Below.heap_setCell _ ⟨gc, n * 3 + 1, none⟩ _ k hk
  have nK : ¬ K gc := kk gc (.inr (.inl rfl))
  have qg : q ≠ gc := fun e => owns_apart h.rows T.blk (by decide) (by rw [e]; rfl)
  have T1 : TxtOk w1 q (l + m) xs := ⟨(sm1 q qg).trans T.blk, T.by_, hm, T.len⟩
  have k1 : Kp K w w1 := by rw [hw1]; exact (Kp.refl K w).setCell _ _ _ nK
  have z1 : w1.heap.size = w.heap.size := by rw [hw1]; simp [World.setCell]
  have C1 : Hid (∀ W, Still w1 W → CutS K w W g most used rs n (xs.drop (l + m)) back) := fun W s => by
    obtain ⟨nn, rfl⟩ := s
    exact CutS.turn k0 h kk hlt o1 (fun k _ hk => sm1 k hk) (k1.drewN nn) (T1.same rfl) (.inr ⟨l, xs, hn⟩) rfl
  have hl1 : (rs.set n (some (q, l + m, xs)))[n]? = some (some (q, l + m, xs)) := by simp [hlt]
  have g0 : w1.cell? ⟨gc, n * 3, none⟩ = some (.slice (some ⟨q, 0, none⟩) xs.length xs.length) := (o1.cellAt (n * 3) (by omega)).trans (flat_get cell3_length _ n _ 0 hl1 (by omega))
  have g1 : w1.cell? ⟨gc, n * 3 + 1, none⟩ = some (.int .i64 ((l + m : Nat) : Int)) := (o1.cellAt (n * 3 + 1) (by omega)).trans (flat_get cell3_length _ n _ 1 hl1 (by omega))
  have R := rest_any g0 g1 hm T.len
  have hlen := T.len
  have hs : wrap64 ((l : Int) + (m : Int)) = ((l + m : Nat) : Int) := by rw [wrap64_in _ (by omega)]; omega
  have hs' : (l : Int) + (m : Int) = ((l + m : Nat) : Int) := by omega
  generalize hL : l + m = L at *
  clear d0
  by_cases hc : xs.length - L < L
  · have hci : ((xs.length - L : Nat) : Int) < (L : Int) := by omega
    have C2 : Hid (∀ n2 w3, Blk w3 w1.heap.size 5 (u8s (xs.drop L)) → Below w1.heap.size (w1.drewN n2) w3 → w3.frozen? ⟨gc, n * 3, none⟩ = false ∧ w3.frozen? ⟨gc, n * 3 + 1, none⟩ = false ∧ w3.cell? ⟨gc, n * 3, none⟩ = some (.slice (some ⟨q, 0, none⟩) xs.length xs.length) ∧ w3.cell? ⟨gc, n * 3 + 1, none⟩ = some (.int .i64 (L : Int)) ∧
        ∀ W, W = (w3.setCell ⟨gc, n * 3, none⟩ (.slice (some ⟨w1.heap.size, 0, none⟩) (xs.drop L).length (xs.drop L).length)).setCell ⟨gc, n * 3 + 1, none⟩ (.int .i64 0) ∨ W = (w3.setCell ⟨gc, n * 3 + 1, none⟩ (.int .i64 0)).setCell ⟨gc, n * 3, none⟩ (.slice (some ⟨w1.heap.size, 0, none⟩) (xs.drop L).length (xs.drop L).length) → CutS K w W g most used rs n (xs.drop L) back) := by
      intro n2 w3 b3 f3
      have gl : gc < w1.heap.size := (o1.lt gc rfl).2
      have o3 : w3.ownsRow 0 60 3 (.slice (some ⟨gc, 0, none⟩) rs.length cap) rs.length (flat cell3 (rs.set n (some (q, L, xs)))) := owns_same o1 (fun k hk => f3.block k (o1.lt k hk).2)
      refine ⟨o3.frozenAt _, o3.frozenAt _, (o3.cellAt (n * 3) (by omega)).trans (flat_get cell3_length _ n _ 0 hl1 (by omega)), (o3.cellAt (n * 3 + 1) (by omega)).trans (flat_get cell3_length _ n _ 1 hl1 (by omega)), fun W hW => ?_⟩
      have kp3 : Kp K w w3 := (k1.drewN n2).trans ((Kp.of_below f3).mono (fun k hk => by have := k0 k hk; show k < w1.heap.size; omega))
      have key : W.ownsRow 0 60 3 (.slice (some ⟨gc, 0, none⟩) rs.length cap) rs.length (flat cell3 (rs.set n (some (w1.heap.size, 0, xs.drop L)))) ∧ (∀ k, k ≠ gc → W.heap[k]? = w3.heap[k]?) ∧ Kp K w W := by
        rcases hW with rfl | rfl
        · have o4 := ((o3.stored (n * 3) (.slice (some ⟨w1.heap.size, 0, none⟩) (xs.drop L).length (xs.drop L).length)).1.stored (n * 3 + 1) (.int .i64 0)).1
          have e1 := flat_set cell3_length (rs.set n (some (q, L, xs))) n _ (some (w1.heap.size, L, xs.drop L)) 0 (.slice (some ⟨w1.heap.size, 0, none⟩) (xs.drop L).length (xs.drop L).length) hl1 (by omega) rfl
          have e2 := flat_set cell3_length ((rs.set n (some (q, L, xs))).set n (some (w1.heap.size, L, xs.drop L))) n (some (w1.heap.size, L, xs.drop L)) (some (w1.heap.size, 0, xs.drop L)) 1 (.int .i64 0) (by simp [hlt]) (by omega) rfl
          rw [Nat.add_zero] at e1
          rw [e1, e2, List.set_set, List.set_set] at o4
          exact ⟨o4, fun k hk => (Below.heap_setCell _ ⟨gc, n * 3 + 1, none⟩ _ k hk).trans (Below.heap_setCell _ ⟨gc, n * 3, none⟩ _ k hk), (kp3.setCell _ _ _ nK).setCell _ _ _ nK⟩
        · have o4 := ((o3.stored (n * 3 + 1) (.int .i64 0)).1.stored (n * 3) (.slice (some ⟨w1.heap.size, 0, none⟩) (xs.drop L).length (xs.drop L).length)).1
          have e1 := flat_set cell3_length (rs.set n (some (q, L, xs))) n _ (some (q, 0, xs)) 1 (.int .i64 0) hl1 (by omega) rfl
          have e2 := flat_set cell3_length ((rs.set n (some (q, L, xs))).set n (some (q, 0, xs))) n (some (q, 0, xs)) (some (w1.heap.size, 0, xs.drop L)) 0 (.slice (some ⟨w1.heap.size, 0, none⟩) (xs.drop L).length (xs.drop L).length) (by simp [hlt]) (by omega) rfl
          rw [Nat.add_zero] at e2
          rw [e1, e2, List.set_set, List.set_set] at o4
          exact ⟨o4, fun k hk => (Below.heap_setCell _ ⟨gc, n * 3, none⟩ _ k hk).trans (Below.heap_setCell _ ⟨gc, n * 3 + 1, none⟩ _ k hk), (kp3.setCell _ _ _ nK).setCell _ _ _ nK⟩
      obtain ⟨oW, sW, kW⟩ := key
      have sm3 : ∀ k, k < w.heap.size → k ≠ gc → W.heap[k]? = w.heap[k]? := fun k hl hk => (sW k hk).trans ((f3.block k (by omega)).trans (sm1 k hk))
      exact CutS.turn k0 h kk hlt oW sm3 kW ⟨(sW _ (by omega)).trans b3, fun x hx => T.by_ x (List.mem_of_mem_drop hx), Nat.zero_le _, by simp; omega⟩ (.inl (by omega)) rfl
    have RD := hide (rest_rd T1)
    have hdl : (xs.drop L).length ≤ 16777216 := by simp; omega
    have HD := hide hdl
    have hml : xs.length - L = (xs.drop L).length := by simp
    rw [hml] at R hci
    clear h kk hn T hlt f0 sm1 k1 o1 T1 k0 nK qg hl1 hc hml hdl z1
    generalize xs.drop L = ys at *
    go_enter Try.func30, Try.ntmps30
    go_wp2_with fail
    rw [← hw1]
    refine R.mono ?_
    rintro e w2 ⟨rfl, s2⟩
    obtain ⟨n2, rfl⟩ := s2
    have g1' : (w1.drewN n2).cell? ⟨gc, n * 3 + 1, none⟩ = some (.int .i64 (L : Int)) := g1
    have HW1 := hide hw1
    clear hw1
    go_wp2_with fail
    refine (copied_any _ ys _ _ (RD.out.drewN _) HD.out).mono ?_
    rintro e w3 ⟨rfl, b3, f3, s3⟩
    obtain ⟨z0, z1, z2, z3, hW⟩ := C2.out n2 w3 b3 f3
    have CW := hide hW
    clear b3 f3 s3 hW
    go_wp2_with fail
    go_end0
    exact ⟨rfl, CW.out _ (.inl rfl)⟩
  · have hci : ¬ ((xs.length - L : Nat) : Int) < (L : Int) := by omega
    clear h kk hn T hlt f0 sm1 k1 o1 T1 k0 nK qg hl1 g0 hc
    go_enter Try.func30, Try.ntmps30
    go_wp2_with fail
    rw [← hw1]
    refine R.mono ?_
    rintro e w2 ⟨rfl, s2⟩
    obtain ⟨n2, rfl⟩ := s2
    have g1' : (w1.drewN n2).cell? ⟨gc, n * 3 + 1, none⟩ = some (.int .i64 (L : Int)) := g1
    have HW1 := hide hw1
    clear hw1
    go_wp2
    go_end0
    exact ⟨rfl, C1.out _ ⟨n2, rfl⟩⟩

section
variable {K : Nat → Prop} {w : World} {g : Nat} {most : Int} {cs : Strs} {back : List Nat}
set_option maxHeartbeats 1600000 in
theorem cut_has (A : Sp g most cs back K w) (hc : cs.length ≤ 2147483648) (n m : Nat) (xs : List Int) (hn : cs[n]? = some (some xs)) (hm : m ≤ xs.length) :
    Calls Try.prog 14 #[.pointer (some ⟨g, 0, none⟩), .int .u32 ((n : Int) + 1), .int .i64 (m : Int)] w fun e w' => e = .returned (.int .i64 0) ∧ Sp g most (cs.set n (some (xs.drop m))) back K w' ∧ Kp K w w' := by
  have G := A.good
  obtain ⟨rs, h1, ⟨k0, vt, vb, a, kk⟩, -⟩ := A
  have hl : cs.length = rs.length := by rw [← h1, absT_length]
  have hlt := (List.getElem?_eq_some_iff.1 hn).1
  obtain ⟨q, l, zs, hq, rfl⟩ := absT_has h1 hn
  obtain ⟨gc, cap, rfl⟩ := owns_slice a.rows (by omega)
  have F := find_has a (by omega) n q l zs hq
  have T := a.words n q l zs hq
  have d0 : w.cell? ⟨gc, n * 3, none⟩ = some (.slice (some ⟨q, 0, none⟩) zs.length zs.length) := (a.rows.cellAt (n * 3) (by omega)).trans (flat_get cell3_length rs n _ 0 hq (by omega))
  have d1 : w.cell? ⟨gc, n * 3 + 1, none⟩ = some (.int .i64 (l : Int)) := (a.rows.cellAt (n * 3 + 1) (by omega)).trans (flat_get cell3_length rs n _ 1 hq (by omega))
  have R := rest_any d0 d1 T.lost T.len
  have hm' : m ≤ zs.length - l := by simpa using hm
  have C : Hid (∀ W, Still w W → Calls Try.prog 30 #[.pointer (some ⟨gc, n * 3, none⟩), .int .i64 (m : Int)] W fun e w' => e = .returned (.tuple #[]) ∧ CutS K W w' g most (total cs) rs n (zs.drop (l + m)) back) := fun W s => by
    have s' := s
    obtain ⟨nn, rfl⟩ := s'
    exact cut_any k0 (a.still s) kk hq (by have := T.lost; omega)
  have ht := total_set cs n (some (zs.drop l)) (some ((zs.drop l).drop m)) hn
  simp only [lenO, List.length_drop] at ht
  have htl := total_get cs n _ hn
  simp only [lenO, List.length_drop] at htl
  have hroom := G.room
  have hlim := G.lim
  have D : Hid (∀ W w', Still w W → CutS K W w' g most (total cs) rs n (zs.drop (l + m)) back → w'.cell? ⟨g, 1, none⟩ = some (.int .i64 (total cs)) ∧ w'.frozen? ⟨g, 1, none⟩ = false ∧ Sp g most (cs.set n (some ((zs.drop l).drop m))) back K (w'.setCell ⟨g, 1, none⟩ (.int .i64 ((total cs : Int) - m))) ∧ Kp K w (w'.setCell ⟨g, 1, none⟩ (.int .i64 ((total cs : Int) - m)))) := by
    rintro W w' s ⟨q', l', ys, e, ⟨b0, vt', vb', a', kk'⟩, k'⟩
    have nG : ¬ K g := kk' g (.inl rfl)
    have hu : ((total (cs.set n (some ((zs.drop l).drop m))) : Nat) : Int) = (total cs : Int) - m := by omega
    refine ⟨a'.blk.cell 1, a'.blk.frozen 1, ⟨_, ?_, ⟨fun k hk => by have := b0 k hk; simp [World.setCell]; omega, vt', vb', by rw [hu]; exact a'.use _, kk'⟩, G.less n _ _ hn (fun x hx => G.bytes hn x (List.mem_of_mem_drop hx)) (by simp only [List.length_drop]; omega)⟩, ((s.kp K).trans k').setCell _ _ _ nG⟩
    rw [← h1]
    simp [absT, List.map_set, e]
  have e1 : wrap64 ((total cs : Int) - (m : Int)) = (total cs : Int) - m := wrap64_in _ (by omega)
  have e2 : ¬ (((zs.length - l : Nat) : Int) < (m : Int)) := by omega
  clear a kk k0 hq hn T d0 d1 h1 G htl hl hlt hc ht hroom hlim
  generalize (total cs : Int) = u at *
  go_enter Try.func14, Try.ntmps14
  go_wp2_with fail
  refine F.mono ?_
  rintro e w1 ⟨rfl, rfl⟩
  go_wp2_with fail
  refine R.mono ?_
  rintro e w2 ⟨rfl, s2⟩
  have S2 := hide s2
  clear s2
  go_wp2_with fail
  refine (C.out _ S2.out).mono ?_
  rintro e w3 ⟨rfl, c3⟩
  obtain ⟨y0, y1, y2⟩ := D.out _ _ S2.out c3
  have Y2 := hide y2
  clear y2 c3
  go_wp2_with fail
  go_ret
  exact ⟨rfl, Y2.out⟩
theorem cut_out (A : Sp g most cs back K w) (hc : cs.length ≤ 2147483648) (n : Nat) (m : Int) (xs : List Int) (hn : cs[n]? = some (some xs)) (hm : m < 0 ∨ (xs.length : Int) < m) :
    Calls Try.prog 14 #[.pointer (some ⟨g, 0, none⟩), .int .u32 ((n : Int) + 1), .int .i64 m] w fun e w' => e = .returned (.int .i64 2) ∧ Still w w' := by
  obtain ⟨rs, h1, ⟨k0, vt, vb, a, kk⟩, G⟩ := A
  have hl : cs.length = rs.length := by rw [← h1, absT_length]
  have hlt := (List.getElem?_eq_some_iff.1 hn).1
  obtain ⟨q, l, zs, hq, rfl⟩ := absT_has h1 hn
  obtain ⟨gc, cap, rfl⟩ := owns_slice a.rows (by omega)
  have F := find_has a (by omega) n q l zs hq
  have T := a.words n q l zs hq
  have d0 : w.cell? ⟨gc, n * 3, none⟩ = some (.slice (some ⟨q, 0, none⟩) zs.length zs.length) := (a.rows.cellAt (n * 3) (by omega)).trans (flat_get cell3_length rs n _ 0 hq (by omega))
  have d1 : w.cell? ⟨gc, n * 3 + 1, none⟩ = some (.int .i64 (l : Int)) := (a.rows.cellAt (n * 3 + 1) (by omega)).trans (flat_get cell3_length rs n _ 1 hq (by omega))
  have R := rest_any d0 d1 T.lost T.len
  rw [show (zs.drop l).length = zs.length - l by simp] at hm
  clear a kk k0 hq hn T d0 d1 h1 G hl hlt hc
  by_cases h0 : m < 0
  · go_enter Try.func14, Try.ntmps14
    go_wp2_with fail
    refine F.mono ?_
    rintro e w1 ⟨rfl, rfl⟩
    go_wp2_with fail
    go_ret
    exact ⟨rfl, 0, rfl⟩
  · have h1 : ((zs.length - l : Nat) : Int) < m := by omega
    clear hm
    go_enter Try.func14, Try.ntmps14
    go_wp2_with fail
    refine F.mono ?_
    rintro e w1 ⟨rfl, rfl⟩
    go_wp2_with fail
    refine R.mono ?_
    rintro e w2 ⟨rfl, s2⟩
    have S2 := hide s2
    clear s2
    go_wp2_with fail
    go_ret
    exact ⟨rfl, S2.out⟩
theorem cut_none (A : Sp g most cs back K w) (hc : cs.length ≤ 2147483648) (x : Nat) (hx : x < 4294967296) (m : Int) (hn : noH cs x) :
    Calls Try.prog 14 #[.pointer (some ⟨g, 0, none⟩), .int .u32 (x : Int), .int .i64 m] w fun e w' => e = .returned (.int .i64 5) ∧ w' = w := by
  obtain ⟨rs, h1, ⟨k0, vt, vb, a, kk⟩, G⟩ := A
  have hl : cs.length = rs.length := by rw [← h1, absT_length]
  have F := find_none a (by omega) x hx (absT_none h1 hn)
  clear a kk k0 h1 G hl hc hn
  go_enter Try.func14, Try.ntmps14
  go_wp2_with fail
  refine F.mono ?_
  rintro e w1 ⟨rfl, rfl⟩
  go_wp2_with fail
  go_ret
  exact ⟨rfl, rfl⟩
theorem get_none (A : Sp g most cs back K w) (hc : cs.length ≤ 2147483648) (x : Nat) (hx : x < 4294967296) (hn : noH cs x) :
    Calls Try.prog 18 #[.pointer (some ⟨g, 0, none⟩), .int .u32 (x : Int)] w fun e w' => e = .returned (.tuple #[.slice none 0 0, .int .i64 5]) ∧ w' = w := by
  obtain ⟨rs, h1, ⟨k0, vt, vb, a, kk⟩, G⟩ := A
  have hl : cs.length = rs.length := by rw [← h1, absT_length]
  have F := find_none a (by omega) x hx (absT_none h1 hn)
  clear a kk k0 h1 G hl hc hn
  go_enter Try.func18, Try.ntmps18
  go_wp2_with fail
  refine F.mono ?_
  rintro e w1 ⟨rfl, rfl⟩
  go_wp2_with fail
  go_ret2
  exact ⟨rfl, rfl⟩
theorem a_get (A : Sp g most cs back K w) (hc : cs.length ≤ 2147483648) (n : Nat) (xs : List Int) (hn : cs[n]? = some (some xs)) :
    Calls Try.prog 18 #[.pointer (some ⟨g, 0, none⟩), .int .u32 ((n : Int) + 1)] w fun e w' => e = .returned (.tuple #[.slice (some ⟨w.heap.size, 0, none⟩) xs.length xs.length, .int .i64 0]) ∧ Blk w' w.heap.size 5 (u8s xs) ∧ Below w.heap.size w w' := by
  obtain ⟨rs, h1, ⟨k0, vt, vb, a, kk⟩, G⟩ := A
  have hl : cs.length = rs.length := by rw [← h1, absT_length]
  have hlt := (List.getElem?_eq_some_iff.1 hn).1
  obtain ⟨q, l, zs, hq, rfl⟩ := absT_has h1 hn
  obtain ⟨gc, cap, rfl⟩ := owns_slice a.rows (by omega)
  exact get_has a (by omega) n q l zs hq
theorem a_used (A : Sp g most cs back K w) : Calls Try.prog 21 #[.pointer (some ⟨g, 0, none⟩)] w fun e w' => e = .returned (.int .i64 (total cs)) ∧ w' = w := by
  obtain ⟨rs, h1, ⟨k0, vt, vb, a, kk⟩, G⟩ := A
  exact used_any a
theorem a_live (A : Sp g most cs back K w) (hc : cs.length ≤ 2147483648) : Calls Try.prog 22 #[.pointer (some ⟨g, 0, none⟩)] w fun e w' => e = .returned (.int .i64 ((cs.length - back.length : Nat) : Int)) ∧ Still w w' := by
  have hb := A.good.blen
  obtain ⟨rs, h1, ⟨k0, vt, vb, a, kk⟩, G⟩ := A
  rw [← h1, absT_length] at hc hb ⊢
  exact live_any a hc hb
end
end Go.Proofs.Ytaoabjcbolncoaa
