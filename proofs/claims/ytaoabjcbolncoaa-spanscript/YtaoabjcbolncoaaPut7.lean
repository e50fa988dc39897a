/- Put. -/
import Derived.Test.YtaoabjcbolncoaaPut6
namespace Go.Proofs.Ytaoabjcbolncoaa
open Go.RowKit
set_option linter.unusedVariables false
set_option linter.unusedSimpArgs false

/-- Three cells are set one after the other. -/
theorem three_set {w : World} {gc cap n : Nat} {rs : List Txt} (o : w.ownsRow 0 60 3 (.slice (some ⟨gc, 0, none⟩) rs.length cap) rs.length (flat cell3 rs)) (hn : n < rs.length) (r : Txt) (x0 x1 x2 : Value) (hr : cell3 r = [x0, x1, x2]) :
    (((w.setCell ⟨gc, n * 3, none⟩ x0).setCell ⟨gc, n * 3 + 1, none⟩ x1).setCell ⟨gc, n * 3 + 2, none⟩ x2).ownsRow 0 60 3 (.slice (some ⟨gc, 0, none⟩) rs.length cap) rs.length (flat cell3 (rs.set n r)) := by
  obtain ⟨r0, h0⟩ : ∃ r0, rs[n]? = some r0 := ⟨_, List.getElem?_eq_getElem hn⟩
  have o1 := (o.stored (n * 3) x0).1
  have o2 := (o1.stored (n * 3 + 1) x1).1
  have o3 := (o2.stored (n * 3 + 2) x2).1
  have e : (((flat cell3 rs).set (n * 3) x0).set (n * 3 + 1) x1).set (n * 3 + 2) x2 = flat cell3 (rs.set n r) := by
    apply List.ext_getElem?
    intro j
    have hlen : (flat cell3 rs).length = rs.length * 3 := flat_length cell3_length rs
    have hlen' : (flat cell3 (rs.set n r)).length = rs.length * 3 := by rw [flat_length cell3_length, List.length_set]
    by_cases hj : j < rs.length * 3
    · obtain ⟨i, k, hk, rfl⟩ : ∃ i k, k < 3 ∧ j = i * 3 + k := ⟨j / 3, j % 3, by omega, by omega⟩
      have hi : i < rs.length := by omega
      obtain ⟨ri, hri⟩ : ∃ ri, rs[i]? = some ri := ⟨_, List.getElem?_eq_getElem hi⟩
      by_cases hin : i = n
      · subst hin
        rw [flat_get cell3_length (rs.set i r) i r k (by simp [hi]) hk, hr]
        have hk3 : k = 0 ∨ k = 1 ∨ k = 2 := by omega
        rcases hk3 with rfl | rfl | rfl
        · rw [List.getElem?_set_ne (by omega), List.getElem?_set_ne (by omega), Nat.add_zero, List.getElem?_set_self (by omega)]; rfl
        · rw [List.getElem?_set_ne (by omega), List.getElem?_set_self (by simp; omega)]; rfl
        · rw [List.getElem?_set_self (by simp; omega)]; rfl
      · rw [flat_get cell3_length (rs.set n r) i ri k (by rw [List.getElem?_set_ne (fun e => hin e.symm)]; exact hri) hk, List.getElem?_set_ne (by omega), List.getElem?_set_ne (by omega), List.getElem?_set_ne (by omega)]
        exact flat_get cell3_length rs i ri k hri hk
    · rw [List.getElem?_eq_none (by simp; omega), List.getElem?_eq_none (by omega)]
  rw [e] at o3
  exact o3

/-- What Put leaves. -/
def PutS (K : Nat → Prop) (w w' : World) (g : Nat) (most used : Int) (rs : List Txt) (n : Nat) (xs : List Int) (back : List Nat) : Prop := ∃ q, SK K w' g most used (rs.set n (some (q, 0, xs))) back ∧ Kp K w w'

set_option maxHeartbeats 1600000 in
theorem put_with {K : Nat → Prop} {w : World} {g : Nat} {most used u2 : Int} {rs0 rs : List Txt} {back0 back : List Nat} {n : Nat} {a : Option Addr} {xs : List Int} {cap : Nat} (A : SK K w g most used rs0 back0)
    (U : ∀ w1, Still w w1 → Calls Try.prog 26 #[.pointer (some ⟨g, 0, none⟩)] w1 fun e w' => e = .returned (.int .u32 ((n + 1 : Nat) : Int)) ∧ SK K w' g most used rs back ∧ Kp K w1 w')
    (hl : rs.length ≤ 2147483648) (hn : n < rs.length) (W : Bd K w a xs) (hu : 0 ≤ used ∧ used ≤ most ∧ most ≤ 16777216) (hw : (xs.length : Int) ≤ most - used) (hu2 : u2 = used + xs.length) :
    Calls Try.prog 10 #[.pointer (some ⟨g, 0, none⟩), .slice a xs.length cap] w fun e w' => e = .returned (.tuple #[.int .u32 ((n + 1 : Nat) : Int), .int .i64 0]) ∧ PutS K w w' g most u2 rs n xs back := by
  obtain ⟨k0, vt0, vb0, a0, kk0⟩ := A
  have c0 : w.cell? ⟨g, 0, none⟩ = some (.int .i64 most) := a0.blk.cell 0
  have c1 : w.cell? ⟨g, 1, none⟩ = some (.int .i64 used) := a0.blk.cell 1
  have hd : wrap64 (most - used) = most - used := wrap64_in _ (by omega)
  have hw' : ¬ (most - used < (xs.length : Int)) := by omega
  obtain ⟨x, hx⟩ : ∃ x : Int, x = ((n + 1 : Nat) : Int) := ⟨_, rfl⟩
  rw [← hx] at U ⊢
  have e1 : IntKind.u32.wrap (x - 1) = (n : Int) := by rw [IntKind.wrap_u32]; omega
  have e1' : (x - 1) % 4294967296 = (n : Int) := by omega
  have HX := hide hx
  have HW := hide W
  have HU := hide U
  have HL := hide hl
  have H2 := hide hu2
  clear hx W U hl a0 kk0 k0 hu2
  go_enter Try.func10, Try.ntmps10
  go_wp2_with fail
  go_quiet (fail)
  go_wp2_with fail
  refine (HU.out _ ⟨_, rfl⟩).mono ?_
  rintro e w2 ⟨rfl, A2, k2⟩
  have K2 : Hid (Kp K w w2) := ((Still.kp ⟨_, rfl⟩ K).trans k2)
  obtain ⟨b0, vc, vb, a2, kk⟩ := A2
  obtain ⟨gc, capc, rfl⟩ := owns_slice a2.rows (by omega)
  have A2 := hide a2
  have KK := hide kk
  have B0 := hide b0
  have c2 : w2.cell? ⟨g, 2, none⟩ = some (.slice (some ⟨gc, 0, none⟩) rs.length capc) := a2.blk.cell 2
  have hni : (n : Int) < (rs.length : Int) := by omega
  have hne : ¬ gc = g := fun e => owns_apart a2.rows a2.blk (by decide) (by rw [e]; rfl)
  have hne' : ¬ g = gc := fun e => hne e.symm
  have LL : Hid (∀ w', Below w2.heap.size w2 w' → w'.cell? ⟨g, 2, none⟩ = some (.slice (some ⟨gc, 0, none⟩) rs.length capc) ∧ w'.cell? ⟨g, 1, none⟩ = some (.int .i64 used) ∧ w'.frozen? ⟨g, 1, none⟩ = false ∧ w'.frozen? ⟨gc, n * 3, none⟩ = false ∧ w'.frozen? ⟨gc, n * 3 + 1, none⟩ = false ∧ w'.frozen? ⟨gc, n * 3 + 2, none⟩ = false ∧ ∃ u v z, w'.cell? ⟨gc, n * 3, none⟩ = some u ∧ w'.cell? ⟨gc, n * 3 + 1, none⟩ = some v ∧ w'.cell? ⟨gc, n * 3 + 2, none⟩ = some z) := by
    intro w' f
    have a' : SpC w' g most used rs back (.slice (some ⟨gc, 0, none⟩) rs.length capc) vb := A2.out.same (fun k hk => f.block k (A2.out.lt hk))
    obtain ⟨r, hr⟩ : ∃ r, rs[n]? = some r := ⟨_, List.getElem?_eq_getElem hn⟩
    refine ⟨a'.blk.cell 2, a'.blk.cell 1, a'.blk.frozen 1, a'.rows.frozenAt _, a'.rows.frozenAt _, a'.rows.frozenAt _, ?_⟩
    have z0 := (a'.rows.cellAt (n * 3) (by omega)).trans (flat_get cell3_length rs n r 0 hr (by omega))
    have z1 := (a'.rows.cellAt (n * 3 + 1) (by omega)).trans (flat_get cell3_length rs n r 1 hr (by omega))
    have z2 := (a'.rows.cellAt (n * 3 + 2) (by omega)).trans (flat_get cell3_length rs n r 2 hr (by omega))
    rcases r with _ | ⟨q, l, ws⟩
    · exact ⟨_, _, _, z0, z1, z2⟩
    · exact ⟨_, _, _, z0, z1, z2⟩
  have hlx : xs.length ≤ 16777216 := by omega
  have hus : wrap64 (used + (xs.length : Int)) = used + (xs.length : Int) := wrap64_in _ (by omega)
  have HN := hide hne
  clear a2 kk b0 k2
  go_wp2_with fail
  go_region_with (go_at_call 27; refine (copied_any _ xs cap _ (HW.out.kp (K2.out.drew)).1 hlx).mono ?_; rintro e w3 ⟨rfl, b3, f3, s3⟩; have f3' := hide ((Below.drew (Below.refl w2.heap.size w2)).trans f3); have B3 := hide b3; have Z3 := hide s3; obtain ⟨c1', c2', y, z0, z1, z2, u0, u1, u2', y0, y1, y2⟩ := LL.out w3 f3'.out; clear b3 f3 s3)
  all_goals (
    go_wp2
    go_ret2
    have a3 : SpC w3 g most used rs back (.slice (some ⟨gc, 0, none⟩) rs.length capc) vb := A2.out.same (fun k hk => f3'.out.block k (A2.out.lt hk))
    have o4 := three_set a3.rows hn (some (w2.heap.size, 0, xs)) _ _ _ rfl
    have nq : ∀ (i l : Nat) (ys : List Int), rs[i]? ≠ some (some (w2.heap.size, l, ys)) := fun i l ys hi => by
      have := (A2.out.words i _ l ys hi).blk.lt
      omega
    have sm : ∀ k, k ≠ gc → (((w3.setCell ⟨gc, n * 3, none⟩ (.slice (some ⟨w2.heap.size, 0, none⟩) xs.length xs.length)).setCell ⟨gc, n * 3 + 1, none⟩ (.int .i64 0)).setCell ⟨gc, n * 3 + 2, none⟩ (.bool true)).heap[k]? = w3.heap[k]? := fun k hk =>
      (Below.heap_setCell _ ⟨gc, n * 3 + 2, none⟩ _ k hk).trans ((Below.heap_setCell _ ⟨gc, n * 3 + 1, none⟩ _ k hk).trans (Below.heap_setCell _ ⟨gc, n * 3, none⟩ _ k hk))
    have t3 : TxtOk w3 w2.heap.size 0 xs := ⟨B3.out, HW.out.1.1, Nat.zero_le _, hlx⟩
    have p := (a3.turn hn o4 (fun k _ hk => sm k (fun e => hk (by rw [e]; rfl))) (fun q l ys e => by
      simp only [Option.some.injEq, Prod.mk.injEq] at e
      obtain ⟨rfl, rfl, rfl⟩ := e
      exact t3.same (sm _ (fun e => owns_apart a3.rows t3.blk (by decide) (by rw [e]; rfl)))) (fun q l ys e i l' ys' _ => by
      simp only [Option.some.injEq, Prod.mk.injEq] at e
      obtain ⟨rfl, rfl, rfl⟩ := e
      exact nq i l' ys')).use (used + xs.length)
    have nK : ¬ K gc := KK.out gc (.inr (.inl rfl))
    have nG : ¬ K g := KK.out g (.inl rfl)
    have kp : Kp K w w3 := K2.out.trans ((Kp.of_below f3'.out).mono (fun k hk => B0.out k hk))
    rw [H2.out]
    refine ⟨by first | rfl | simp, w2.heap.size, ⟨fun k hk => ?_, _, _, p, ?_⟩, (((kp.setCell _ _ _ nK).setCell _ _ _ nK).setCell _ _ _ nK).setCell _ _ _ nG⟩
    · have := B0.out k hk
      have := f3'.out.size
      simp [World.setCell]
      omega
    · rintro k (hk | hk | hk | ⟨i, l, ws', hi⟩)
      · exact KK.out k (.inl hk)
      · exact KK.out k (.inr (.inl hk))
      · exact KK.out k (.inr (.inr (.inl hk)))
      · rw [List.getElem?_set] at hi
        split at hi
        · simp only [hn, if_true, Option.some.injEq, Prod.mk.injEq] at hi
          intro hK
          have := B0.out k hK
          have := hi.1
          omega
        · exact KK.out k (.inr (.inr (.inr ⟨i, l, ws', hi⟩))))

section
variable {K : Nat → Prop} {w : World} {g : Nat} {most : Int} {cs : Strs} {back : List Nat}
theorem Sp.open_ (A : Sp g most cs back K w) : ∃ rs, absT rs = cs ∧ cs.length = rs.length ∧ SK K w g most (total cs) rs back := by
  obtain ⟨rs, h1, h2, h3⟩ := A
  exact ⟨rs, h1, by rw [← h1, absT_length], h2⟩
theorem put_back {h : Nat} (A : Sp g most cs (back ++ [h]) K w) (hc : cs.length ≤ 2147483648) (a : Option Addr) (xs : List Int) (cap : Nat) (W : Bd K w a xs) (hr : (xs.length : Int) ≤ most - total cs) :
    Calls Try.prog 10 #[.pointer (some ⟨g, 0, none⟩), .slice a xs.length cap] w fun e w' => e = .returned (.tuple #[.int .u32 (h : Int), .int .i64 0]) ∧ Sp g most (cs.set (h - 1) (some xs)) back K w' ∧ Kp K w w' := by
  obtain ⟨rs, h1, h2, h3⟩ := A
  have hl : cs.length = rs.length := by rw [← h1, absT_length]
  obtain ⟨p1, p2⟩ := h3.free h (by simp)
  have hlt := (List.getElem?_eq_some_iff.1 p2).1
  have hbl := h3.blen
  simp at hbl
  obtain ⟨n, rfl⟩ : ∃ n, h = n + 1 := ⟨h - 1, by omega⟩
  simp only [Nat.add_sub_cancel] at hlt p2 ⊢
  have hroom := h3.room
  have hlim := h3.lim
  have ht := total_set cs n none (some xs) p2
  simp [lenO] at ht
  refine (put_with (n := n) (u2 := total (cs.set n (some xs))) h2 (fun w1 s1 => unused_back (h2.still s1) (by omega)) (by omega) (by omega) W (by omega) hr (by omega)).mono ?_
  rintro e w' ⟨rfl, q, hA, hk⟩
  refine ⟨rfl, ⟨_, ?_, hA, h3.take xs W.1.1 hr⟩, hk⟩
  rw [← h1]
  simp [absT, List.map_set]
theorem put_new (A : Sp g most cs [] K w) (hc : cs.length < 2147483648) (a : Option Addr) (xs : List Int) (cap : Nat) (W : Bd K w a xs) (hr : (xs.length : Int) ≤ most - total cs) :
    Calls Try.prog 10 #[.pointer (some ⟨g, 0, none⟩), .slice a xs.length cap] w fun e w' => e = .returned (.tuple #[.int .u32 ((cs.length + 1 : Nat) : Int), .int .i64 0]) ∧ Sp g most (cs ++ [some xs]) [] K w' ∧ Kp K w w' := by
  obtain ⟨rs, h1, h2, h3⟩ := A
  have hl : cs.length = rs.length := by rw [← h1, absT_length]
  have hroom := h3.room
  have hlim := h3.lim
  have ht := total_append cs [some xs]
  simp [lenO, total] at ht
  rw [hl]
  refine (put_with (n := rs.length) (rs := rs ++ [none]) (u2 := total (cs ++ [some xs])) h2 (fun w1 s1 => unused_new (h2.still s1) (by omega)) (by simp; omega) (by simp) W (by omega) hr (by omega)).mono ?_
  rintro e w' ⟨rfl, q, hA, hk⟩
  refine ⟨rfl, ⟨_, ?_, hA, h3.grow xs W.1.1 hr⟩, hk⟩
  rw [← h1]
  simp [absT]
theorem put_full (A : Sp g most cs back K w) (a : Option Addr) (n cap : Nat) (hr : most - total cs < (n : Int)) :
    Calls Try.prog 10 #[.pointer (some ⟨g, 0, none⟩), .slice a n cap] w fun e w' => e = .returned (.tuple #[.int .u32 0, .int .i64 4]) ∧ Still w w' := by
  have hroom := A.good.room
  have hlim := A.good.lim
  obtain ⟨rs, h1, ⟨k0, vt, vb, a0, kk⟩, h3⟩ := A
  have c0 : w.cell? ⟨g, 0, none⟩ = some (.int .i64 most) := a0.blk.cell 0
  have c1 : w.cell? ⟨g, 1, none⟩ = some (.int .i64 (total cs)) := a0.blk.cell 1
  have hd : wrap64 (most - total cs) = most - total cs := wrap64_in _ (by omega)
  clear a0 kk h3 k0 h1 hroom hlim
  generalize (total cs : Int) = u at *
  go_enter Try.func10, Try.ntmps10
  go_wp2
  go_quiet (fail)
  go_wp2
  go_ret2
  exact ⟨rfl, _, rfl⟩
theorem put_nil (a : Option Addr) (n cap : Nat) :
    Calls Try.prog 10 #[.pointer none, .slice a n cap] w fun e w' => e = .returned (.tuple #[.int .u32 0, .int .i64 1]) ∧ w' = w := by
  go_enter Try.func10, Try.ntmps10
  go_wp2
  go_ret2
  exact ⟨rfl, rfl⟩
theorem new_any (n : Int) (h0 : 0 ≤ n) (h1 : n ≤ 16777216) : Calls Try.prog 7 #[.int .i64 n] w fun e w' => e = .returned (.pointer (some ⟨w.heap.size, 0, none⟩)) ∧ Sp w.heap.size n [] [] (fun k => k < w.heap.size) w' ∧ Below w.heap.size w w' := by
  have hlow : ¬ (n < 0) := by omega
  have hhigh : ¬ (16777216 < n) := by omega
  go_enter Try.func7, Try.ntmps7
  go_wp2
  go_ret
  refine ⟨rfl, ⟨[], rfl, ⟨fun k hk => by simp; omega, .slice none 0 0, .slice none 0 0, ⟨Blk.new w _ _ _ rfl, World.ownsRow_nil _ _ _ _, World.ownsRow_nil _ _ _ _, by simp, by simp⟩, ?_⟩, ⟨by simpa [total] using h0, h1, rfl, by simp, by simp, by simp⟩⟩, (Below.refl _ _).alloc (Nat.le_refl _) _⟩
  rintro k (hk | hk | hk | ⟨i, l, ws, hi⟩)
  · omega
  · simp [Value.ownBlock] at hk
  · simp [Value.ownBlock] at hk
  · simp at hi
theorem new_none (n : Int) (h0 : n < 0 ∨ 16777216 < n) : Calls Try.prog 7 #[.int .i64 n] w fun e w' => e = .returned (.pointer none) ∧ w' = w := by
  by_cases h : n < 0
  · go_enter Try.func7, Try.ntmps7
    go_wp2
    go_ret
    exact ⟨rfl, rfl⟩
  · have h' : 16777216 < n := by omega
    clear h0
    go_enter Try.func7, Try.ntmps7
    go_wp2
    go_ret
    exact ⟨rfl, rfl⟩
end
end Go.Proofs.Ytaoabjcbolncoaa
