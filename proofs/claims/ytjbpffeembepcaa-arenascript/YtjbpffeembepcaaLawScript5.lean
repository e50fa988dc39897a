/- ArenaScript. -/
import Derived.Test.YtjbpffeembepcaaActs5
import Derived.Deep.RegionHeld3
import Derived.Deep.DeepCutAuto
import Derived.Deep.CutBlock
import Derived.Deep.LoopGhost
namespace Go.Proofs.Ytjbpffeembepcaa
open Go.RowKit
set_option linter.unusedVariables false
set_option linter.unusedSimpArgs false

theorem pair_new {B ga gr : Nat} {most : Int} {w1 w2 : World} (A : Ar (fun k => k < B) w1 ga most [] []) (hB : B ≤ w1.heap.size) (R : Rf (fun k => k < w1.heap.size) w2 gr most [] []) (f : Below w1.heap.size w1 w2) : Pair (fun k => k < B) w2 ga gr most [] [] [] [] := by
  obtain ⟨F, f1, f2⟩ := A.foot'
  obtain ⟨G, g1, g2⟩ := R.foot
  have hs := f.size
  exact ⟨F, G, fun k hk => ⟨by have := (f1 k hk).2; omega, fun hg => (g1 k hg).1 (f1 k hk).2, (f1 k hk).1⟩, fun k hk => ⟨(g1 k hk).2, fun hx => (g1 k hk).1 (show k < w1.heap.size by have : k < B := hx; omega)⟩, fun k hk => by have : k < B := hk; omega,
    fun w' K' hw hK => f2 w' K' (fun k hk => (hw k hk).trans (f.block k (f1 k hk).2)) hK, g2⟩

set_option maxRecDepth 20000 in
set_option maxHeartbeats 6400000 in
theorem script_any (most : Int) (a : Option Addr) (xs : List Do5) (ca : Nat) (w : World) (ha : Acts5 w a xs) :
    Calls Try.prog 3 #[.int .i64 most, .slice a xs.length ca] w fun e w' => e = .returned (.bool true) ∧ Below w.heap.size w w' := by
  have A := hide ha
  clear ha
  by_cases hla : 80 < xs.length
  · go_enter Try.func3, Try.ntmps3
    go_wp2_with (go_at_call 8; refine (awake_any _).mono ?_; rintro e w' ⟨rfl, hw⟩)
    go_ret
    exact ⟨rfl, hw⟩
  have hla' : ¬ (80 < (xs.length : Int)) := by omega
  by_cases hm : 40 < most
  · go_enter Try.func3, Try.ntmps3
    go_wp2_with (go_at_call 8; refine (awake_any _).mono ?_; rintro e w' ⟨rfl, hw⟩)
    go_ret
    exact ⟨rfl, hw⟩
  by_cases hn : most < 0
  · have N1 := fun w : World => new_none (w := w) most (.inl hn)
    have N2 := fun w : World => rnew_none (w := w) most (.inl hn)
    go_enter Try.func3, Try.ntmps3
    go_wp2_with (first
      | (go_at_call 9; refine (N1 _).mono ?_; rintro e w1 ⟨rfl, rfl⟩)
      | (go_at_call 10; refine (N2 _).mono ?_; rintro e w1 ⟨rfl, rfl⟩)
      | (go_at_call 8; refine (awake_any _).mono ?_; rintro e w' ⟨rfl, hw⟩))
    go_ret
    exact ⟨rfl, hw⟩
  have N1 := fun w : World => new_any (w := w) most (by omega) (by omega)
  have N2 := fun w : World => rnew_any (w := w) most (by omega) (by omega)
  go_enter Try.func3, Try.ntmps3
  go_wp2_with (first
    | (go_at_call 9; refine (N1 _).mono ?_; rintro e w1 ⟨rfl, A1, f1⟩; have AA := hide A1; have F1 := hide f1; clear A1 f1)
    | (go_at_call 10; refine (N2 _).mono ?_; rintro e w2 ⟨rfl, R2, f2⟩; have P2 := hide (pair_new AA.out F1.out.size R2 f2); have K2 := hide ((Kp.of_below F1.out).trans ((Kp.of_below f2).mono (fun k hk => Nat.lt_of_lt_of_le hk F1.out.size))); clear R2 f2))
  go_loopg [7] (xs.length) (fun rem v7 wr => ∃ (j : Nat) (cs : Cells) (back : List Nat), rem = xs.length - j ∧ v7 = .int .i64 j ∧ j ≤ xs.length ∧ Pair (fun k => k < w.heap.size) wr w.heap.size (w1.heap.size + 1) most cs back cs back ∧ Kp (fun k => k < w.heap.size) w wr)
  case atStart => exact ⟨0, [], [], by omega, rfl, by omega, P2.out, K2.out⟩
  case round =>
    obtain ⟨j, cs, back, hrem, rfl, hj, hp, hk⟩ := hrel
    have P := hide hp
    have KK := hide hk
    have HR := hide hrem
    clear hp hk hrem P2 K2 N1 N2
    by_cases h1 : j < xs.length
    · obtain ⟨b, off, ⟨d, i, h, ax, capx, ws⟩, rfl, hh, hwd, hc⟩ := A.out.cell j h1
      have c0 := hc wr KK.out 0 _ rfl
      have c1 := hc wr KK.out 1 _ rfl
      have c2 := hc wr KK.out 2 _ rfl
      have c3 := hc wr KK.out 3 _ rfl
      simp only [Nat.add_zero] at c0
      dsimp only at c0 c1 c2 c3 hh hwd
      have WD := hide hwd
      have HH := hide hh
      clear hc hwd hh
      have F3 : Below wr.heap.size wr (wr.alloc (.cells (Do5.cells ⟨d, i, h, ax, capx, ws⟩).toArray 31 (0, 0))) := (Below.refl _ _).alloc (Nat.le_refl _) _
      have S3 : Hid (Sit5 w (fun k => k < w.heap.size ∨ wr.heap.size ≤ k ∧ k < (wr.alloc (.cells (Do5.cells ⟨d, i, h, ax, capx, ws⟩).toArray 31 (0, 0))).heap.size) w.heap.size (w1.heap.size + 1) wr.heap.size most ⟨d, i, h, ax, capx, ws⟩ cs back cs back (wr.alloc (.cells (Do5.cells ⟨d, i, h, ax, capx, ws⟩).toArray 31 (0, 0)))) :=
        ⟨P.out.more F3, Blk.new _ _ _ _ rfl, .inr ⟨Nat.le_refl _, by simp⟩, KK.out.alloc _, fun k hk => .inl hk⟩
      clear F3
      generalize hX : (fun k => k < w.heap.size ∨ wr.heap.size ≤ k ∧ k < (wr.alloc (.cells (Do5.cells ⟨d, i, h, ax, capx, ws⟩).toArray 31 (0, 0))).heap.size) = X at S3
      have XL : Hid (∀ k, k < w.heap.size → X k) := by rw [← hX]; exact fun k hk => .inl hk
      clear hX
      by_cases h70 : 70 < ws.length
      · go_wp2_with (go_at_call 8; refine (awake_any _).mono ?_; rintro e w5 ⟨rfl, f5⟩; have F5 := hide f5; clear f5)
        go_ret
        exact ⟨rfl, (KK.out.alloc _).below (Nat.le_refl _) (fun k hk => hk) |>.trans (F5.out.mono (KK.out.alloc _).size)⟩
      have h70i : ¬ (70 < (ws.length : Int)) := by omega
      go_upto_if 62 with fail
      go_cut [9] (fun v9 wx => ∃ v : Int, v9 = .int .u64 v ∧ Sit5 w X w.heap.size (w1.heap.size + 1) wr.heap.size most ⟨d, i, h, ax, capx, ws⟩ cs back cs back wx)
      case first =>
        by_cases hw0 : 0 < ws.length
        · have hw0i : 0 < (ws.length : Int) := by omega
          obtain ⟨bw, ow, rfl, y0⟩ : ∃ bw ow, ax = some ⟨bw, ow, none⟩ ∧ ∀ W, Kp (fun k => k < w.heap.size) w W → W.cell? ⟨bw, ow, none⟩ = some (.int .u64 (wAt ws 0)) := by
            rcases WD.out wr KK.out with e | ⟨bw, ow, e, hb, hcc⟩
            · rw [e] at hw0; simp at hw0
            · refine ⟨bw, ow, e, fun W hW => ?_⟩
              rcases WD.out W hW with e2 | ⟨bw2, ow2, e2, _, hc2⟩
              · rw [e2] at hw0; simp at hw0
              · rw [e] at e2
                simp only [Option.some.injEq, Addr.mk.injEq] at e2
                obtain ⟨rfl, rfl, _⟩ := e2
                exact hc2 0 hw0
          have y1 := y0 wr KK.out
          have y2 := y0 _ (KK.out.alloc (.cells #[.int .i64 d, .int .i64 i, .int .u32 (h : Int), .slice (some ⟨bw, ow, none⟩) ws.length capx] 31))
          clear y0
          go_wp2
          go_meet
          case rel => exact ⟨_, rfl, S3.out⟩
        · have hw0i : ¬ (0 < (ws.length : Int)) := by omega
          go_wp2
          go_meet
          case rel => exact ⟨_, rfl, S3.out⟩
      case rest =>
        obtain ⟨v, rfl, hs⟩ := hcut
        have S4 := hide hs
        have e0 : wc.cell? ⟨wr.heap.size, 0, none⟩ = some (.int .i64 d) := hs.b.cell 0
        have e1 : wc.cell? ⟨wr.heap.size, 1, none⟩ = some (.int .i64 i) := hs.b.cell 1
        have e2 : wc.cell? ⟨wr.heap.size, 2, none⟩ = some (.int .u32 (h : Int)) := hs.b.cell 2
        have e3 : wc.cell? ⟨wr.heap.size, 3, none⟩ = some (.slice ax ws.length capx) := hs.b.cell 3
        clear hs c0 c1 c2 c3 S3 P KK
        go_upto_block 2 with fail
        go_cut [] (fun wx => ∃ (cs' : Cells) (back' : List Nat), Sit5 w X w.heap.size (w1.heap.size + 1) wr.heap.size most ⟨d, i, h, ax, capx, ws⟩ cs' back' cs' back' wx)
        case first =>
          by_cases hd0 : d = 0
          · subst hd0
            obtain ⟨v2, w4, r4, o4, f4⟩ := copy_words (S4.out.wd WD.out) capx (by dsimp only; omega)
            dsimp only at r4 o4
            obtain ⟨av, capv, rfl⟩ := owns_slice' o4
            obtain ⟨th, te, tcs, tback, hT⟩ : ∃ th te tcs tback, takeTo most cs back ws = (th, te, tcs, tback) := ⟨_, _, _, _, rfl⟩
            have S5 := hide (S4.out.more f4)
            have NX : Hid (∀ k, Value.ownBlock (.slice av ws.length capv) = some k → (X k ∨ wc.heap.size ≤ k ∧ k < w4.heap.size) ∧ ¬ X k) := fun k hk => ⟨.inr (o4.lt k hk), fun hx => by have := S4.out.lt k hx; have := (o4.lt k hk).1; omega⟩
            have T1 := pa_take S5.out.p av ws capv (wd_own o4 (fun k hk => (NX.out k hk).1))
            rw [hT] at T1
            dsimp only at T1
            have O4 := hide (owns_zero o4)
            have g3 : w4.cell? ⟨wr.heap.size, 3, none⟩ = some (.slice ax ws.length capx) := S5.out.b.cell 3
            have LB : Hid (X wr.heap.size) := S4.out.hx
            have HT := hide hT
            clear o4 f4 hT
            go_wp2_with (first
              | (at_builtin; refine wpList_append_run rfl _ _ _ _ rfl _ _ _ _ rfl rfl r4 ?_)
              | (go_at_call 11; refine T1.mono ?_; rintro e w5 ⟨rfl, p5, k5⟩; have S6 := hide (S5.out.turn p5 k5); have O6 := hide (owns_kp O4.out k5 (fun k hk => (NX.out k hk).1)); clear p5 k5)
              | (go_at_call 12; refine (over_words av ws.length capv 0 ws _ rfl O6.out (by omega) (Nat.zero_le _)).mono ?_; rintro e w6 ⟨rfl, g6⟩; have S7 := hide (S6.out.over (X := X) (fun k hk => .inl hk) g6 NX.out LB.out XL.out); have g7 : w6.cell? ⟨wr.heap.size, 3, none⟩ = some (.slice ax ws.length capx) := S7.out.b.cell 3; have T2 := pr_take S7.out.p ax ws capx (S7.out.wd WD.out); rw [HT.out] at T2; dsimp only at T2; clear g6)
              | (go_at_call 13; refine T2.mono ?_; rintro e w7 ⟨rfl, p7, k7⟩; have S8 := hide (S7.out.turn p7 k7); clear p7 k7))
            go_meet
            case rel => exact ⟨_, _, S8.out⟩
          by_cases hd1 : d = 1
          · subst hd1
            obtain ⟨te, tcs, tback, hT⟩ : ∃ te tcs tback, giveTo cs back h = (te, tcs, tback) := ⟨_, _, _, rfl⟩
            have T1 := pa_give S4.out.drew.p h HH.out
            rw [hT] at T1
            dsimp only at T1
            have HT := hide hT
            have e2d : wc.drew.cell? ⟨wr.heap.size, 2, none⟩ = some (.int .u32 (h : Int)) := e2
            clear hT
            go_wp2_with fail
            go_region_held3 (fun w' => w'.cell? ⟨wr.heap.size, 2, none⟩ = some (.int .u32 (h : Int))) (first | exact g6 | exact g5 | exact e2d)
              (first
              | (go_at_call 14; refine T1.mono ?_; rintro e w5 ⟨rfl, p5, k5⟩; have S5 := hide (S4.out.drew.turn p5 k5); have g5 : w5.cell? ⟨wr.heap.size, 2, none⟩ = some (.int .u32 (h : Int)) := S5.out.b.cell 2; have T2 := pr_give S5.out.p h HH.out; rw [HT.out] at T2; dsimp only at T2; clear p5 k5)
              | (go_at_call 15; refine T2.mono ?_; rintro e w6 ⟨rfl, p6, k6⟩; have S6 := hide (S5.out.turn p6 k6); have g6 : w6.cell? ⟨wr.heap.size, 2, none⟩ = some (.int .u32 (h : Int)) := S6.out.b.cell 2; clear p6 k6))
            go_wp2
            go_meet
            case rel => exact ⟨_, _, S6.out⟩
          by_cases hd2 : d = 2
          · subst hd2
            obtain ⟨tn, te, hT⟩ : ∃ tn te, getTo cs h i = (tn, te) := ⟨_, _, rfl⟩
            have T1 := pa_get S4.out.p h HH.out i
            have T2 := pr_word S4.out.p h HH.out i 0
            rw [hT] at T1 T2
            dsimp only at T1 T2
            clear hT
            go_wp2_with (first
              | (go_at_call 16; refine T1.mono ?_; rintro e w5 ⟨rfl, rfl⟩)
              | (go_at_call 17; refine T2.mono ?_; rintro e w6 ⟨rfl, rfl⟩))
            go_meet
            case rel => exact ⟨_, _, S4.out⟩
          by_cases hd3 : d = 3
          · subst hd3
            obtain ⟨te, tcs, hT⟩ : ∃ te tcs, setTo cs h i v = (te, tcs) := ⟨_, _, rfl⟩
            have T1 := pr_set S4.out.p h HH.out i v
            rw [hT] at T1
            dsimp only at T1
            have HT := hide hT
            clear hT
            go_wp2_with (first
              | (go_at_call 17; refine T1.mono ?_; rintro e w5 ⟨rfl, p5, k5⟩; have S5 := hide (S4.out.turn p5 k5); have g51 : w5.cell? ⟨wr.heap.size, 1, none⟩ = some (.int .i64 i) := S5.out.b.cell 1; have g52 : w5.cell? ⟨wr.heap.size, 2, none⟩ = some (.int .u32 (h : Int)) := S5.out.b.cell 2; have T2 := pa_set S5.out.p h HH.out i v; rw [HT.out] at T2; dsimp only at T2; clear p5 k5)
              | (go_at_call 18; refine T2.mono ?_; rintro e w6 ⟨rfl, p6, k6⟩; have S6 := hide (S5.out.turn p6 k6); clear p6 k6))
            go_meet
            case rel => exact ⟨_, _, S6.out⟩
          · go_wp2
            go_meet
            case rel => exact ⟨_, _, S4.out⟩
        case rest =>
          obtain ⟨cs2, back2, hs⟩ := hcut
          have S9 := hide hs
          have e2' : wc.cell? ⟨wr.heap.size, 2, none⟩ = some (.int .u32 (h : Int)) := hs.b.cell 2
          clear hs S4
          clear e0 e1 e2 e3
          obtain ⟨bb, hbb⟩ : ∃ bb, bb = (atH cs2 h).isSome := ⟨_, rfl⟩
          obtain ⟨sz, hsz⟩ : ∃ sz, sz = sizeTo cs2 h := ⟨_, rfl⟩
          have T1 := pr_there S9.out.p h HH.out
          rw [← hbb] at T1
          have HB := hide hbb
          have HS := hide hsz
          clear hbb hsz
          go_upto_if 160 with (go_at_call 19; refine T1.mono ?_; rintro e w5 ⟨rfl, rfl⟩)
          go_cut [21] (fun v21 wx => v21 = .int .i64 (sz : Int) ∧ Sit5 w X w.heap.size (w1.heap.size + 1) wr.heap.size most ⟨d, i, h, ax, capx, ws⟩ cs2 back2 cs2 back2 wx)
          case first =>
            cases bb with
            | true =>
              obtain ⟨ws2, hat⟩ : ∃ ws2, atH cs2 h = some ws2 := Option.isSome_iff_exists.1 HB.out.symm
              have hz : sz = ws2.length := by
                rw [HS.out]
                unfold sizeTo
                rw [hat]
              obtain ⟨gc, cap, rl, a2, capw, y0, y1, y2⟩ := pr_cell S9.out.p h ws2 hat
              have y3 : (h : Int) < (rl : Int) := by omega
              have HZ := hide hz
              clear hat hz
              go_wp2
              go_quiet (fail)
              go_wp2
              go_meet
              case rel => exact ⟨by rw [HZ.out], S9.out.still ⟨_, rfl⟩⟩
            | false =>
              have hz : sz = 0 := by
                rw [HS.out]
                unfold sizeTo
                cases hat : atH cs2 h with
                | none => rfl
                | some ws2 =>
                  have := HB.out
                  rw [hat] at this
                  cases this
              have HZ := hide hz
              clear hz
              go_wp2
              go_meet
              case rel => exact ⟨by rw [HZ.out]; rfl, S9.out⟩
          case rest =>
            obtain ⟨rfl, hs⟩ := hcut
            have S10 := hide hs
            have q2 : wc.cell? ⟨wr.heap.size, 2, none⟩ = some (.int .u32 (h : Int)) := hs.b.cell 2
            clear hs S9 e2' T1
            obtain ⟨L, hL⟩ : ∃ L : Nat, L = cs2.length - back2.length := ⟨_, rfl⟩
            have hLm : (L : Int) ≤ most := by
              have := S10.out.p.fit.1.len
              omega
            have hLw : wrap64 (most - (L : Int)) = most - (L : Int) := wrap64_in _ (by omega)
            obtain ⟨HS2, hHS⟩ : ∃ l : List Nat, l = hOf cs2 cs2.length := ⟨_, rfl⟩
            have hlh : HS2.length ≤ 1048576 := by
              have h2 := hOf_le cs2 cs2.length
              have h3 := S10.out.p.fit.1
              have := h3.len
              have := h3.lim
              rw [hHS]
              omega
            have CS1 : Hid (∀ W, Sit5 w X w.heap.size (w1.heap.size + 1) wr.heap.size most ⟨d, i, h, ax, capx, ws⟩ cs2 back2 cs2 back2 W → Calls Try.prog 20 #[.pointer (some ⟨w.heap.size, 0, none⟩), .int .u32 (h : Int)] W fun e w' => e = .returned (.int .i64 (sz : Int)) ∧ w' = W) := fun W hW => by rw [HS.out]; exact pa_size hW.p h HH.out
            have CL1 : Hid (∀ W, Sit5 w X w.heap.size (w1.heap.size + 1) wr.heap.size most ⟨d, i, h, ax, capx, ws⟩ cs2 back2 cs2 back2 W → Calls Try.prog 21 #[.pointer (some ⟨w.heap.size, 0, none⟩)] W fun e w' => e = .returned (.int .i64 (L : Int)) ∧ Still W w') := fun W hW => by rw [hL]; exact pa_live hW.p
            have CL2 : Hid (∀ W, Sit5 w X w.heap.size (w1.heap.size + 1) wr.heap.size most ⟨d, i, h, ax, capx, ws⟩ cs2 back2 cs2 back2 W → Calls Try.prog 22 #[.pointer (some ⟨w1.heap.size + 1, 0, none⟩)] W fun e w' => e = .returned (.int .i64 (L : Int)) ∧ Still W w') := fun W hW => by rw [hL]; exact pr_live hW.p
            have CF : Hid (∀ W, Sit5 w X w.heap.size (w1.heap.size + 1) wr.heap.size most ⟨d, i, h, ax, capx, ws⟩ cs2 back2 cs2 back2 W → Calls Try.prog 23 #[.pointer (some ⟨w.heap.size, 0, none⟩)] W fun e w' => e = .returned (.int .i64 (most - (L : Int))) ∧ Still W w') := fun W hW => by rw [hL]; exact pa_free hW.p
            have CH1 : Hid (∀ W, Sit5 w X w.heap.size (w1.heap.size + 1) wr.heap.size most ⟨d, i, h, ax, capx, ws⟩ cs2 back2 cs2 back2 W → Calls Try.prog 25 #[.pointer (some ⟨w.heap.size, 0, none⟩)] W fun e w' => ∃ a cap, e = .returned (.slice a HS2.length cap) ∧ w'.ownsRow W.heap.size 28 1 (.slice a HS2.length cap) HS2.length (u32s HS2) ∧ Below W.heap.size W w') := fun W hW => by rw [hHS]; exact pa_handles hW.p
            have CH2 : Hid (∀ W, Sit5 w X w.heap.size (w1.heap.size + 1) wr.heap.size most ⟨d, i, h, ax, capx, ws⟩ cs2 back2 cs2 back2 W → Calls Try.prog 26 #[.pointer (some ⟨w1.heap.size + 1, 0, none⟩)] W fun e w' => ∃ a cap, e = .returned (.slice a HS2.length cap) ∧ w'.ownsRow W.heap.size 28 1 (.slice a HS2.length cap) HS2.length (u32s HS2) ∧ Below W.heap.size W w') := fun W hW => by rw [hHS]; exact pr_handles hW.p
            have HLM := hide hLm
            clear hL hHS hLm
            go_wp2_with (first
              | (go_at_call 20; refine (CS1.out _ S10.out).mono ?_; rintro e w11 ⟨rfl, rfl⟩)
              | (go_at_call 21; refine (CL1.out _ S10.out).mono ?_; rintro e w12 ⟨rfl, s12⟩; have S12 := hide (S10.out.still s12); clear s12)
              | (go_at_call 22; first
                | (refine (CL2.out _ S14.out).mono ?_; rintro e w15 ⟨rfl, s15⟩; have S15 := hide (S14.out.still s15); clear s15)
                | (refine (CL2.out _ S12.out).mono ?_; rintro e w13 ⟨rfl, s13⟩; have S13 := hide (S12.out.still s13); clear s13))
              | (go_at_call 23; refine (CF.out _ S13.out).mono ?_; rintro e w14 ⟨rfl, s14⟩; have S14 := hide (S13.out.still s14); clear s14)
              | (go_at_call 25; refine (CH1.out _ S15.out).mono ?_; rintro e w16 ⟨a16, c16, rfl, o16, f16⟩; have S16 := hide (S15.out.below f16); have O16 := hide o16; clear o16 f16)
              | (go_at_call 26; refine (CH2.out _ S16.out).mono ?_; rintro e w17 ⟨a17, c17, rfl, o17, f17⟩; have S17 := hide (S16.out.below f17); have O17 := hide o17; have Q17 := hide (owns_same O16.out (fun k hk => f17.block k (O16.out.lt k hk).2)); clear o17 f17)
              | (go_at_call 24; refine (same_handles _ _ _ _ _ _ _ HS2 _ rfl (by omega) Q17.out O17.out).mono ?_; rintro e w18 ⟨rfl, s18⟩; have S18 := hide (S17.out.still s18); clear s18))
            go_roundg (xs.length - (j + 1))
            case measure => have := HR.out; omega
            case rel => exact ⟨j + 1, cs2, back2, rfl, by go_num, by omega, S18.out.p.less XL.out, S18.out.k⟩
    · go_wp2_with fail
      refine (awake_any _).mono ?_
      rintro e w3 ⟨rfl, f3⟩
      have F3 := hide f3
      clear f3
      go_wp2
      go_ret
      exact ⟨rfl, (KK.out.below (Nat.le_refl _) (fun k hk => hk)).trans (F3.out.mono KK.out.size)⟩
end Go.Proofs.Ytjbpffeembepcaa
