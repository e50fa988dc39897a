/- SpanScript. -/
import Derived.Test.YtaoabjcbolncoaaActs6
import Derived.Test.YtaoabjcbolncoaaOver6
import Derived.Deep.RegionHeld3
import Derived.Deep.DeepCutAuto
import Derived.Deep.CutBlock
import Derived.Deep.LoopGhost
namespace Go.Proofs.Ytaoabjcbolncoaa
open Go.RowKit
set_option linter.unusedVariables false
set_option linter.unusedSimpArgs false

theorem grown_none {w w' : World} (g : w.grownBy w' (Value.ownBlock (.slice none 0 0))) : Below w.heap.size w w' :=
  ⟨g.os, g.tape, g.output, g.size, fun k hk => g.block k hk (by simp [Value.ownBlock])⟩
set_option maxRecDepth 20000 in
set_option maxHeartbeats 6400000 in
theorem script_any (most : Int) (a : Option Addr) (xs : List Do6) (ca : Nat) (w : World) (ha : Acts6 w a xs) :
    Calls Try.prog 3 #[.int .i64 most, .slice a xs.length ca] w fun e w' => e = .returned (.bool true) ∧ Below w.heap.size w w' := by
  have A := hide ha
  clear ha
  by_cases hla : 80 < xs.length
  · have hlai : (80 : Int) < (xs.length : Int) := by omega
    go_enter Try.func3, Try.ntmps3
    go_wp2_with (go_at_call 6; refine (awake_any _).mono ?_; rintro e w' ⟨rfl, hw⟩)
    go_ret
    exact ⟨rfl, hw⟩
  have hla' : ¬ (80 < (xs.length : Int)) := by omega
  by_cases hn : most < 0 ∨ 16777216 < most
  · have N1 := fun w : World => new_none (w := w) most hn
    have N2 := fun w : World => rnew_none (w := w) most hn
    clear hn
    go_enter Try.func3, Try.ntmps3
    go_wp2_with (first
      | (go_at_call 7; refine (N1 _).mono ?_; rintro e w1 ⟨rfl, rfl⟩)
      | (go_at_call 8; refine (N2 _).mono ?_; rintro e w1 ⟨rfl, rfl⟩)
      | (go_at_call 6; refine (awake_any _).mono ?_; rintro e w' ⟨rfl, hw⟩))
    go_ret
    exact ⟨rfl, hw⟩
  have N1 := fun w : World => new_any (w := w) most (by omega) (by omega)
  have N2 := fun w : World => rnew_any (w := w) most (by omega) (by omega)
  go_enter Try.func3, Try.ntmps3
  go_wp2_with fail
  refine (N1 _).mono ?_
  rintro e w1 ⟨rfl, A1, f1⟩
  have AA := hide A1
  have F1 := hide f1
  clear A1 f1
  go_wp2_with fail
  refine (N2 _).mono ?_
  rintro e w2 ⟨gr, rfl, R2, f2⟩
  have P2 : Hid (Two w.heap.size gr most [] [] [] [] (fun k => k < w.heap.size) w2) := Both.of (Sp.lies _ _ _ _) (Rf.lies _ _ _ _) AA.out R2 f2
  have K2 := hide ((Kp.of_below F1.out).trans ((Kp.of_below f2).mono (fun k hk => Nat.lt_of_lt_of_le hk F1.out.size)))
  clear R2 f2
  go_wp2_with fail
  go_loopg [7] (xs.length) (fun rem v7 wr => ∃ (j : Nat) (cs : Strs) (back : List Nat), rem = xs.length - j ∧ v7 = .int .i64 j ∧ j ≤ xs.length ∧ cs.length ≤ j ∧ Two w.heap.size gr most cs back cs back (fun k => k < w.heap.size) wr ∧ Kp (fun k => k < w.heap.size) w wr)
  case atStart => exact ⟨0, [], [], by omega, rfl, by omega, by simp, P2.out, K2.out⟩
  case round =>
    obtain ⟨j, cs, back, hrem, rfl, hj, hcl, hp, hk⟩ := hrel
    have P := hide hp
    have KK := hide hk
    have HR := hide hrem
    clear hp hk hrem P2 K2 N1 N2
    by_cases h1 : j < xs.length
    · obtain ⟨b, off, ⟨d, i, h, ax, capx, ys⟩, rfl, hh, hbd, hc⟩ := A.out.cell j h1
      have c0 := hc wr KK.out 0 _ rfl
      have c1 := hc wr KK.out 1 _ rfl
      have c2 := hc wr KK.out 2 _ rfl
      have c3 := hc wr KK.out 3 _ rfl
      simp only [Nat.add_zero] at c0
      dsimp only at c0 c1 c2 c3 hh hbd
      have BD := hide hbd
      have HH := hide hh
      clear hc hbd hh
      have F3 : Below wr.heap.size wr (wr.alloc (.cells (Do6.cells ⟨d, i, h, ax, capx, ys⟩).toArray 31 (0, 0))) := (Below.refl _ _).alloc (Nat.le_refl _) _
      have S3 : Hid (Sit6 w (fun k => k < w.heap.size ∨ wr.heap.size ≤ k ∧ k < (wr.alloc (.cells (Do6.cells ⟨d, i, h, ax, capx, ys⟩).toArray 31 (0, 0))).heap.size) w.heap.size gr wr.heap.size most ⟨d, i, h, ax, capx, ys⟩ cs back cs back (wr.alloc (.cells (Do6.cells ⟨d, i, h, ax, capx, ys⟩).toArray 31 (0, 0)))) :=
        ⟨(Two.lies _ _ _ _ _ _ _).more P.out F3, Blk.new _ _ _ _ rfl, .inr ⟨Nat.le_refl _, by simp⟩, KK.out.alloc _, fun k hk => .inl hk⟩
      clear F3
      generalize hX : (fun k => k < w.heap.size ∨ wr.heap.size ≤ k ∧ k < (wr.alloc (.cells (Do6.cells ⟨d, i, h, ax, capx, ys⟩).toArray 31 (0, 0))).heap.size) = X at S3
      have XL : Hid (∀ k, k < w.heap.size → X k) := by rw [← hX]; exact fun k hk => .inl hk
      clear hX
      by_cases h60 : 60 < ys.length
      · have h60i : (60 : Int) < (ys.length : Int) := by omega
        go_wp2_with (go_at_call 6; refine (awake_any _).mono ?_; rintro e w5 ⟨rfl, f5⟩; have F5 := hide f5; clear f5)
        go_ret
        exact ⟨rfl, (KK.out.alloc _).below (Nat.le_refl _) (fun k hk => hk) |>.trans (F5.out.mono (KK.out.alloc _).size)⟩
      have h60i : ¬ (60 < (ys.length : Int)) := by omega
      go_upto_if 47 with fail
      go_cut [] (fun wx => Sit6 w X w.heap.size gr wr.heap.size most ⟨d, i, h, ax, capx, ys⟩ cs back cs back wx)
      case first =>
        go_wp2
        go_meet
        case rel => exact S3.out
      case rest =>
        have S4 := hide hcut
        have e0 : wc.cell? ⟨wr.heap.size, 0, none⟩ = some (.int .i64 d) := hcut.b.cell 0
        have e1 : wc.cell? ⟨wr.heap.size, 1, none⟩ = some (.int .i64 i) := hcut.b.cell 1
        have e2 : wc.cell? ⟨wr.heap.size, 2, none⟩ = some (.int .u32 (h : Int)) := hcut.b.cell 2
        have e3 : wc.cell? ⟨wr.heap.size, 3, none⟩ = some (.slice ax ys.length capx) := hcut.b.cell 3
        have hcl' : cs.length ≤ 80 := by omega
        clear hcut c0 c1 c2 c3 S3 P KK
        go_upto_block 2 with fail
        go_cut [9] (fun v9 wx => v9 = .bool true ∧ ∃ (cs' : Strs) (back' : List Nat), cs'.length ≤ j + 1 ∧ Sit6 w X w.heap.size gr wr.heap.size most ⟨d, i, h, ax, capx, ys⟩ cs' back' cs' back' wx)
        case first =>
          by_cases hd0 : d = 0
          · subst hd0
            have L := lend_any ax ys capx wc (S4.out.bd BD.out).1 (by omega)
            have HLd := hide L
            have LB : Hid (X wr.heap.size) := S4.out.hx
            obtain ⟨th, te, tcs, tback, hT⟩ : ∃ th te tcs tback, putTo most cs back ys = (th, te, tcs, tback) := ⟨_, _, _, _, rfl⟩
            have hTl : tcs.length ≤ cs.length + 1 := by have := putTo_length most cs back ys; rw [hT] at this; exact this
            have HT := hide hT
            clear hT L
            go_wp2_with fail
            refine HLd.out.mono ?_
            rintro e w4 ⟨rfl, b4, f4⟩
            have S5 := hide (S4.out.more f4)
            have B4 : Hid (Blk w4 wc.heap.size 5 (u8s (lentK ys 3))) := b4
            have hby : IsBytes ys := (S4.out.bd BD.out).1.1
            have HBY := hide hby
            have hll : (lentK ys 3).length = ys.length + 3 := lentK_length ys 3 (Nat.le_refl _)
            have R4 : Rd w4 (some ⟨wc.heap.size, 0, none⟩) ys := by
              have h2 := (blk_rd b4 (lentK_bytes hby 3) (by rw [hll]; unfold maxLen; omega)).take ys.length
              have e : (lentK ys 3).take ys.length = ys := by simp [lentK]
              rwa [e] at h2
            have hlt4 : wc.heap.size < w4.heap.size := B4.out.lt
            have BD4 : Bd (fun k => X k ∨ wc.heap.size ≤ k ∧ k < w4.heap.size) w4 (some ⟨wc.heap.size, 0, none⟩) ys := ⟨R4, .inr ⟨_, _, rfl, .inr ⟨Nat.le_refl _, hlt4⟩⟩⟩
            have T1 := t_put S5.out.p (by omega) (some ⟨wc.heap.size, 0, none⟩) ys (ys.length + 3) BD4
            rw [HT.out] at T1
            dsimp only at T1
            have g3 : w4.cell? ⟨wr.heap.size, 3, none⟩ = some (.slice ax ys.length capx) := S5.out.b.cell 3
            have NX : Hid (∀ k, some wc.heap.size = some k → (X k ∨ wc.heap.size ≤ k ∧ k < w4.heap.size) ∧ ¬ X k) := fun k hk => by
              cases hk
              exact ⟨.inr ⟨Nat.le_refl _, hlt4⟩, fun hx => by have := S4.out.lt _ hx; omega⟩
            clear b4 f4 R4 BD4 hby hll hlt4
            go_wp2_with fail
            refine T1.mono ?_
            rintro e w5 ⟨rfl, p5, k5⟩
            have S6 := hide (S5.out.turn p5 k5)
            have B5 := hide (B4.out.kp k5 (NX.out _ rfl).1)
            have g5 : w5.cell? ⟨wr.heap.size, 3, none⟩ = some (.slice ax ys.length capx) := S6.out.b.cell 3
            have KB5 := hide (kept_any wc.heap.size ax ys capx w5 B5.out (BD.out _ S6.out.k).1 (by omega))
            clear p5 k5 T1
            go_wp2_with fail
            refine KB5.out.mono ?_
            rintro e w6 ⟨rfl, s6⟩
            have S7 := hide (S6.out.still s6)
            have B6 := hide (B5.out.kp (s6.kp (fun _ => True)) trivial)
            have OB := hide (over_any (.slice (some ⟨wc.heap.size, 0, none⟩) ys.length (ys.length + 3)) ys.length 0 (u8s ys) w6 (by
              have hll : (u8s (lentK ys 3)).length = ys.length + 3 := by rw [u8s_length]; exact lentK_length ys 3 (Nat.le_refl _)
              have := blk_owns (base := 0) (n := ys.length) B6.out (Nat.zero_le _) (by omega) (by rw [hll]; unfold maxLen; omega)
              rw [hll] at this
              have e : (u8s (lentK ys 3)).take ys.length = u8s ys := by simp [lentK, u8s]
              rw [e] at this
              exact this) (by
              intro u hu
              obtain ⟨q, _, rfl⟩ := List.mem_map.1 hu
              exact ⟨q, rfl⟩) (by omega) (Nat.zero_le _))
            clear s6 KB5
            go_wp2_with fail
            refine OB.out.mono ?_
            rintro e w7 ⟨rfl, g7⟩
            have S8 := hide (S7.out.over (X := X) (fun k hk => .inl hk) g7 NX.out LB.out XL.out)
            have g73 : w7.cell? ⟨wr.heap.size, 3, none⟩ = some (.slice ax ys.length capx) := S8.out.b.cell 3
            have T2 := u_put S8.out.p (by omega) ax ys capx (S8.out.bd BD.out)
            rw [HT.out] at T2
            dsimp only at T2
            clear g7 OB
            go_wp2_with fail
            refine T2.mono ?_
            rintro e w8 ⟨rfl, p8, k8⟩
            have S9 := hide (S8.out.turn p8 k8)
            clear p8 k8 T2
            go_wp2
            go_meet
            case rel => exact ⟨by simp, _, _, by omega, S9.out⟩
          by_cases hd2 : d = 2
          · subst hd2
            obtain ⟨te, tcs, hT⟩ : ∃ te tcs, cutTo cs h i = (te, tcs) := ⟨_, _, rfl⟩
            have hTl : tcs.length = cs.length := by have := cutTo_length cs h i; rw [hT] at this; exact this
            have T1 := t_cut S4.out.drew.p (by omega) h HH.out i
            rw [hT] at T1
            dsimp only at T1
            have HT := hide hT
            have e2d : wc.drew.cell? ⟨wr.heap.size, 2, none⟩ = some (.int .u32 (h : Int)) ∧ wc.drew.cell? ⟨wr.heap.size, 1, none⟩ = some (.int .i64 i) := ⟨e2, e1⟩
            clear hT
            go_wp2_with fail
            go_region_held3 (fun w' => w'.cell? ⟨wr.heap.size, 2, none⟩ = some (.int .u32 (h : Int)) ∧ w'.cell? ⟨wr.heap.size, 1, none⟩ = some (.int .i64 i)) (first | exact g6 | exact g5 | exact e2d)
              (first
              | (go_at_call 14; refine T1.mono ?_; rintro e w5 ⟨rfl, p5, k5⟩; have S5 := hide (S4.out.drew.turn p5 k5); have g5 : w5.cell? ⟨wr.heap.size, 2, none⟩ = some (.int .u32 (h : Int)) ∧ w5.cell? ⟨wr.heap.size, 1, none⟩ = some (.int .i64 i) := ⟨S5.out.b.cell 2, S5.out.b.cell 1⟩; have T2 := u_cut S5.out.p (by omega) h HH.out i; rw [HT.out] at T2; dsimp only at T2; clear p5 k5)
              | (go_at_call 15; refine T2.mono ?_; rintro e w6 ⟨rfl, p6, k6⟩; have S6 := hide (S5.out.turn p6 k6); have g6 : w6.cell? ⟨wr.heap.size, 2, none⟩ = some (.int .u32 (h : Int)) ∧ w6.cell? ⟨wr.heap.size, 1, none⟩ = some (.int .i64 i) := ⟨S6.out.b.cell 2, S6.out.b.cell 1⟩; clear p6 k6))
            go_wp2
            go_meet
            case rel => exact ⟨by simp, _, _, by omega, S6.out⟩
          by_cases hd3 : d = 3
          · subst hd3
            obtain ⟨te, tcs, tback, hT⟩ : ∃ te tcs tback, dropTo cs back h = (te, tcs, tback) := ⟨_, _, _, rfl⟩
            have hTl : tcs.length = cs.length := by have := dropTo_length cs back h; rw [hT] at this; exact this
            have T1 := t_drop S4.out.drew.p (by omega) h HH.out
            rw [hT] at T1
            dsimp only at T1
            have HT := hide hT
            have e2d : wc.drew.cell? ⟨wr.heap.size, 2, none⟩ = some (.int .u32 (h : Int)) := e2
            clear hT
            go_wp2_with fail
            go_region_held3 (fun w' => w'.cell? ⟨wr.heap.size, 2, none⟩ = some (.int .u32 (h : Int))) (first | exact g6 | exact g5 | exact e2d)
              (first
              | (go_at_call 16; refine T1.mono ?_; rintro e w5 ⟨rfl, p5, k5⟩; have S5 := hide (S4.out.drew.turn p5 k5); have g5 : w5.cell? ⟨wr.heap.size, 2, none⟩ = some (.int .u32 (h : Int)) := S5.out.b.cell 2; have T2 := u_drop S5.out.p (by omega) h HH.out; rw [HT.out] at T2; dsimp only at T2; clear p5 k5)
              | (go_at_call 17; refine T2.mono ?_; rintro e w6 ⟨rfl, p6, k6⟩; have S6 := hide (S5.out.turn p6 k6); have g6 : w6.cell? ⟨wr.heap.size, 2, none⟩ = some (.int .u32 (h : Int)) := S6.out.b.cell 2; clear p6 k6))
            go_wp2
            go_meet
            case rel => exact ⟨by simp, _, _, by omega, S6.out⟩
          · go_wp2
            go_meet
            case rel => exact ⟨rfl, _, _, by omega, S4.out⟩
        case rest =>
          obtain ⟨rfl, cs2, back2, hcl2, hs⟩ := hcut
          have S9 := hide hs
          have e2' : wc.cell? ⟨wr.heap.size, 2, none⟩ = some (.int .u32 (h : Int)) := hs.b.cell 2
          clear hs S4
          clear e0 e1 e2 e3
          cases hat : atH cs2 h with
          | none =>
            have HAT := hide hat
            clear hat
            have T1 := t_get_none S9.out.p (by omega) h HH.out HAT.out
            have T2 := u_has S9.out.p (by omega) h HH.out
            rw [HAT.out] at T2
            go_wp2_with fail
            refine T1.mono ?_
            rintro e w10 ⟨rfl, rfl⟩
            go_wp2_with fail
            refine T2.mono ?_
            rintro e w11 ⟨rfl, rfl⟩
            have u4 : w11.cell? ⟨gr, 4, none⟩ = some (.int .i64 (total cs2)) := u_used S9.out.p
            have Q1 : Hid (∀ q, Calls Try.prog 21 #[.pointer (some ⟨w.heap.size, 0, none⟩)] (w11.drewN q) fun e w' => e = .returned (.int .i64 (total cs2)) ∧ w' = w11.drewN q) := fun q => t_used (S9.out.still ⟨q, rfl⟩).p
            obtain ⟨L, hL⟩ : ∃ L : Nat, L = cs2.length - back2.length := ⟨_, rfl⟩
            have Q2 : Hid (∀ q, Calls Try.prog 22 #[.pointer (some ⟨w.heap.size, 0, none⟩)] (w11.drewN q) fun e w' => e = .returned (.int .i64 (L : Int)) ∧ ∃ m, w' = (w11.drewN q).drewN m) := fun q => by rw [hL]; exact t_live (S9.out.still ⟨q, rfl⟩).p (by omega)
            have Q3 : Hid (∀ q, Calls Try.prog 23 #[.pointer (some ⟨gr, 0, none⟩)] (w11.drewN q) fun e w' => e = .returned (.int .i64 (L : Int)) ∧ ∃ m, w' = (w11.drewN q).drewN m) := fun q => by rw [hL]; exact u_live (S9.out.still ⟨q, rfl⟩).p (by omega)
            clear hL T1 T2
            generalize (total cs2 : Int) = tu at *
            go_wp2_with fail
            go_quiet (first
              | (go_at_call 21; exact Calls.quiet_of_same (Q1.out _))
              | (go_at_call 22; exact Calls.quiet_of (Q2.out _))
              | (go_at_call 23; exact Calls.quiet_of (Q3.out _)))
            have S10 := hide (S9.out.still ⟨nq, rfl⟩)
            have OB := hide (over_any (.slice none 0 0) 0 0 [] (w11.drewN nq) (World.ownsRow_nil _ _ _ _) (by simp) (by omega) (Nat.zero_le _))
            clear Q1 Q2 Q3 u4
            go_wp2_with fail
            refine OB.out.mono ?_
            rintro e w12 ⟨rfl, g12⟩
            have S12 := hide (S10.out.below (grown_none g12))
            clear g12 OB
            go_wp2_with fail
            go_roundg (xs.length - (j + 1))
            case measure => have := HR.out; omega
            case rel => exact ⟨j + 1, cs2, back2, rfl, by go_num, by omega, hcl2, (Two.lies _ _ _ _ _ _ _).weaken S12.out.p XL.out, S12.out.k⟩
          | some zs =>
            have HAT := hide hat
            clear hat
            obtain ⟨hzb, hzl⟩ := t_bytes S9.out.p h zs HAT.out
            have HZB := hide hzb
            have T1 := t_get S9.out.p (by omega) h zs HAT.out
            clear hzb
            go_wp2_with fail
            refine T1.mono ?_
            rintro e w10 ⟨rfl, b10, f10⟩
            have S10 := hide (S9.out.more f10)
            have B10 := hide b10
            have g10 : w10.cell? ⟨wr.heap.size, 2, none⟩ = some (.int .u32 (h : Int)) := S10.out.b.cell 2
            have T2 := u_has S10.out.p (by omega) h HH.out
            rw [HAT.out] at T2
            have LB : Hid (X wr.heap.size) := S9.out.hx
            have XW : Hid (∀ k, X k → k < wc.heap.size) := S9.out.lt
            clear b10 f10 T1 S9
            go_wp2_with fail
            refine T2.mono ?_
            rintro e w11 ⟨rfl, rfl⟩
            obtain ⟨gs, caps, rl, az, cz, x0, x1, x2, x3⟩ := u_at S10.out.p h zs HAT.out
            have x1i : (h : Int) < (rl : Int) := by omega
            have u4 : w11.cell? ⟨gr, 4, none⟩ = some (.int .i64 (total cs2)) := u_used S10.out.p
            have Q0 : Hid (∀ q, Calls Try.prog 20 #[.slice (some ⟨wc.heap.size, 0, none⟩) zs.length zs.length, .slice az zs.length cz] (w11.drewN q) fun e w' => e = .returned (.bool true) ∧ ∃ m, w' = (w11.drewN q).drewN m) := fun q => by
              have h := same_b (some ⟨wc.heap.size, 0, none⟩) az zs zs zs.length cz (w11.drewN q) (blk_rd B10.out HZB.out (by unfold maxLen; omega)) (x3.drewN q)
              rwa [decide_eq_true rfl] at h
            have Q1 : Hid (∀ q, Calls Try.prog 21 #[.pointer (some ⟨w.heap.size, 0, none⟩)] (w11.drewN q) fun e w' => e = .returned (.int .i64 (total cs2)) ∧ w' = w11.drewN q) := fun q => t_used (S10.out.still ⟨q, rfl⟩).p
            obtain ⟨L, hL⟩ : ∃ L : Nat, L = cs2.length - back2.length := ⟨_, rfl⟩
            have Q2 : Hid (∀ q, Calls Try.prog 22 #[.pointer (some ⟨w.heap.size, 0, none⟩)] (w11.drewN q) fun e w' => e = .returned (.int .i64 (L : Int)) ∧ ∃ m, w' = (w11.drewN q).drewN m) := fun q => by rw [hL]; exact t_live (S10.out.still ⟨q, rfl⟩).p (by omega)
            have Q3 : Hid (∀ q, Calls Try.prog 23 #[.pointer (some ⟨gr, 0, none⟩)] (w11.drewN q) fun e w' => e = .returned (.int .i64 (L : Int)) ∧ ∃ m, w' = (w11.drewN q).drewN m) := fun q => by rw [hL]; exact u_live (S10.out.still ⟨q, rfl⟩).p (by omega)
            clear hL T2 x3 x1
            generalize (total cs2 : Int) = tu at *
            go_wp2_with fail
            go_quiet (first
              | (go_at_call 20; exact Calls.quiet_of (Q0.out _))
              | (go_at_call 21; exact Calls.quiet_of_same (Q1.out _))
              | (go_at_call 22; exact Calls.quiet_of (Q2.out _))
              | (go_at_call 23; exact Calls.quiet_of (Q3.out _)))
            have S11 := hide (S10.out.still ⟨nq, rfl⟩)
            have B11 : Hid (Blk (w11.drewN nq) wc.heap.size 5 (u8s zs)) := B10.out
            have hzl2 : zs.length ≤ 16777216 := hzl
            have OB := hide (over_big (.slice (some ⟨wc.heap.size, 0, none⟩) zs.length zs.length) zs.length 0 (u8s zs) (w11.drewN nq) (by
              have := blk_owns (base := 0) (n := zs.length) B11.out (Nat.zero_le _) (by rw [u8s_length]; omega) (by rw [u8s_length]; unfold maxLen; omega)
              rw [u8s_length, List.take_of_length_le (by rw [u8s_length]; omega)] at this
              exact this) (by
              intro u hu
              obtain ⟨q, _, rfl⟩ := List.mem_map.1 hu
              exact ⟨q, rfl⟩) (by omega) (Nat.zero_le _))
            clear Q0 Q1 Q2 Q3 u4 x0 x1i x2
            go_wp2_with fail
            refine OB.out.mono ?_
            rintro e w12 ⟨rfl, g12⟩
            have S12 := hide (S11.out.over (X := X) (fun k hk => .inl hk) g12 (fun k hk => by
              simp [Value.ownBlock] at hk
              subst hk
              exact ⟨.inr ⟨Nat.le_refl _, B10.out.lt⟩, fun hx => by have := XW.out _ hx; omega⟩) LB.out XL.out)
            clear g12 OB
            go_wp2_with fail
            go_roundg (xs.length - (j + 1))
            case measure => have := HR.out; omega
            case rel => exact ⟨j + 1, cs2, back2, rfl, by go_num, by omega, hcl2, (Two.lies _ _ _ _ _ _ _).weaken S12.out.p XL.out, S12.out.k⟩
    · go_wp2_with fail
      refine (awake_any _).mono ?_
      rintro e w3 ⟨rfl, f3⟩
      have F3 := hide f3
      clear f3
      go_wp2
      go_ret
      exact ⟨rfl, (KK.out.below (Nat.le_refl _) (fun k hk => hk)).trans (F3.out.mono KK.out.size)⟩
end Go.Proofs.Ytaoabjcbolncoaa
