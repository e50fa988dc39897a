/- shape.shelves. -/
import Derived.Test.YtnedcoomldmhhaaTr14
namespace Go.Proofs.Ytnedcoomldmhhaa
set_option maxRecDepth 20000
open Go.RowKit Go.Sort
set_option linter.unusedVariables false
set_option linter.unusedSimpArgs false

def shelfOne (cs : List PC) (ss : List Sp) (i : Nat) : Bool := decide (((cAt cs i).key.length : Int) = (sAt ss i).deep - 1) && (goesP cs ss i && holdsP (cAt cs i))
def shelvesP (cs : List PC) (ss : List Sp) : Bool := allB cs.length (shelfOne cs ss)
set_option maxHeartbeats 1600000 in
theorem shelves_any (a : Option Addr) (cs : List Cel) (g : Nat) (ss : List Sp) (k m : Nat) (w : World) (h : Tre w a cs g ss) (L : Lok (cs.map Cel.pure) ss) :
    Calls Try.prog 70 #[.agg #[.slice a cs.length k, .slice (some ⟨g, 0, none⟩) cs.length m]] w fun e w' => e = .returned (.bool (shelvesP (cs.map Cel.pure) ss)) ∧ Below w.heap.size w w' := by
  have hn := h.rc.1
  have H := hide h
  have HL := hide L
  have X0 := hide (Blk.new w 61 [.slice a cs.length k, .slice (some ⟨g, 0, none⟩) cs.length m] _ rfl)
  have F0 := hide ((Below.refl w.heap.size w).alloc (Nat.le_refl _) (.cells #[.slice a cs.length k, .slice (some ⟨g, 0, none⟩) cs.length m] 61 (0, 0)))
  clear h L
  go_enter Try.func70, Try.ntmps70
  go_wp2_with fail
  go_loopw [8] (fun vi wr => ∃ i : Nat, vi = .int .i64 i ∧ i ≤ cs.length ∧ Hid (Below w.heap.size w wr) ∧ Hid (Blk wr w.heap.size 61 [.slice a cs.length k, .slice (some ⟨g, 0, none⟩) cs.length m]) ∧ Hid (∀ j, j < i → shelfOne (cs.map Cel.pure) ss j = true)) (fun vi _ => (cs.length - intOf vi).toNat)
  case atStart => exact ⟨0, rfl, by omega, F0.out, X0.out, fun j hj => by omega⟩
  case round =>
    clear X0 F0
    obtain ⟨i, rfl, hi, F, X, HA⟩ := hrel
    by_cases hin : i < cs.length
    · obtain ⟨c, hc⟩ : ∃ c, cs[i]? = some c := ⟨cs[i], List.getElem?_eq_getElem hin⟩
      have h1 := H.out.below (F.out.mono (Nat.le_refl _))
      have hkc := (h1.rc.2.1 c (List.mem_of_getElem? hc)).2.2.2.2.2.2.1.2.1
      obtain ⟨b, off, rfl, c0, c1, c2, c3, c4, c5, c6, c7, c8⟩ := h1.rc.cells hc
      have x0 := X.out.cell 0
      have x1 := X.out.cell 1
      simp only [List.getElem?_cons_zero, List.getElem?_cons_succ] at x0 x1
      have hxl := X.out.lt
      have hme := cAt_map hc
      have M := hide (may_any c.ka c.key.length c.kc · hkc)
      have f1 : Below wr.heap.size wr (wr.alloc (.cells c.fields.toArray 40 (0, 0))) := (Below.refl _ wr).alloc (Nat.le_refl _) _
      have hpre := HL.out.pre (i := i) (by simpa using hin) (fun j hj => by have := HA.out j hj; unfold shelfOne at this; rw [Bool.and_eq_true, Bool.and_eq_true] at this; exact this.2.1)
      have GO := goesOn_any (some ⟨b, off, none⟩) cs g ss k m i _ (h1.below f1) hin hpre.1 hpre.2
      have GO' := hide GO
      have F1 := hide f1
      simp only [Cel.fields] at GO' F1
      clear GO f1 h1
      have hdp := HL.out.deep i (by simpa using hin)
      obtain ⟨-, -, -, s3⟩ := (H.out.below (F.out.mono (Nat.le_refl _))).sp.cells (i := i) (by rw [H.out.ln]; exact hin)
      have hgr := Blk.lt (H.out.below (F.out.mono (Nat.le_refl _))).sp
      have CB := hide (Blk.new wr 40 c.fields _ rfl)
      have X2 := hide (X.out.below F1.out X.out.lt)
      have hso : Hid (shelfOne (cs.map Cel.pure) ss i = (decide ((c.key.length : Int) = (sAt ss i).deep - 1) && (goesP (cs.map Cel.pure) ss i && holdsP c.pure))) := by show _ = _; unfold shelfOne; rw [hme]; rfl
      have hbad : Hid (shelfOne (cs.map Cel.pure) ss i = false → shelvesP (cs.map Cel.pure) ss = false) := fun h => allB_false (by simpa using hin) h
      simp only [Cel.fields] at CB
      generalize hdd : (sAt ss i).deep = dp at *
      have hsw : IntKind.i64.wrap (dp - 1) = dp - 1 := by rw [IntKind.wrap_i64]; omega
      have hgo := GO'.out
      go_wp2_with fail
      have F2 := hide (F.out.trans (F1.out.mono F.out.size))
      have T2 := hide ((H.out.below (F.out.mono (Nat.le_refl _))).below F1.out)
      have GOd : Hid (∀ w', Tre w' (some ⟨b, off, none⟩) cs g ss → Calls Try.prog 78 #[.agg #[.slice (some ⟨b, off, none⟩) cs.length k, .slice (some ⟨g, 0, none⟩) cs.length m], .int .i64 i] w' fun e w'' => e = .returned (.bool (goesP (cs.map Cel.pure) ss i)) ∧ Below w'.heap.size w' w'') := fun w' t => goesOn_any (some ⟨b, off, none⟩) cs g ss k m i w' t hin hpre.1 hpre.2
      have HOd : Hid (∀ w', Tre w' (some ⟨b, off, none⟩) cs g ss → Calls Try.prog 79 #[.agg #[.int .i64 c.kind, .int .i64 c.at_, .int .i64 c.count, .int .i64 c.kids, .int .u8 c.byte, .bool c.full, .int .u64 c.val, .slice c.ka c.key.length c.kc, .slice c.pa c.ps.length c.pc]] w' fun e w'' => e = .returned (.bool (holdsP c.pure)) ∧ Below w'.heap.size w' w'') := fun w' t => holds_any c w' (t.rc.2.1 c (List.mem_of_getElem? hc))
      clear hgo GO' c0 c1 c2 c3 c4 c5 c6 c7 c8 x0 x1 s3 hc hpre M
      generalize World.alloc _ _ = w2 at F1 F2 CB X2 T2 ⊢
      have D0 := cell_regrown (block_cell (cur := [.slice (some ⟨b, off, none⟩) cs.length k, .slice (some ⟨g, 0, none⟩) cs.length m]) X2.out 0)
      have D1 := cell_regrown (block_cell (cur := [.slice (some ⟨b, off, none⟩) cs.length k, .slice (some ⟨g, 0, none⟩) cs.length m]) X2.out 1)
      obtain ⟨c0, c1, c2, c3, c4, c5, c6, c7, c8, -, -, -, -, -, -, -, -, -⟩ := box9 CB.out
      have G0 := cell_regrown c0
      have G1 := cell_regrown c1
      have G2 := cell_regrown c2
      have G3 := cell_regrown c3
      have G4 := cell_regrown c4
      have G5 := cell_regrown c5
      have G6 := cell_regrown c6
      have G7 := cell_regrown c7
      have G8 := cell_regrown c8
      obtain ⟨-, -, -, s3⟩ := T2.out.sp.cells (i := i) (by rw [H.out.ln]; exact hin)
      rw [hdd] at s3
      have S3 := cell_regrown s3
      have cG : ∀ d os, Calls Try.prog 78 #[.agg #[.slice (some ⟨b, off, none⟩) cs.length k, .slice (some ⟨g, 0, none⟩) cs.length m], .int .i64 i] (grow (redrawn w2 d) os) fun r w'' => r = .returned (.bool (goesP (cs.map Cel.pure) ss i)) ∧ ∃ p : Regrown, w'' = grow (redrawn w2 p.d) p.os := fun d os =>
        Calls.regrown_of (GOd.out _ (T2.out.below (below_regrown w2 d os)))
      have cH : ∀ d os, Calls Try.prog 79 #[.agg #[.int .i64 c.kind, .int .i64 c.at_, .int .i64 c.count, .int .i64 c.kids, .int .u8 c.byte, .bool c.full, .int .u64 c.val, .slice c.ka c.key.length c.kc, .slice c.pa c.ps.length c.pc]] (grow (redrawn w2 d) os) fun r w'' => r = .returned (.bool (holdsP c.pure)) ∧ ∃ p : Regrown, w'' = grow (redrawn w2 p.d) p.os := fun d os =>
        Calls.regrown_of (HOd.out _ (T2.out.below (below_regrown w2 d os)))
      have FB : Hid (∀ d os, Below w.heap.size w (grow (redrawn w2 d) os)) := fun d os => F2.out.trans ((below_regrown w2 d os).mono F2.out.size)
      have hkc' : (c.key.length : Int) ≤ 9223372036854775807 := by unfold maxLen at hkc; omega
      clear c0 c1 c2 c3 c4 c5 c6 c7 c8 s3 CB T2 GOd HOd F1
      generalize goesP (cs.map Cel.pure) ss i = zg at *
      generalize holdsP c.pure = zh at *
      by_cases hA : (c.key.length : Int) = dp - 1
      · have hA' : ((c.key.length : Int) != dp - 1) = false := by simp [hA]
        rw [decide_eq_true hA] at hso
        cases zg with
        | true =>
          cases zh with
          | true =>
            refine wp_region_quiet_below (by kernel_rfl) (by kernel_rfl) ?_
            repeat (quiet_step (first | (go_at_call 78; exact cG _ _) | (go_at_call 79; exact cH _ _)))
            refine wpQuiet_nil ?_
            intro _ hw'
            obtain ⟨⟨dq, osq⟩, hw''⟩ := hw'
            subst hw''
            clear cG cH D0 D1 G0 G1 G2 G3 G4 G5 G6 G7 G8 S3
            go_wp2
            go_roundw
            case rel => exact ⟨i + 1, by go_num, by omega, FB.out _ _, X2.out.below (below_regrown _ _ _) X2.out.lt, fun j hj => by
              by_cases hji : j < i
              · exact HA.out j hji
              · obtain rfl : j = i := by omega
                rw [hso.out]; rfl⟩
            case measure => simp [intOf]; omega
          | false =>
            refine wp_region_quiet_below (by kernel_rfl) (by kernel_rfl) ?_
            repeat (quiet_step (first | (go_at_call 78; exact cG _ _) | (go_at_call 79; exact cH _ _)))
            refine wpQuiet_nil ?_
            intro _ hw'
            obtain ⟨⟨dq, osq⟩, hw''⟩ := hw'
            subst hw''
            clear cG cH D0 D1 G0 G1 G2 G3 G4 G5 G6 G7 G8 S3
            go_wp2
            go_ret
            exact ⟨ret_bool (hbad.out (by rw [hso.out]; rfl)).symm, FB.out _ _⟩
        | false =>
          refine wp_region_quiet_below (by kernel_rfl) (by kernel_rfl) ?_
          repeat (quiet_step (first | (go_at_call 78; exact cG _ _) | (go_at_call 79; exact cH _ _)))
          refine wpQuiet_nil ?_
          intro _ hw'
          obtain ⟨⟨dq, osq⟩, hw''⟩ := hw'
          subst hw''
          clear cG cH D0 D1 G0 G1 G2 G3 G4 G5 G6 G7 G8 S3
          go_wp2
          go_ret
          exact ⟨ret_bool (hbad.out (by rw [hso.out]; rfl)).symm, FB.out _ _⟩
      · have hA' : ((c.key.length : Int) != dp - 1) = true := by simpa using hA
        rw [decide_eq_false hA] at hso
        refine wp_region_quiet_below (by kernel_rfl) (by kernel_rfl) ?_
        repeat (quiet_step (first | (go_at_call 78; exact cG _ _) | (go_at_call 79; exact cH _ _)))
        refine wpQuiet_nil ?_
        intro _ hw'
        obtain ⟨⟨dq, osq⟩, hw''⟩ := hw'
        subst hw''
        clear cG cH D0 D1 G0 G1 G2 G3 G4 G5 G6 G7 G8 S3
        go_wp2
        go_ret
        exact ⟨ret_bool (hbad.out (by rw [hso.out]; rfl)).symm, FB.out _ _⟩
    · obtain rfl : i = cs.length := by omega
      go_wp2_with fail
      go_ret
      refine ⟨ret_bool ?_, F.out⟩
      unfold shelvesP
      rw [allB_true (fun j hj => HA.out j (by simpa using hj))]
end Go.Proofs.Ytnedcoomldmhhaa
