/- slices.insertionSortCmpFunc over pairs by keys. -/
import Derived.Test.YtahlbebkcoofkaaSrt7
namespace Go.Proofs.Ytahlbebkcoofkaa
set_option maxRecDepth 20000
open Go.RowKit Go.Sort
set_option linter.unusedVariables false

/-- Where the inner loop stands: x goes down among what is sorted. -/
structure InL (A X B ts : List Tg) (x : Tg) (i j : Nat) : Prop where
  ex : ∃ S1 S2 : List Tg, ts = A ++ (S1 ++ x :: (S2 ++ (X.drop (i + 1 - A.length) ++ B))) ∧ j = A.length + S1.length ∧ (S1 ++ S2).Perm (X.take (i - A.length)) ∧ (S1 ++ S2).Pairwise lt7 ∧ ∀ s ∈ S2, lt7 x s
/-- Where the outer loop stands. -/
structure OuL (A X B ts : List Tg) (i : Nat) : Prop where
  ex : ∃ S : List Tg, ts = A ++ (S ++ (X.drop (i - A.length) ++ B)) ∧ S.Perm (X.take (i - A.length)) ∧ S.Pairwise lt7
theorem OuL.start (A X B : List Tg) : OuL A X B (A ++ (X ++ B)) (A.length + 1) := by
  refine ⟨X.take 1, ?_, by simp, ?_⟩
  · rw [show A.length + 1 - A.length = 1 by omega, ← List.append_assoc (X.take 1), List.take_append_drop]
  · cases X with
    | nil => simp
    | cons x X => simp
theorem OuL.inner {A X B ts : List Tg} {i : Nat} (h : OuL A X B ts i) (ha : A.length < i) (hi : i < A.length + X.length) : ∃ x, ts[i]? = some x ∧ X[i - A.length]? = some x ∧ InL A X B ts x i i := by
  obtain ⟨S, e, p, s⟩ := h.ex
  have hx : i - A.length < X.length := by omega
  refine ⟨X[i - A.length], ?_, List.getElem?_eq_getElem hx, S, [], ?_, ?_, by simpa using p, by simpa using s, by simp⟩
  · have hl : S.length = i - A.length := by rw [p.length_eq]; simp; omega
    rw [e, List.drop_eq_getElem_cons hx, ← List.append_assoc, List.cons_append]
    exact get_mid _ _ _ _ (by simp; omega)
  · rw [e, List.drop_eq_getElem_cons hx, show i - A.length + 1 = i + 1 - A.length by omega]
    simp
  · have hl : S.length = i - A.length := by rw [p.length_eq]; simp; omega
    omega
theorem InL.at {A X B ts : List Tg} {x : Tg} {i j : Nat} (h : InL A X B ts x i j) : ts[j]? = some x := by
  obtain ⟨S1, S2, e, hj, _⟩ := h.ex
  rw [e, ← List.append_assoc]
  exact get_mid _ _ _ _ (by simp; omega)
theorem InL.prev {A X B ts : List Tg} {x : Tg} {i j : Nat} (h : InL A X B ts x i (j + 1)) (ha : A.length < j + 1) : ∃ y, ts[j]? = some y ∧ y ∈ X.take (i - A.length) ∧ (lt7 x y → InL A X B ((ts.set (j + 1) y).set j x) x i j) ∧ (lt7 y x → ∀ s, s = y → InL A X B ts x i (j + 1)) := by
  obtain ⟨S1, S2, e, hj, p, s, q⟩ := h.ex
  rcases List.eq_nil_or_concat S1 with rfl | ⟨S, y, rfl⟩
  · simp at hj; omega
  · simp only [List.concat_eq_append, List.append_assoc, List.singleton_append] at e p s
    refine ⟨y, ?_, p.subset (by simp), fun hl => ⟨S, y :: S2, ?_, ?_, by simpa using p, by simpa using s, ?_⟩, fun _ _ _ => h⟩
    · rw [e, ← List.append_assoc]
      exact get_mid _ _ _ _ (by simp at hj ⊢; omega)
    · rw [e, ← List.append_assoc, List.cons_append]
      rw [swap_near (A ++ S) y x _ j (by simp at hj ⊢; omega)]
      simp
    · simp at hj ⊢; omega
    · intro z hz
      rcases List.mem_cons.1 hz with rfl | hz
      · exact hl
      · exact q z hz
/-- The inner loop ends. -/
theorem InL.done {A X B ts : List Tg} {x : Tg} {i j : Nat} (h : InL A X B ts x i j) (ha : A.length < i) (hx : X[i - A.length]? = some x) (hs : j = A.length ∨ ∃ y, ts[j - 1]? = some y ∧ 0 < j ∧ lt7 y x) : OuL A X B ts (i + 1) := by
  obtain ⟨S1, S2, e, hj, p, s, q⟩ := h.ex
  have hi : i - A.length < X.length := (List.getElem?_eq_some_iff.1 hx).1
  have hxe : X[i - A.length] = x := (List.getElem?_eq_some_iff.1 hx).2
  refine ⟨S1 ++ x :: S2, ?_, ?_, ins_sorted s ?_ q⟩
  · rw [e]; simp
  · rw [show i + 1 - A.length = i - A.length + 1 by omega, List.take_succ_eq_append_getElem hi, hxe]
    exact (List.perm_middle.trans (List.Perm.cons x p)).trans (List.perm_append_comm (l₁ := [x]))
  · rcases hs with hs | ⟨y, hy, h0, hl⟩
    · have : S1 = [] := List.eq_nil_of_length_eq_zero (by omega)
      subst this; simp
    · rcases List.eq_nil_or_concat S1 with rfl | ⟨S, z, rfl⟩
      · simp
      · simp only [List.concat_eq_append, List.append_assoc, List.singleton_append] at e s hj ⊢
        have hz : ts[j - 1]? = some z := by
          rw [e, ← List.append_assoc]
          exact get_mid _ _ _ _ (by simp at hj ⊢; omega)
        rw [hz] at hy
        cases hy
        intro u hu
        rcases List.mem_append.1 hu with hu | hu
        · have := (List.pairwise_append.1 s).2.2 u hu y (by simp)
          exact lt7_trans this hl
        · simp at hu; subst hu; exact hl

set_option maxHeartbeats 4000000 in
theorem insertion_any (K : Nat → Prop) (b : Nat) (rest : List Value) (W w : World) (A X B : List Tg) (c : Nat) (h : SW K b rest W w (A ++ (X ++ B))) (hm : X.Pairwise (fun x y => x.2 < y.2)) (hn : (A ++ (X ++ B)).length ≤ 1000000) (N M E : Nat) (hN : N = (A ++ (X ++ B)).length) (hM : M = A.length) (hE : E = A.length + X.length) :
    Calls Try.prog 71 #[.slice (some ⟨b, 0, none⟩) N c, .int .i64 M, .int .i64 E, .func (.func 40) #[] #[]] w fun r w' => r = .returned (.tuple #[]) ∧ ∃ X', SW K b rest W w' (A ++ (X' ++ B)) ∧ X'.Perm X ∧ X'.Pairwise lt7 := by
  have H := hide h
  have HM := hide hm
  have hEN : E ≤ N := by simp at hN; omega
  have hNN : N ≤ 1000000 := by omega
  have HN := hide hN
  have HM2 := hide hM
  have HE := hide hE
  have hME : M ≤ E := by omega
  clear h hm hn hN hM hE
  have eg : ∀ args w, (callFunc 40 args).run Try.prog w = .ok (.enter 40 args) w := enters_of Try.func40 (by kernel_rfl) rfl
  go_enter Try.func71, Try.ntmps71
  go_wp2_with fail
  go_loopw [8] (fun vi wr => ∃ (i : Nat) (ts : List Tg), vi = .int .i64 i ∧ M < i ∧ i ≤ E + 1 ∧ ts.length = N ∧ Hid (SW K b rest W wr ts) ∧ OuL A X B ts i) (fun vi _ => (E + 1 - intOf vi).toNat)
  case atStart => exact ⟨M + 1, _, by go_num, by omega, by omega, HN.out.symm, H.out, by rw [HM2.out]; exact OuL.start A X B⟩
  case round =>
    obtain ⟨i, ts, rfl, hi0, hi1, htl, HS, hou⟩ := hrel
    have HO := hide hou
    clear hou
    by_cases hiE : i < E
    · obtain ⟨x, hx0, hx1, hin⟩ := HO.out.inner (by rw [← HM2.out]; exact hi0) (by rw [← HE.out]; exact hiE)
      have HI := hide hin
      have HX := hide hx1
      clear hin hx0 hx1 HO
      have HT := hide htl
      clear htl
      go_wp2_with fail
      go_loopw [9] (fun vj wr => ∃ (j : Nat) (us : List Tg), vj = .int .i64 j ∧ M ≤ j ∧ j ≤ i ∧ Hid (us.length = N) ∧ Hid (SW K b rest W wr us) ∧ InL A X B us x i j) (fun vj _ => (intOf vj).toNat)
      case atStart => exact ⟨i, ts, rfl, by omega, by omega, HT, HS, HI.out⟩
      case round =>
        clear HI HS HT
        obtain ⟨j, us, rfl, hj0, hj1, HT, HS, hin⟩ := hrel
        have HI := hide hin
        clear hin
        by_cases hja : M < j
        · obtain ⟨p, rfl⟩ : ∃ p, j = p + 1 := ⟨j - 1, by omega⟩
          obtain ⟨y, hy, hym, hy1, -⟩ := HI.out.prev (by rw [← HM2.out]; exact hja)
          have hxj := HI.out.at
          have d0 := cell_regrown (HS.out.cell0 hxj)
          have d1 := cell_regrown (HS.out.cell1 hxj)
          have d2 := cell_regrown (HS.out.cell0 hy)
          have d3 := cell_regrown (HS.out.cell1 hy)
          have hpN : p + 1 < N := by have := (List.getElem?_eq_some_iff.1 hxj).1; have := HT.out; omega
          have SB : Hid (∀ d os, SW K b rest W (grow (redrawn wr d) os) us) := fun d os => HS.out.below (below_regrown wr d os)
          have cB : ∀ d os, Calls Try.prog 40 #[.agg #[.slice x.1.a x.1.k.length x.1.c, .int .u64 x.1.v], .agg #[.slice y.1.a y.1.k.length y.1.c, .int .u64 y.1.v]] (grow (redrawn wr d) os) fun r w'' => r = .returned (.int .i64 (cmpK x.1.k y.1.k)) ∧ ∃ p : Regrown, w'' = grow (redrawn wr p.d) p.os := fun d os =>
            Calls.regrown_of (byKey_any x.1 y.1 _ ((SB.out d os).rd (List.mem_of_getElem? hxj)) ((SB.out d os).rd (List.mem_of_getElem? hy)))
          have YM := hide hym
          have Y1 := hide hy1
          have HY := hide hy
          have HXJ := hide hxj
          have hmk : Hid (y.2 < x.2) := by
            show _ < _
            have hx1 := HX.out
            obtain ⟨q, hq, hqe⟩ := List.mem_take_iff_getElem.1 YM.out
            have hx2 := List.getElem?_eq_some_iff.1 hx1
            have := List.pairwise_iff_getElem.1 HM.out q (i - A.length) (by omega) hx2.1 (by omega)
            rw [hqe, hx2.2] at this
            exact this
          clear hym hy1 hy hxj
          by_cases hlt : cmpK x.1.k y.1.k < 0
          · have HL : Hid (lt7 x y) := lt7_of_cmp hlt
            have hlt' : decide (cmpK x.1.k y.1.k < 0) = true := by simpa using hlt
            generalize hcv : cmpK x.1.k y.1.k = cv at cB hlt hlt'
            clear hcv
            have hd : decide ((M : Int) < (p : Int) + 1) = true := by simp; omega
            have jz : (p : Int) + 1 < (N : Int) := by omega
            have jz1 : (p : Int) < (N : Int) := by omega
            have p0 : (0 : Int) ≤ (p : Int) + 1 := by omega
            have e0 : ((p : Int) + 1).toNat = p + 1 := by omega
            have hwp : IntKind.i64.wrap (p : Int) = (p : Int) := by rw [IntKind.wrap_i64]; omega
            go_wp2_with fail
            refine wp_region_quiet_below (by kernel_rfl) (by kernel_rfl) ?_
            repeat (quiet_step (first | (go_at_call 40; exact cB _ _)))
            refine wpQuiet_nil ?_
            intro _ hw'
            obtain ⟨⟨dq, osq⟩, hw''⟩ := hw'
            subst hw''
            clear cB d0 d1 d2 d3
            have S2 := SB.out dq osq
            generalize grow (redrawn wr dq) osq = wz at S2 ⊢
            have HS2 := hide S2
            have c0 := S2.cell0 HXJ.out
            have c1 := S2.cell1 HXJ.out
            have c2 := S2.cell0 HY.out
            have c3 := S2.cell1 HY.out
            have f0 := S2.frozen ((p + 1) * 2)
            have f1 := S2.frozen ((p + 1) * 2 + 1)
            have f2 := S2.frozen (p * 2)
            have f3 := S2.frozen (p * 2 + 1)
            clear S2 SB HS
            go_wp2_with fail
            have HS3 : Hid (SW K b rest W ((((wz.setCell ⟨b, (p + 1) * 2, none⟩ (.slice y.1.a y.1.k.length y.1.c)).setCell ⟨b, (p + 1) * 2 + 1, none⟩ (.int .u64 y.1.v)).setCell ⟨b, p * 2, none⟩ (.slice x.1.a x.1.k.length x.1.c)).setCell ⟨b, p * 2 + 1, none⟩ (.int .u64 x.1.v)).drew ((us.set (p + 1) y).set p x)) :=
              (HS2.out.swap (p + 1) p x y HXJ.out HY.out).drew
            have HI3 := hide (Y1.out HL.out)
            clear HS2 HI
            go_region
            generalize ((((wz.setCell ⟨b, (p + 1) * 2, none⟩ (.slice y.1.a y.1.k.length y.1.c)).setCell ⟨b, (p + 1) * 2 + 1, none⟩ (.int .u64 y.1.v)).setCell ⟨b, p * 2, none⟩ (.slice x.1.a x.1.k.length x.1.c)).setCell ⟨b, p * 2 + 1, none⟩ (.int .u64 x.1.v)).drew = wt at HS3 ⊢
            clear c0 c1 c2 c3 f0 f1 f2 f3
            go_wp2
            go_roundw
            case rel => exact ⟨p, _, by go_num, by omega, by omega, by show List.length _ = N; simpa using HT.out, HS3, HI3.out⟩
            case measure => simp [intOf]
          · have HL : Hid (lt7 y x) := lt7_of_not hmk.out hlt
            have hlt' : decide (cmpK x.1.k y.1.k < 0) = false := by simpa using hlt
            have HD : Hid (OuL A X B us (i + 1)) := HI.out.done (by rw [← HM2.out]; exact hi0) HX.out (.inr ⟨y, by simpa using HY.out, by omega, HL.out⟩)
            generalize hcv : cmpK x.1.k y.1.k = cv at cB hlt hlt'
            clear hcv
            have hd : decide ((M : Int) < (p : Int) + 1) = true := by simp; omega
            have jz : (p : Int) + 1 < (N : Int) := by omega
            have jz1 : (p : Int) < (N : Int) := by omega
            have p0 : (0 : Int) ≤ (p : Int) + 1 := by omega
            have e0 : ((p : Int) + 1).toNat = p + 1 := by omega
            have hwp : IntKind.i64.wrap (p : Int) = (p : Int) := by rw [IntKind.wrap_i64]; omega
            go_wp2_with fail
            refine wp_region_quiet_below (by kernel_rfl) (by kernel_rfl) ?_
            repeat (quiet_step (first | (go_at_call 40; exact cB _ _)))
            refine wpQuiet_nil ?_
            intro _ hw'
            obtain ⟨⟨dq, osq⟩, hw''⟩ := hw'
            subst hw''
            clear cB d0 d1 d2 d3
            go_wp2
            go_roundw
            case rel => exact ⟨i + 1, us, by go_num, by omega, by omega, HT.out, SB.out dq osq, HD.out⟩
            case measure => simp [intOf]; omega
        · obtain rfl : j = M := by omega
          have HD : Hid (OuL A X B us (i + 1)) := HI.out.done (by rw [← HM2.out]; exact hi0) HX.out (.inl HM2.out)
          have hd : decide (j < j) = false := by simp
          go_wp2_with fail
          go_quiet (fail)
          go_wp2
          go_roundw
          case rel => exact ⟨i + 1, us, by go_num, by omega, by omega, HT.out, HS.out.below (Below.drewN' (Below.refl _ _) _), HD.out⟩
          case measure => simp [intOf]; omega
    · go_wp2
      go_end0
      obtain ⟨S, e, p, s⟩ := HO.out.ex
      have h1 := HE.out
      have h2 := HM2.out
      have h3 : X.drop (i - A.length) = [] := by simp; omega
      have h4 : X.take (i - A.length) = X := List.take_of_length_le (by omega)
      refine ⟨rfl, S, ?_, ?_, s⟩
      · have := HS.out
        rw [e, h3] at this
        simpa using this
      · rw [h4] at p; exact p
end Go.Proofs.Ytahlbebkcoofkaa
