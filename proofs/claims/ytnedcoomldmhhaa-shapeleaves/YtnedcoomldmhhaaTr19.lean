/- shape.placed, look, Sound, Deep. -/
import Derived.Test.YtnedcoomldmhhaaTr18
import Derived.Test.YtnedcoomldmhhaaPl12
namespace Go.Proofs.Ytnedcoomldmhhaa
set_option maxRecDepth 20000
open Go.RowKit Go.Sort
set_option linter.unusedVariables false
set_option linter.unusedSimpArgs false

def placedP (tag : Int) (cs : List PC) (ss : List Sp) : Bool :=
  if tag = 1 then partsP cs ss else if tag = 2 then spellsP cs ss else if tag = 3 then branchesP cs ss else if tag = 4 then shelvesP cs ss else false
def cellOk (tag : Int) (c : PC) : Bool := tagOf c.kind = tag ∧ bareP c = true ∧ fitsK c = true
def lookP (tag : Int) (cs : List PC) : Option (List Sp) :=
  if cs.all (cellOk tag) = false then none
  else match layP cs with
    | none => none
    | some ss => if countedP cs ss = false then none else if placedP tag cs ss = false then none else some ss
theorem cellOk4 {tag : Int} {c : PC} (h : cellOk tag c = true) : (c.kind = 4 → 0 ≤ c.kids ∧ c.kids ≤ 7) ∧ (0 ≤ ownK c ∧ ownK c ≤ 8) ∧ (tag = 1 → c.kind ≠ 3) ∧ (tag = 2 → (c.kind = 3 ∧ c.kids = 0) ∨ (c.kind = 4 ∧ 0 ≤ c.kids ∧ c.kids ≤ 7)) := by
  unfold cellOk at h
  simp only [decide_eq_true_eq] at h
  obtain ⟨h1, h2, h3⟩ := h
  have h4 : c.kind = 4 → 0 ≤ c.kids ∧ c.kids ≤ 7 := by
    intro hk
    unfold fitsK at h3
    rw [if_neg (by omega), if_pos hk] at h3
    simp only [decide_eq_true_eq] at h3
    exact h3.1
  refine ⟨h4, ?_, ?_, ?_⟩
  · unfold ownK
    split
    · omega
    · split
      · rename_i hk
        unfold fitsK at h3
        rw [if_neg (by omega), if_neg (by omega), if_neg (by omega), if_neg (by omega), if_neg (by omega), if_neg (by omega), if_neg (by omega), if_pos hk] at h3
        simp only [decide_eq_true_eq] at h3
        omega
      · split <;> omega
  · intro ht hk
    unfold tagOf at h1
    rw [if_neg (by omega), if_pos (by omega)] at h1
    omega
  · intro ht
    unfold tagOf at h1
    have hk : c.kind = 3 ∨ c.kind = 4 := by
      repeat' split at h1
      all_goals omega
    rcases hk with hk | hk
    · left
      refine ⟨hk, ?_⟩
      unfold bareP at h2
      simp only [decide_eq_true_eq] at h2
      obtain ⟨-, h5, -⟩ := h2
      omega
    · exact .inr ⟨hk, h4 hk⟩
set_option maxHeartbeats 3200000 in
theorem placed_any (tag : Int) (a : Option Addr) (cs : List Cel) (g : Nat) (ss : List Sp) (k m : Nat) (w : World) (h : Tre w a cs g ss) (L : Lok (cs.map Cel.pure) ss) (hc : ∀ c ∈ cs, cellOk tag c.pure = true) :
    Calls Try.prog 47 #[.agg #[.slice a cs.length k, .slice (some ⟨g, 0, none⟩) cs.length m], .int .i64 tag] w fun e w' => e = .returned (.bool (placedP tag (cs.map Cel.pure) ss)) ∧ Below w.heap.size w w' := by
  have f0 := (Below.refl w.heap.size w).alloc (Nat.le_refl _) (.cells #[.slice a cs.length k, .slice (some ⟨g, 0, none⟩) cs.length m] 61 (0, 0))
  have T := h.below f0
  have F := hide f0
  have HC := hide hc
  have hl := hide L
  have HT := hide T
  clear f0 T h L hc
  go_enter Try.func47, Try.ntmps47
  by_cases t1 : tag = 1
  · subst t1
    have C := hide (parts_any a cs g ss k m _ HT.out hl.out (fun c hcc => (cellOk4 (HC.out c hcc)).2.2.1 rfl))
    go_wp2_with fail
    refine C.out.mono ?_
    rintro e w2 ⟨rfl, f⟩
    have F2 := hide (F.out.trans (f.mono F.out.size))
    clear f C
    go_wp2_with fail
    go_ret
    exact ⟨rfl, F2.out⟩
  by_cases t2 : tag = 2
  · subst t2
    have C := hide (spells_any a cs g ss k m _ HT.out hl.out (fun c hcc => (cellOk4 (HC.out c hcc)).2.2.2 rfl))
    go_wp2_with fail
    refine C.out.mono ?_
    rintro e w2 ⟨rfl, f⟩
    have F2 := hide (F.out.trans (f.mono F.out.size))
    clear f C
    go_wp2_with fail
    go_ret
    exact ⟨rfl, F2.out⟩
  by_cases t3 : tag = 3
  · subst t3
    have C := hide (branches_any a cs g ss k m _ HT.out hl.out)
    go_wp2_with fail
    refine C.out.mono ?_
    rintro e w2 ⟨rfl, f⟩
    have F2 := hide (F.out.trans (f.mono F.out.size))
    clear f C
    go_wp2_with fail
    go_ret
    exact ⟨rfl, F2.out⟩
  by_cases t4 : tag = 4
  · subst t4
    have C := hide (shelves_any a cs g ss k m _ HT.out hl.out)
    go_wp2_with fail
    refine C.out.mono ?_
    rintro e w2 ⟨rfl, f⟩
    have F2 := hide (F.out.trans (f.mono F.out.size))
    clear f C
    go_wp2_with fail
    go_ret
    exact ⟨rfl, F2.out⟩
  have t1' : (tag == 1) = false := by simpa using t1
  have t2' : (tag == 2) = false := by simpa using t2
  have t3' : (tag == 3) = false := by simpa using t3
  have t4' : (tag == 4) = false := by simpa using t4
  go_wp2_with fail
  go_ret
  exact ⟨ret_bool (by unfold placedP; rw [if_neg t1, if_neg t2, if_neg t3, if_neg t4]), F.out⟩
set_option maxHeartbeats 3200000 in
theorem look_any (tag : Int) (a : Option Addr) (cs : List Cel) (k : Nat) (w : World) (h : Rc w a cs) :
    Calls Try.prog 27 #[.int .i64 tag, .slice a cs.length k] w fun r w' => ∃ b a1 n1 k1 a2 n2 k2, r = .returned (.tuple #[.agg #[.slice a1 n1 k1, .slice a2 n2 k2], .bool b]) ∧ (b = false ∧ lookP tag (cs.map Cel.pure) = none ∨ b = true ∧ ∃ ss g, lookP tag (cs.map Cel.pure) = some ss ∧ (a1 = a ∧ n1 = cs.length ∧ k1 = k ∧ a2 = some ⟨g, 0, none⟩ ∧ n2 = cs.length ∧ k2 = cs.length) ∧ w.heap.size ≤ g ∧ Sps w' g ss) ∧ Below w.heap.size w w' := by
  have hn := h.1
  have H := hide h
  have X0 := hide (Blk.new w 61 [.slice none 0 0, .slice none 0 0] _ rfl)
  have F0 := hide ((Below.refl w.heap.size w).alloc (Nat.le_refl _) (.cells #[.slice none 0 0, .slice none 0 0] 61 (0, 0)))
  clear h
  go_enter Try.func27, Try.ntmps27
  go_wp2_with fail
  go_loopw [12] (fun vi wr => ∃ i : Nat, vi = .int .i64 i ∧ i ≤ cs.length ∧ Hid (Below w.heap.size w wr) ∧ Hid (Blk wr w.heap.size 61 [.slice none 0 0, .slice none 0 0]) ∧ Hid (∀ j c, cs[j]? = some c → j < i → cellOk tag c.pure = true)) (fun vi _ => (cs.length - intOf vi).toNat)
  case atStart => exact ⟨0, rfl, by omega, F0.out, X0.out, fun j c _ hj => by omega⟩
  case round =>
    clear X0 F0
    obtain ⟨i, rfl, hi, F, X, HA⟩ := hrel
    by_cases hin : i < cs.length
    · obtain ⟨c, hc⟩ : ∃ c, cs[i]? = some c := ⟨cs[i], List.getElem?_eq_getElem hin⟩
      have h1 := H.out.below F.out (Nat.le_refl _)
      have hok1 := h1.2.1 c (List.mem_of_getElem? hc)
      obtain ⟨b, off, rfl, c0, c1, c2, c3, c4, c5, c6, c7, c8⟩ := h1.cells hc
      have f1 : Below wr.heap.size wr (wr.alloc (.cells c.fields.toArray 40 (0, 0))) := (Below.refl _ wr).alloc (Nat.le_refl _) _
      have F2 := hide (F.out.trans (f1.mono F.out.size))
      have CB := hide (Blk.new wr 40 c.fields _ rfl)
      have X2 := hide (X.out.below f1 X.out.lt)
      simp only [Cel.fields] at F2 CB X2
      have hmem := List.mem_of_getElem? hc
      have hbad : Hid (cellOk tag c.pure = false → lookP tag (cs.map Cel.pure) = none) := by
        intro h
        unfold lookP
        rw [if_pos]
        rw [List.all_eq_false]
        exact ⟨c.pure, List.mem_map.2 ⟨c, hmem, rfl⟩, by simp [h]⟩
      have HC := hide hc
      have hps := hok1.2.2.2.2.2.2.2.1
      have hkd := hok1.2.2.2.1
      clear f1 h1 hc hok1
      go_wp2_with fail
      generalize World.alloc _ _ = w2 at F2 CB X2 ⊢
      clear c0 c1 c2 c3 c4 c5 c6 c7 c8
      obtain ⟨c0, c1, c2, c3, c4, c5, c6, c7, c8, -, -, -, -, -, -, -, -, -⟩ := box9 CB.out
      have hok : Hid (cellOk tag c.pure = (decide (tagOf c.kind = tag) && (bareP c.pure && fitsK c.pure))) := by
        show _ = _
        unfold cellOk
        rw [Bool.eq_iff_iff]
        simp only [decide_eq_true_eq, Bool.and_eq_true]
        rfl
      have BA := hide (fun w' => bare_any c w')
      have KA := hide (fun w' => kidsFit_any c w' hkd (by omega))
      have TA := hide (fun w' => tagOf_any c.kind w')
      generalize bareP c.pure = zb at *
      generalize fitsK c.pure = zk at *
      generalize tagOf c.kind = tg at *
      refine (TA.out _).mono ?_
      rintro e w2' ⟨rfl, rfl⟩
      by_cases hA : tg = tag
      · have hA' : (tg != tag) = false := by simp [hA]
        go_wp2_with fail
        refine (BA.out _).mono ?_
        rintro e w3 ⟨rfl, f3⟩
        have F3 := hide (F2.out.trans (f3.mono F2.out.size))
        have X3 := hide (X2.out.below f3 X2.out.lt)
        have CB3 := hide (CB.out.below f3 CB.out.lt)
        clear f3 c0 c1 c2 c3 c4 c5 c6 c7 c8 F2 X2 CB
        obtain ⟨c0, c1, c2, c3, c4, c5, c6, c7, c8, -, -, -, -, -, -, -, -, -⟩ := box9 CB3.out
        cases zb with
        | true =>
          go_wp2_with fail
          refine (KA.out _).mono ?_
          rintro e w4 ⟨rfl, f4⟩
          have F4 := hide (F3.out.trans (f4.mono F3.out.size))
          have X4 := hide (X3.out.below f4 X3.out.lt)
          clear f4 c0 c1 c2 c3 c4 c5 c6 c7 c8 F3 X3 CB3
          cases zk with
          | true =>
            go_wp2_with fail
            go_roundw
            case rel => exact ⟨i + 1, by go_num, by omega, F4.out, X4.out, fun j c' hj hji => by
              by_cases hjj : j < i
              · exact HA.out j c' hj hjj
              · obtain rfl : j = i := by omega
                rw [HC.out] at hj
                cases hj
                rw [hok.out]; simp [hA]⟩
            case measure => simp [intOf]; omega
          | false =>
            have x0 := X4.out.cell 0
            have x1 := X4.out.cell 1
            have z0 := X4.out.frozen 0
            have z1 := X4.out.frozen 1
            simp only [List.getElem?_cons_zero, List.getElem?_cons_succ] at x0 x1
            have X6 := hide ((X4.out.set 0 (.slice none 0 0)).set 1 (.slice none 0 0))
            have F6 := hide ((F4.out.setCell (show w.heap.size ≤ (⟨w.heap.size, 0, none⟩ : Addr).block from Nat.le_refl _) (.slice none 0 0)).setCell (show w.heap.size ≤ (⟨w.heap.size, 1, none⟩ : Addr).block from Nat.le_refl _) (.slice none 0 0))
            go_wp2_with fail
            exact bodyPost_ret (results_tree2 rfl _ _ w.heap.size _ _ rfl X6.out) rfl ⟨false, none, 0, 0, none, 0, 0, rfl, .inl ⟨rfl, hbad.out (by rw [hok.out]; simp [hA])⟩, F6.out⟩
        | false =>
          clear c0 c1 c2 c3 c4 c5 c6 c7 c8
          have x0 := X3.out.cell 0
          have x1 := X3.out.cell 1
          have z0 := X3.out.frozen 0
          have z1 := X3.out.frozen 1
          simp only [List.getElem?_cons_zero, List.getElem?_cons_succ] at x0 x1
          have X6 := hide ((X3.out.set 0 (.slice none 0 0)).set 1 (.slice none 0 0))
          have F6 := hide ((F3.out.setCell (show w.heap.size ≤ (⟨w.heap.size, 0, none⟩ : Addr).block from Nat.le_refl _) (.slice none 0 0)).setCell (show w.heap.size ≤ (⟨w.heap.size, 1, none⟩ : Addr).block from Nat.le_refl _) (.slice none 0 0))
          go_wp2_with fail
          exact bodyPost_ret (results_tree2 rfl _ _ w.heap.size _ _ rfl X6.out) rfl ⟨false, none, 0, 0, none, 0, 0, rfl, .inl ⟨rfl, hbad.out (by rw [hok.out]; simp [hA])⟩, F6.out⟩
      · have hA' : (tg != tag) = true := by simpa using hA
        clear c0 c1 c2 c3 c4 c5 c6 c7 c8
        have x0 := X2.out.cell 0
        have x1 := X2.out.cell 1
        have z0 := X2.out.frozen 0
        have z1 := X2.out.frozen 1
        simp only [List.getElem?_cons_zero, List.getElem?_cons_succ] at x0 x1
        have X6 := hide ((X2.out.set 0 (.slice none 0 0)).set 1 (.slice none 0 0))
        have F6 := hide ((F2.out.setCell (show w.heap.size ≤ (⟨w.heap.size, 0, none⟩ : Addr).block from Nat.le_refl _) (.slice none 0 0)).setCell (show w.heap.size ≤ (⟨w.heap.size, 1, none⟩ : Addr).block from Nat.le_refl _) (.slice none 0 0))
        go_wp2_with fail
        exact bodyPost_ret (results_tree2 rfl _ _ w.heap.size _ _ rfl X6.out) rfl ⟨false, none, 0, 0, none, 0, 0, rfl, .inl ⟨rfl, hbad.out (by rw [hok.out]; simp [hA])⟩, F6.out⟩
    · obtain rfl : i = cs.length := by omega
      have hall : ∀ c ∈ cs, cellOk tag c.pure = true := fun c hcc => by
        obtain ⟨j, hj⟩ := List.mem_iff_getElem?.1 hcc
        exact HA.out j c hj (List.getElem?_eq_some_iff.1 hj).1
      have LA := hide (lay_any cs a k wr (H.out.below F.out (Nat.le_refl _)) (fun c hcc => (cellOk4 (hall c hcc)).1))
      have hpc : (cs.map Cel.pure).all (cellOk tag) = true := by
        rw [List.all_eq_true]
        intro p hp
        obtain ⟨c, hcc, rfl⟩ := List.mem_map.1 hp
        exact hall c hcc
      have HALL := hide hall
      have hXlt := X.out.lt
      have hlk : Hid (lookP tag (cs.map Cel.pure) = match layP (cs.map Cel.pure) with
          | none => none
          | some ss => if countedP (cs.map Cel.pure) ss = false then none else if placedP tag (cs.map Cel.pure) ss = false then none else some ss) := by
        show _ = _
        unfold lookP
        rw [hpc]; rfl
      clear hall hpc
      go_wp2_with fail
      refine LA.out.mono ?_
      rintro r w2 ⟨bb, a1, n1, k1, a2, n2, k2, rfl, hcase, f2⟩
      have F2 := hide (F.out.trans (f2.mono F.out.size))
      have X2 := hide (X.out.below f2 X.out.lt)
      clear LA X
      rcases hcase with ⟨rfl, hnone⟩ | ⟨rfl, ss, g, hsome, ⟨rfl, rfl, rfl, rfl, rfl, rfl⟩, hg, hsp⟩
      · have hno : Hid (lookP tag (cs.map Cel.pure) = none) := by show _ = _; rw [hlk.out, hnone]
        have hw2 : w.heap.size < w2.heap.size := X2.out.lt
        have X6 := hide (((X2.out.set 0 (.slice none 0 0)).set 1 (.slice none 0 0)).alloc (.cells #[.slice a1 n1 k1, .slice a2 n2 k2] 61 (0, 0)))
        have F6 := hide (((F2.out.setCell (show w.heap.size ≤ (⟨w.heap.size, 0, none⟩ : Addr).block from Nat.le_refl _) (.slice none 0 0)).setCell (show w.heap.size ≤ (⟨w.heap.size, 1, none⟩ : Addr).block from Nat.le_refl _) (.slice none 0 0)).alloc (by simp; omega) (.cells #[.slice a1 n1 k1, .slice a2 n2 k2] 61 (0, 0)))
        have x0 := X2.out.cell 0
        have x1 := X2.out.cell 1
        have z0 := X2.out.frozen 0
        have z1 := X2.out.frozen 1
        simp only [List.getElem?_cons_zero, List.getElem?_cons_succ] at x0 x1
        go_wp2_with fail
        exact bodyPost_ret (results_tree2 rfl _ _ w.heap.size _ _ rfl X6.out) rfl ⟨false, none, 0, 0, none, 0, 0, rfl, .inl ⟨rfl, hno.out⟩, F6.out⟩
      · have f0 : Below w2.heap.size w2 (w2.alloc (.cells #[.slice a1 cs.length k1, .slice (some ⟨g, 0, none⟩) cs.length cs.length] 61 (0, 0))) := (Below.refl _ _).alloc (Nat.le_refl _) _
        have hL := Lok.of hsome
        have X3 := hide (X2.out.below f0 X2.out.lt)
        have F3 := hide (F2.out.trans (f0.mono F2.out.size))
        have TB := hide (Blk.new w2 61 [.slice a1 cs.length k1, .slice (some ⟨g, 0, none⟩) cs.length cs.length] _ rfl)
        have T3 : Hid (Tre (w2.alloc (.cells #[.slice a1 cs.length k1, .slice (some ⟨g, 0, none⟩) cs.length cs.length] 61 (0, 0))) a1 cs g ss) := ⟨H.out.below F3.out (Nat.le_refl _), Blk.below hsp f0 (Blk.lt hsp), by simpa using hL.2⟩
        have hg' := hg
        clear f0 X2 F2 hsp
        go_wp2_with fail
        generalize World.alloc _ _ = w3 at X3 F3 TB T3 ⊢
        refine (counted_any a1 cs g ss k1 cs.length w3 T3.out hL.1 (fun c hcc => (cellOk4 (HALL.out c hcc)).2.1)).mono ?_
        rintro e w4 ⟨rfl, f4⟩
        have X4 := hide (X3.out.below f4 X3.out.lt)
        have F4 := hide (F3.out.trans (f4.mono F3.out.size))
        have TB4 := hide (TB.out.below f4 TB.out.lt)
        have T4 := hide (T3.out.below f4)
        have PL := hide (placed_any tag a1 cs g ss k1 cs.length w4 T4.out hL.1 HALL.out)
        rw [hsome] at hlk
        simp only at hlk
        clear f4 X3 F3 TB T3
        by_cases hcn : countedP (cs.map Cel.pure) ss = true
        · rw [hcn] at hlk ⊢
          have t0 := TB4.out.cell 0
          have t1 := TB4.out.cell 1
          simp only [List.getElem?_cons_zero, List.getElem?_cons_succ] at t0 t1
          go_wp2_with fail
          refine PL.out.mono ?_
          rintro e w5 ⟨rfl, f5⟩
          have X5 := hide (X4.out.below f5 X4.out.lt)
          have F5 := hide (F4.out.trans (f5.mono F4.out.size))
          have TB5 := hide (TB4.out.below f5 TB4.out.lt)
          have T5 := hide (T4.out.below f5)
          clear f5 t0 t1 X4 F4 TB4 T4 PL
          by_cases hpl : placedP tag (cs.map Cel.pure) ss = true
          · rw [hpl] at hlk ⊢
            have t0 := TB5.out.cell 0
            have t1 := TB5.out.cell 1
            have x0 := X5.out.cell 0
            have x1 := X5.out.cell 1
            have z0 := X5.out.frozen 0
            have z1 := X5.out.frozen 1
            simp only [List.getElem?_cons_zero, List.getElem?_cons_succ] at t0 t1 x0 x1
            have X6 := hide ((X5.out.set 0 (.slice a1 cs.length k1)).set 1 (.slice (some ⟨g, 0, none⟩) cs.length cs.length))
            have F6 := hide ((F5.out.setCell (show w.heap.size ≤ (⟨w.heap.size, 0, none⟩ : Addr).block from Nat.le_refl _) (.slice a1 cs.length k1)).setCell (show w.heap.size ≤ (⟨w.heap.size, 1, none⟩ : Addr).block from Nat.le_refl _) (.slice (some ⟨g, 0, none⟩) cs.length cs.length))
            have hgr : w.heap.size < g := by
              have := F.out.size
              have h2 : w.heap.size < wr.heap.size := hXlt
              omega
            have S6 : Hid (Sps ((w5.setCell ⟨w.heap.size, 0, none⟩ (.slice a1 cs.length k1)).setCell ⟨w.heap.size, 1, none⟩ (.slice (some ⟨g, 0, none⟩) cs.length cs.length)) g ss) := Blk.other (Blk.other T5.out.sp (by omega)) (by omega)
            go_wp2_with fail
            exact bodyPost_ret (results_tree2 rfl _ _ w.heap.size _ _ rfl X6.out) rfl ⟨true, a1, cs.length, k1, some ⟨g, 0, none⟩, cs.length, cs.length, rfl, .inr ⟨rfl, ss, g, by rw [hlk.out]; rfl, ⟨rfl, rfl, rfl, rfl, rfl, rfl⟩, by omega, S6.out⟩, F6.out⟩
          · have hpl' : placedP tag (cs.map Cel.pure) ss = false := by simpa using hpl
            rw [hpl'] at hlk ⊢
            have x0 := X5.out.cell 0
            have x1 := X5.out.cell 1
            have z0 := X5.out.frozen 0
            have z1 := X5.out.frozen 1
            simp only [List.getElem?_cons_zero, List.getElem?_cons_succ] at x0 x1
            have X6 := hide ((X5.out.set 0 (.slice none 0 0)).set 1 (.slice none 0 0))
            have F6 := hide ((F5.out.setCell (show w.heap.size ≤ (⟨w.heap.size, 0, none⟩ : Addr).block from Nat.le_refl _) (.slice none 0 0)).setCell (show w.heap.size ≤ (⟨w.heap.size, 1, none⟩ : Addr).block from Nat.le_refl _) (.slice none 0 0))
            go_wp2_with fail
            exact bodyPost_ret (results_tree2 rfl _ _ w.heap.size _ _ rfl X6.out) rfl ⟨false, none, 0, 0, none, 0, 0, rfl, .inl ⟨rfl, by rw [hlk.out]; rfl⟩, F6.out⟩
        · have hcn' : countedP (cs.map Cel.pure) ss = false := by simpa using hcn
          rw [hcn'] at hlk ⊢
          have x0 := X4.out.cell 0
          have x1 := X4.out.cell 1
          have z0 := X4.out.frozen 0
          have z1 := X4.out.frozen 1
          simp only [List.getElem?_cons_zero, List.getElem?_cons_succ] at x0 x1
          have X6 := hide ((X4.out.set 0 (.slice none 0 0)).set 1 (.slice none 0 0))
          have F6 := hide ((F4.out.setCell (show w.heap.size ≤ (⟨w.heap.size, 0, none⟩ : Addr).block from Nat.le_refl _) (.slice none 0 0)).setCell (show w.heap.size ≤ (⟨w.heap.size, 1, none⟩ : Addr).block from Nat.le_refl _) (.slice none 0 0))
          go_wp2_with fail
          exact bodyPost_ret (results_tree2 rfl _ _ w.heap.size _ _ rfl X6.out) rfl ⟨false, none, 0, 0, none, 0, 0, rfl, .inl ⟨rfl, by rw [hlk.out]; rfl⟩, F6.out⟩
end Go.Proofs.Ytnedcoomldmhhaa
