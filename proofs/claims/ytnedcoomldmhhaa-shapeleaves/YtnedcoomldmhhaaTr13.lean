/- shape.parts. -/
import Derived.Test.YtnedcoomldmhhaaTr12
namespace Go.Proofs.Ytnedcoomldmhhaa
set_option maxRecDepth 20000
open Go.RowKit Go.Sort
set_option linter.unusedVariables false
set_option linter.unusedSimpArgs false

/-- One step: behind which leaf the next one stands. -/
def ptStep (cs : List PC) (ss : List Sp) (leaf : Int) (i : Nat) : Option Int :=
  if (cAt cs i).kind = 2 then (if (sAt ss i).over ≠ -1 ∧ (cAt cs i).at_ ≤ (cAt cs (sAt ss i).over.toNat).at_ then none else some leaf)
  else if ¬ (cAt cs i).key.length ≤ 65535 then none
  else if leaf ≠ -1 ∧ partedP (cAt cs leaf.toNat).key (cAt cs i).key (cAt cs (sAt ss (leaf.toNat + 1)).over.toNat).at_ = false then none
  else some i
def ptN (cs : List PC) (ss : List Sp) : Nat → Option Int
  | 0 => some (-1)
  | k + 1 => (ptN cs ss k).bind fun l => ptStep cs ss l k
def partsP (cs : List PC) (ss : List Sp) : Bool := (ptN cs ss cs.length).isSome
theorem ptN_none {cs : List PC} {ss : List Sp} {k : Nat} (h : ptN cs ss k = none) : ∀ m, k ≤ m → ptN cs ss m = none := by
  intro m hm
  induction m with
  | zero => obtain rfl : k = 0 := by omega
            exact h
  | succ m ih =>
    by_cases hk : k = m + 1
    · rw [← hk]; exact h
    · simp only [ptN, ih (by omega), Option.bind_none]
theorem ptN_leaf {cs : List PC} {ss : List Sp} : ∀ {k : Nat} {l : Int}, ptN cs ss k = some l → l = -1 ∨ (0 ≤ l ∧ l < k ∧ (cAt cs l.toNat).key.length ≤ 65535)
  | 0, l, h => by simp [ptN] at h; omega
  | k + 1, l, h => by
    simp only [ptN] at h
    cases h1 : ptN cs ss k with
    | none => rw [h1] at h; simp at h
    | some l' =>
      rw [h1] at h
      have ih := ptN_leaf h1
      simp only [Option.bind_some, ptStep] at h
      split at h
      · split at h
        · simp at h
        · obtain rfl : l' = l := by simpa using h
          omega
      · split at h
        · simp at h
        · split at h
          · simp at h
          · simp at h
            subst h
            refine .inr ⟨by omega, by omega, ?_⟩
            rw [Int.toNat_natCast]
            rename_i hmay _
            have := Decidable.not_not.1 hmay
            exact this
set_option maxHeartbeats 3200000 in
theorem parts_any (a : Option Addr) (cs : List Cel) (g : Nat) (ss : List Sp) (k m : Nat) (w : World) (h : Tre w a cs g ss) (L : Lok (cs.map Cel.pure) ss) (h3 : ∀ c ∈ cs, c.kind ≠ 3) :
    Calls Try.prog 67 #[.agg #[.slice a cs.length k, .slice (some ⟨g, 0, none⟩) cs.length m]] w fun e w' => e = .returned (.bool (partsP (cs.map Cel.pure) ss)) ∧ Below w.heap.size w w' := by
  have hn := h.rc.1
  have hln := h.ln
  have H := hide h
  have HL := hide L
  have X0 := hide (Blk.new w 61 [.slice a cs.length k, .slice (some ⟨g, 0, none⟩) cs.length m] _ rfl)
  have F0 := hide ((Below.refl w.heap.size w).alloc (Nat.le_refl _) (.cells #[.slice a cs.length k, .slice (some ⟨g, 0, none⟩) cs.length m] 61 (0, 0)))
  clear h L
  go_enter Try.func67, Try.ntmps67
  go_wp2_with fail
  go_loopw [3, 10] (fun vl vi wr => ∃ (i : Nat) (l : Int), vi = .int .i64 i ∧ vl = .int .i64 l ∧ i ≤ cs.length ∧ Hid (Below w.heap.size w wr) ∧ Hid (Blk wr w.heap.size 61 [.slice a cs.length k, .slice (some ⟨g, 0, none⟩) cs.length m]) ∧ Hid (ptN (cs.map Cel.pure) ss i = some l)) (fun _ vi _ => (cs.length - intOf vi).toNat)
  case atStart => exact ⟨0, -1, rfl, rfl, by omega, F0.out, X0.out, rfl⟩
  case round =>
    clear X0 F0
    obtain ⟨i, l, rfl, rfl, hi, F, X, HP⟩ := hrel
    have hleaf := ptN_leaf HP.out
    by_cases hin : i < cs.length
    · obtain ⟨c, hc⟩ : ∃ c, cs[i]? = some c := ⟨cs[i], List.getElem?_eq_getElem hin⟩
      have h1 := H.out.below (F.out.mono (Nat.le_refl _))
      have hkc0 := (h1.rc.2.1 c (List.mem_of_getElem? hc)).2.2.2.2.2.2.1
      have hat := (h1.rc.2.1 c (List.mem_of_getElem? hc)).2.1
      obtain ⟨b, off, rfl, c0, c1, c2, c3, c4, c5, c6, c7, c8⟩ := h1.rc.cells hc
      have x0 := X.out.cell 0
      have x1 := X.out.cell 1
      simp only [List.getElem?_cons_zero, List.getElem?_cons_succ] at x0 x1
      have hxl := X.out.lt
      have hme := cAt_map hc
      have f1 : Below wr.heap.size wr (wr.alloc (.cells c.fields.toArray 40 (0, 0))) := (Below.refl _ wr).alloc (Nat.le_refl _) _
      have F2 := hide (F.out.trans (f1.mono F.out.size))
      have CB := hide (Blk.new wr 40 c.fields _ rfl)
      have X2 := hide (X.out.below f1 X.out.lt)
      have T2 := hide (h1.below f1)
      simp only [Cel.fields] at F2 CB X2 T2
      have hov := HL.out.over i (by simpa using hin)
      obtain ⟨s0, s1, s2, s3⟩ := T2.out.sp.cells (i := i) (by omega)
      have S0 := hide s0
      have hgr := (Blk.lt h1.sp)
      obtain ⟨s0, -, -, -⟩ := h1.sp.cells (i := i) (by omega)
      have hstep : Hid (∀ r, ptStep (cs.map Cel.pure) ss l i = r → ptN (cs.map Cel.pure) ss (i + 1) = r) := by
        intro r hr
        simp only [ptN, HP.out, Option.bind_some]
        exact hr
      have hfail : Hid (ptStep (cs.map Cel.pure) ss l i = none → partsP (cs.map Cel.pure) ss = false) := by
        intro hr
        have := ptN_none (hstep.out none hr) (cs.map Cel.pure).length (by simp; omega)
        unfold partsP
        rw [this]; rfl
      have HC := hide hc
      clear f1 h1 hc
      by_cases hk2 : c.kind = 2
      · have hk2' : (c.kind == 2) = true := by simpa using hk2
        generalize hov' : (sAt ss i).over = ov at *
        simp only [hk2] at F2 CB X2 T2
        by_cases hom : ov = -1
        · have hom' : (ov != -1) = false := by simp [hom]
          have hst : ptStep (cs.map Cel.pure) ss l i = some l := by
            unfold ptStep
            rw [hme, hov', if_pos (show c.pure.kind = 2 from hk2), if_neg (by simp [hom])]
          go_wp2_with fail
          generalize World.alloc _ _ = w2 at F2 CB X2 T2 ⊢
          clear c0 c1 c2 c3 c4 c5 c6 c7 c8 x0 x1 s0 S0 s1 s2 s3
          go_quiet (fail)
          go_wp2
          go_roundw
          case rel => exact ⟨i + 1, l, by go_num, rfl, by omega, Below.drewN' F2.out _, X2.out, hstep.out _ hst⟩
          case measure => simp [intOf]; omega
        · have hom' : (ov != -1) = true := by simp [hom]
          obtain ⟨o, rfl⟩ : ∃ o : Nat, ov = o := ⟨ov.toNat, by omega⟩
          have hon : o < cs.length := by omega
          obtain ⟨co, hco⟩ : ∃ co, cs[o]? = some co := ⟨cs[o], List.getElem?_eq_getElem hon⟩
          go_wp2_with fail
          generalize World.alloc _ _ = w2 at F2 CB X2 T2 ⊢
          clear c0 c1 c2 c3 c4 c5 c6 c7 c8 x0 x1 s0 S0 s1 s2 s3
          have x0 := X2.out.cell 0
          have c1 := CB.out.cell 1
          simp only [List.getElem?_cons_zero, List.getElem?_cons_succ] at x0 c1
          obtain ⟨b', off', hb2, -, o1, -⟩ := T2.out.rc.cells hco
          cases hb2
          by_cases hle : c.at_ ≤ co.at_
          · have hst : ptStep (cs.map Cel.pure) ss l i = none := by
              unfold ptStep
              rw [hme, hov', if_pos (show c.pure.kind = 2 from hk2), Int.toNat_natCast, cAt_map hco, if_pos ⟨hom, hle⟩]
            go_quiet (fail)
            go_wp2
            go_ret
            exact ⟨ret_bool (hfail.out hst).symm, Below.drewN' F2.out _⟩
          · have hst : ptStep (cs.map Cel.pure) ss l i = some l := by
              unfold ptStep
              rw [hme, hov', if_pos (show c.pure.kind = 2 from hk2), Int.toNat_natCast, cAt_map hco, if_neg (fun h => hle h.2)]
            go_quiet (fail)
            go_wp2
            go_roundw
            case rel => exact ⟨i + 1, l, by go_num, rfl, by omega, Below.drewN' F2.out _, X2.out, hstep.out _ hst⟩
            case measure => simp [intOf]; omega
      · have hk2' : (c.kind == 2) = false := by simpa using hk2
        have M := hide (may_any c.ka c.key.length c.kc · hkc0.2.1)
        by_cases hA : c.key.length ≤ 65535
        · have hA' : decide ((c.key.length : Int) ≤ 65535) = true := by simp; omega
          go_wp2_with fail
          refine (M.out _).mono ?_
          rintro e w2' ⟨rfl, rfl⟩
          rw [hA']
          go_wp2_with fail
          generalize World.alloc _ _ = w2 at F2 CB X2 T2 ⊢
          clear c0 c1 c2 c3 c4 c5 c6 c7 c8 x0 x1 s0 S0 s1 s2 s3
          by_cases hl : l = -1
          · have hl' : (l != -1) = false := by simp [hl]
            have hst : ptStep (cs.map Cel.pure) ss l i = some (i : Int) := by
              unfold ptStep
              rw [hme, if_neg (show ¬ c.pure.kind = 2 from hk2), if_neg (show ¬ ¬ c.pure.key.length ≤ 65535 from fun h => h hA), if_neg (by simp [hl])]
            go_quiet (fail)
            go_wp2
            go_roundw
            case rel => exact ⟨i + 1, i, by go_num, rfl, by omega, Below.drewN' F2.out _, X2.out, hstep.out _ hst⟩
            case measure => simp [intOf]; omega
          · have hl' : (l != -1) = true := by simp [hl]
            obtain ⟨lf, rfl⟩ : ∃ lf : Nat, l = lf := ⟨l.toNat, by omega⟩
            have hlf : lf < i ∧ (cAt (cs.map Cel.pure) lf).key.length ≤ 65535 := by
              have := hleaf.resolve_left hl
              rw [Int.toNat_natCast] at this
              exact ⟨by omega, this.2.2⟩
            obtain ⟨cl, hcl⟩ : ∃ cl, cs[lf]? = some cl := ⟨cs[lf]'(by omega), List.getElem?_eq_getElem _⟩
            have hov1 := HL.out.over (lf + 1) (by simp; omega)
            have hpos : 0 ≤ (sAt ss (lf + 1)).over ∧ (sAt ss (lf + 1)).over < (lf + 1 : Nat) := by
              rcases hov1 with ⟨h5, h6⟩ | h5
              · exfalso
                unfold firstP at h6
                simp only [decide_eq_true_eq] at h6
                rcases h6 with h6 | ⟨h6, h7⟩
                · omega
                · obtain ⟨cz, hcz⟩ : ∃ cz, cs[0]? = some cz := ⟨cs[0]'(by omega), List.getElem?_eq_getElem _⟩
                  rw [cAt_map hcz] at h7
                  exact h3 cz (List.mem_of_getElem? hcz) h7
              · exact ⟨h5.1, h5.2.1⟩
            obtain ⟨p0, -, -, -⟩ := T2.out.sp.cells (i := lf + 1) (by omega)
            obtain ⟨pv, hpv⟩ : ∃ pv : Nat, (sAt ss (lf + 1)).over = pv := ⟨_, (Int.toNat_of_nonneg hpos.1).symm⟩
            rw [hpv] at p0 hpos
            have hpn : pv < cs.length := by omega
            obtain ⟨cp, hcp⟩ : ∃ cp, cs[pv]? = some cp := ⟨cs[pv], List.getElem?_eq_getElem hpn⟩
            obtain ⟨b', off', hb2, -, -, -, -, -, -, -, l7, -⟩ := T2.out.rc.cells hcl
            cases hb2
            obtain ⟨b', off', hb2, -, q1, -⟩ := T2.out.rc.cells hcp
            cases hb2
            have x0 := X2.out.cell 0
            have x1 := X2.out.cell 1
            have c7 := CB.out.cell 7
            simp only [List.getElem?_cons_zero, List.getElem?_cons_succ] at x0 x1 c7
            have hkl := (T2.out.rc.2.1 cl (List.mem_of_getElem? hcl)).2.2.2.2.2.2.1
            have hap := (T2.out.rc.2.1 cp (List.mem_of_getElem? hcp)).2.1
            have hkc2 := (T2.out.rc.2.1 c (List.mem_of_getElem? HC.out)).2.2.2.2.2.2.1
            rw [cAt_map hcl] at hlf
            have hll : cl.key.length ≤ 65535 := hlf.2
            have hl1 : lf + 1 < cs.length := by omega
            have hlc : lf < cs.length := by omega
            have PT := fun n => parted_any cl.ka c.ka cl.key c.key cl.kc c.kc cp.at_ (w2.drewN n) (hkl.drewN n) (hkc2.drewN n) (by omega) hap
            have PT' := hide PT
            have hstp : Hid (ptStep (cs.map Cel.pure) ss lf i = if partedP cl.key c.key cp.at_ = false then none else some (i : Int)) := by
              show _ = _
              unfold ptStep
              rw [hme, if_neg (show ¬ c.pure.kind = 2 from hk2), if_neg (show ¬ ¬ c.pure.key.length ≤ 65535 from fun h => h hA), Int.toNat_natCast, hpv, Int.toNat_natCast, cAt_map hcl, cAt_map hcp]
              simp only [Cel.pure]
              simp [hl]
            clear PT hkl hap hkc2 hcl hcp
            generalize partedP cl.key c.key cp.at_ = z at *
            have hfin : Hid (Below w.heap.size w w2) := F2.out
            cases z with
            | true =>
              go_quiet (first | (go_at_call 74; exact Calls.quiet_of (PT'.out _)))
              go_wp2
              go_roundw
              case rel => exact ⟨i + 1, i, by go_num, rfl, by omega, Below.drewN' F2.out _, X2.out, hstep.out _ (by rw [hstp.out]; rfl)⟩
              case measure => simp [intOf]; omega
            | false =>
              go_quiet (first | (go_at_call 74; exact Calls.quiet_of (PT'.out _)))
              go_wp2
              go_ret
              exact ⟨ret_bool (hfail.out (by rw [hstp.out]; rfl)).symm, Below.drewN' F2.out _⟩
        · have hA' : decide ((c.key.length : Int) ≤ 65535) = false := by simp; omega
          have hst : ptStep (cs.map Cel.pure) ss l i = none := by
            unfold ptStep
            rw [hme, if_neg (show ¬ c.pure.kind = 2 from hk2), if_pos (show ¬ c.pure.key.length ≤ 65535 from hA)]
          go_wp2_with fail
          refine (M.out _).mono ?_
          rintro e w2' ⟨rfl, rfl⟩
          rw [hA']
          go_wp2_with fail
          go_ret
          exact ⟨ret_bool (hfail.out hst).symm, F2.out⟩
    · obtain rfl : i = cs.length := by omega
      go_wp2_with fail
      go_ret
      refine ⟨ret_bool ?_, F.out⟩
      unfold partsP
      rw [List.length_map, HP.out]; rfl
end Go.Proofs.Ytnedcoomldmhhaa
