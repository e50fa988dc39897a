/- shape.counted. -/
import Derived.Test.YtnedcoomldmhhaaTr17
namespace Go.Proofs.Ytnedcoomldmhhaa
set_option maxRecDepth 20000
open Go.RowKit Go.Sort
set_option linter.unusedVariables false
set_option linter.unusedSimpArgs false

def updI (f : Nat → Int) (j : Nat) (x : Int) : Nat → Int := fun i => if i = j then x else f i
def cnStep (cs : List PC) (ss : List Sp) (f : Nat → Int) (i : Nat) : Option (Nat → Int) :=
  if f i + ownK (cAt cs i) ≠ (cAt cs i).count then none
  else if (sAt ss i).over = -1 then some (updI f i (f i + ownK (cAt cs i)))
  else some (updI (updI f i (f i + ownK (cAt cs i))) (sAt ss i).over.toNat (f (sAt ss i).over.toNat + (f i + ownK (cAt cs i))))
def cnN (cs : List PC) (ss : List Sp) : Nat → (Nat → Int) → Bool
  | 0, _ => true
  | i + 1, f => match cnStep cs ss f i with
    | none => false
    | some f' => cnN cs ss i f'
def countedP (cs : List PC) (ss : List Sp) : Bool := cnN cs ss cs.length (fun _ => 0)
def sumTo (f : Nat → Int) : Nat → Int
  | 0 => 0
  | k + 1 => sumTo f k + f k
theorem sumTo_upd (f : Nat → Int) (j : Nat) (x : Int) : ∀ k, sumTo (updI f j x) k = sumTo f k + if j < k then x - f j else 0
  | 0 => by simp [sumTo]
  | k + 1 => by
    simp only [sumTo, sumTo_upd f j x k, updI]
    by_cases h : j < k
    · have h1 : ¬ k = j := by omega
      have h2 : j < k + 1 := by omega
      simp [h, h1, h2]; omega
    · by_cases h2 : j = k
      · subst h2; simp; omega
      · have h1 : ¬ k = j := by omega
        have h3 : ¬ j < k + 1 := by omega
        simp [h, h1, h3]
theorem sumTo_ge (f : Nat → Int) : ∀ k, (∀ j, j < k → 0 ≤ f j) → 0 ≤ sumTo f k ∧ ∀ j, j < k → f j ≤ sumTo f k
  | 0, _ => ⟨by simp [sumTo], fun j h => by omega⟩
  | k + 1, h => by
    obtain ⟨h1, h2⟩ := sumTo_ge f k (fun j hj => h j (by omega))
    have := h k (by omega)
    refine ⟨by simp only [sumTo]; omega, fun j hj => ?_⟩
    by_cases hjk : j < k
    · have := h2 j hjk; simp only [sumTo]; omega
    · obtain rfl : j = k := by omega
      simp only [sumTo]; omega
theorem cn_inv {cs : List PC} {ss : List Sp} {f f' : Nat → Int} {i n : Nat} (h : cnStep cs ss f i = some f') (ho : (sAt ss i).over = -1 ∨ (0 ≤ (sAt ss i).over ∧ (sAt ss i).over < i)) (hw : 0 ≤ ownK (cAt cs i) ∧ ownK (cAt cs i) ≤ 8) (hi : i < n)
    (h0 : ∀ j, j < i + 1 → 0 ≤ f j) (hs : sumTo f (i + 1) ≤ 8 * (n - (i + 1 : Nat))) : (∀ j, j < i → 0 ≤ f' j) ∧ sumTo f' i ≤ 8 * (n - i) := by
  have hfi := h0 i (by omega)
  simp only [sumTo] at hs
  obtain ⟨hg, _⟩ := sumTo_ge f i (fun j hj => h0 j (by omega))
  unfold cnStep at h
  split at h
  · simp at h
  · split at h
    · simp at h
      subst h
      refine ⟨fun j hj => ?_, ?_⟩
      · unfold updI; rw [if_neg (by omega)]; exact h0 j (by omega)
      · rw [sumTo_upd, if_neg (by omega)]; omega
    · rename_i hno
      simp at h
      subst h
      have ho' := ho.resolve_left hno
      refine ⟨fun j hj => ?_, ?_⟩
      · unfold updI
        by_cases hj2 : j = (sAt ss i).over.toNat
        · rw [if_pos hj2]
          have := h0 (sAt ss i).over.toNat (by omega)
          omega
        · rw [if_neg hj2, if_neg (by omega)]; exact h0 j (by omega)
      · rw [sumTo_upd, if_pos (by omega), sumTo_upd, if_neg (by omega)]
        unfold updI
        rw [if_neg (by omega)]
        omega
/-- A round of counted: what lies where. -/
structure CnI (w wr : World) (a : Option Addr) (n k m g : Nat) (f : Nat → Int) : Prop where
  F : Below w.heap.size w wr
  X : Blk wr w.heap.size 61 [.slice a n k, .slice (some ⟨g, 0, none⟩) n m]
  L : Nums wr (w.heap.size + 1) n f
theorem CnI.below {w wr w' : World} {a : Option Addr} {n k m g : Nat} {f : Nat → Int} (h : CnI w wr a n k m g f) (q : Below wr.heap.size wr w') : CnI w w' a n k m g f :=
  ⟨h.F.trans (q.mono h.F.size), h.X.below q h.X.lt, Blk.below h.L q (Blk.lt h.L)⟩
theorem CnI.set {w wr : World} {a : Option Addr} {n k m g : Nat} {f : Nat → Int} (h : CnI w wr a n k m g f) (i : Nat) (x : Int) (hi : i < n) : CnI w (wr.setCell ⟨w.heap.size + 1, i, none⟩ (.int .i64 x)) a n k m g (updI f i x) :=
  ⟨h.F.setCell (by show _ ≤ w.heap.size + 1; omega) _, h.X.other (by omega), h.L.set i hi x⟩
set_option maxHeartbeats 3200000 in
theorem counted_any (a : Option Addr) (cs : List Cel) (g : Nat) (ss : List Sp) (k m : Nat) (w : World) (h : Tre w a cs g ss) (L : Lok (cs.map Cel.pure) ss) (h8 : ∀ c ∈ cs, 0 ≤ ownK c.pure ∧ ownK c.pure ≤ 8) :
    Calls Try.prog 46 #[.agg #[.slice a cs.length k, .slice (some ⟨g, 0, none⟩) cs.length m]] w fun e w' => e = .returned (.bool (countedP (cs.map Cel.pure) ss)) ∧ Below w.heap.size w w' := by
  have hn := h.rc.1
  have hln := h.ln
  have H := hide h
  have HL := hide L
  have x0 := Blk.new w 61 [.slice a cs.length k, .slice (some ⟨g, 0, none⟩) cs.length m] _ rfl
  have f0 := (Below.refl w.heap.size w).alloc (Nat.le_refl _) (.cells #[.slice a cs.length k, .slice (some ⟨g, 0, none⟩) cs.length m] 61 (0, 0))
  obtain ⟨w1, r1, b1, f1, s1⟩ := make_ints (w.alloc (.cells #[.slice a cs.length k, .slice (some ⟨g, 0, none⟩) cs.length m] 61 (0, 0))) .i64 .i64 cs.length cs.length cs.length rfl rfl (by omega)
  have hs0 : (w.alloc (.cells #[.slice a cs.length k, .slice (some ⟨g, 0, none⟩) cs.length m] 61 (0, 0))).heap.size = w.heap.size + 1 := by simp
  have X1 := hide (x0.below f1 (by omega))
  have F1 := hide (f0.trans (f1.mono (by omega)))
  rw [hs0] at r1 b1
  have x1 := X1.out.cell 0
  have B1 := hide b1
  simp only [List.getElem?_cons_zero, List.getElem?_cons_succ] at x1
  clear h L b1 f1 x0 f0
  go_enter Try.func46, Try.ntmps46
  go_wp2_with fail
  have hI : Hid (CnI w w1 a cs.length k m g (fun _ => 0)) := ⟨F1.out, X1.out, B1.out⟩
  clear X1 F1 B1 x1
  go_loopw [4] (fun vi wr => ∃ (q : Nat) (f : Nat → Int), vi = .int .i64 ((q : Int) - 1) ∧ q ≤ cs.length ∧ Hid (countedP (cs.map Cel.pure) ss = cnN (cs.map Cel.pure) ss q f) ∧ Hid ((∀ j, j < q → 0 ≤ f j) ∧ sumTo f q ≤ 8 * ((cs.length : Int) - (q : Int))) ∧ Hid (CnI w wr a cs.length k m g f)) (fun vi _ => (intOf vi + 1).toNat)
  case atStart => exact ⟨cs.length, fun _ => 0, by first | rfl | go_num, by omega, by show _ = _; unfold countedP; rw [List.length_map], ⟨fun j hj => Int.le_refl 0, by
    have : sumTo (fun _ => 0) cs.length = 0 := by
      have h : ∀ q, sumTo (fun _ => 0) q = 0 := fun q => by
        induction q with
        | zero => rfl
        | succ q ih => simp only [sumTo, ih]; omega
      exact h _
    omega⟩, hI.out⟩
  case round =>
    clear hI r1 s1 hs0
    obtain ⟨q, f, rfl, hq, HP, HB, I⟩ := hrel
    rcases q with _ | i
    · go_wp2_with fail
      go_ret
      exact ⟨ret_bool (by rw [HP.out]; rfl), I.out.F⟩
    · have hin : i < cs.length := by omega
      have hii : ((i + 1 : Nat) : Int) - 1 = (i : Int) := by omega
      rw [hii]
      obtain ⟨c, hc⟩ : ∃ c, cs[i]? = some c := ⟨cs[i], List.getElem?_eq_getElem hin⟩
      have hme := cAt_map hc
      have h1 := H.out.below (I.out.F.mono (Nat.le_refl _))
      have hw8 := h8 c (List.mem_of_getElem? hc)
      obtain ⟨b, off, rfl, c0, c1, c2, c3, c4, c5, c6, c7, c8⟩ := h1.rc.cells hc
      have hov := HL.out.over i (by simpa using hin)
      have hov' : (sAt ss i).over = -1 ∨ (0 ≤ (sAt ss i).over ∧ (sAt ss i).over < i) := by omega
      have hfi := HB.out.1 i (by omega)
      have hge := sumTo_ge f (i + 1) HB.out.1
      have hfb := hge.2 i (by omega)
      have hsb := HB.out.2
      have fd : Below wr.heap.size wr wr.drew := Below.drewN' (Below.refl _ wr) 1
      have ID := hide (I.out.below fd)
      have TD := hide (h1.below fd)
      have OW := hide (own_any c wr.drew)
      have hcn : Hid (∀ r, cnStep (cs.map Cel.pure) ss f i = r → countedP (cs.map Cel.pure) ss = match r with | none => false | some f' => cnN (cs.map Cel.pure) ss i f') := by
        rintro r rfl
        rw [HP.out]; rfl
      have HC := hide hc
      clear c0 c1 c2 c3 c4 c5 c6 c7 c8 h1 fd
      obtain ⟨b', off', hb2, c0, c1, c2, c3, c4, c5, c6, c7, c8⟩ := TD.out.rc.cells hc
      cases hb2
      have x0 := ID.out.X.cell 0
      simp only [List.getElem?_cons_zero, List.getElem?_cons_succ] at x0
      have l0 := ID.out.L.cell hin
      clear hc
      go_wp2_with fail
      go_region_law (first
        | (go_simp; go_at_call 54; refine OW.out.mono ?_; rintro e w3 ⟨rfl, f3⟩
           have I3 := hide (ID.out.below f3)
           have T3 := hide (TD.out.below f3)
           have l1 := I3.out.L.cell hin
           have z1 := Blk.frozen I3.out.L i
           clear f3))
      all_goals
        have hxw : IntKind.i64.wrap (f i + ownK c.pure) = f i + ownK c.pure := by rw [IntKind.wrap_i64]; omega
        rw [hxw]
        have I4 := hide (I3.out.set i (f i + ownK c.pure) hin)
        have hst : Hid (∀ r, (if f i + ownK c.pure ≠ c.count then none else if (sAt ss i).over = -1 then some (updI f i (f i + ownK c.pure)) else some (updI (updI f i (f i + ownK c.pure)) (sAt ss i).over.toNat (f (sAt ss i).over.toNat + (f i + ownK c.pure)))) = r → cnStep (cs.map Cel.pure) ss f i = r) := by
          rintro r rfl
          unfold cnStep
          rw [hme]; rfl
        have hxb : 0 ≤ f i + ownK c.pure ∧ f i + ownK c.pure ≤ 1000000 := by omega
        clear c0 c1 c2 c3 c4 c5 c6 c7 c8 x0 l0 l1 z1 I3 T3 ID TD OW hxw
        have hupd : updI f i (f i + ownK c.pure) i = f i + ownK c.pure := by unfold updI; rw [if_pos rfl]
        generalize hx : f i + ownK c.pure = x at *
        generalize World.setCell _ _ _ = w4 at I4 ⊢
        have T4 := hide (H.out.below (I4.out.F.mono (Nat.le_refl _)))
        have l4 := I4.out.L.cell hin
        rw [hupd] at l4
        obtain ⟨b', off', hb2, -, -, c2, -⟩ := T4.out.rc.cells HC.out
        cases hb2
        have x0 := I4.out.X.cell 0
        have x1 := I4.out.X.cell 1
        simp only [List.getElem?_cons_zero, List.getElem?_cons_succ] at x0 x1
        obtain ⟨s0, -, -, -⟩ := T4.out.sp.cells (i := i) (by omega)
        by_cases hcx : x = c.count
        · have hcx' : (x != c.count) = false := by simp [hcx]
          by_cases hom : (sAt ss i).over = -1
          · have hstp := hst.out (some (updI f i x)) (by rw [if_neg (by simp [hcx]), if_pos hom])
            have hinv := cn_inv (n := cs.length) hstp hov' (by rw [hme]; exact hw8) hin HB.out.1 HB.out.2
            have hcn2 := hide (hcn.out _ hstp)
            have HINV := hide hinv
            have hom' : ((sAt ss i).over != -1) = false := by simp [hom]
            generalize (sAt ss i).over = ov at *
            clear hstp hinv
            go_wp2_with fail
            go_quiet (fail)
            go_wp2_with fail
            go_roundw
            case rel => exact ⟨i, updI f i x, by go_num, by omega, hcn2.out, HINV.out, I4.out.below (Below.drewN' (Below.refl _ _) _)⟩
            case measure => simp [intOf]
          · have hov2 := hov'.resolve_left hom
            obtain ⟨o, ho⟩ : ∃ o : Nat, (sAt ss i).over = o := ⟨(sAt ss i).over.toNat, by omega⟩
            have hoi : o < i := by omega
            have hon : o < cs.length := by omega
            have hstp := hst.out (some (updI (updI f i x) o (f o + x))) (by rw [if_neg (by simp [hcx]), if_neg hom, ho, Int.toNat_natCast])
            have hinv := cn_inv (n := cs.length) hstp hov' (by rw [hme]; exact hw8) hin HB.out.1 HB.out.2
            have hcn2 := hide (hcn.out _ hstp)
            have HINV := hide hinv
            have hom' : ((o : Int) != -1) = true := by simp
            have hfo := HB.out.1 o (by omega)
            have hfo2 := hge.2 o (by omega)
            have hupo : updI f i x o = f o := by unfold updI; rw [if_neg (by omega)]
            rw [ho] at s0
            have l5 := I4.out.L.cell (j := o) hon
            have z5 := Blk.frozen I4.out.L o
            rw [hupo] at l5
            clear hstp hinv
            subst hcx
            go_wp2_with fail
            go_quiet (fail)
            go_wp2_with fail
            have I5 := hide (I4.out.below (Below.drewN' (Below.refl _ w4) nq))
            have I6 := hide (I5.out.below (Below.drewN' (Below.refl _ _) 1))
            have l6 := I6.out.L.cell (j := o) hon
            have l7 := I6.out.L.cell hin
            have z6 := Blk.frozen I6.out.L o
            rw [hupo] at l6
            rw [hupd] at l7
            have hsw : IntKind.i64.wrap (f o + c.count) = f o + c.count := by rw [IntKind.wrap_i64]; omega
            have I7 := hide (I6.out.set o (f o + c.count) hon)
            go_region_law (fail)
            all_goals
              go_wp2_with fail
              go_roundw
              case rel => exact ⟨i, updI (updI f i c.count) o (f o + c.count), by go_num, by omega, hcn2.out, HINV.out, I7.out⟩
              case measure => simp [intOf]
        · have hcx' : (x != c.count) = true := by simpa using hcx
          have hbad := hcn.out none (hst.out none (by rw [if_pos hcx]))
          have HBAD := hide hbad
          clear hbad
          go_wp2_with fail
          go_quiet (fail)
          go_wp2_with fail
          go_ret
          exact ⟨ret_bool (by rw [HBAD.out]), Below.drewN' I4.out.F _⟩
end Go.Proofs.Ytnedcoomldmhhaa
