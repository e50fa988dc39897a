/- shape's looks at a tree laid out: parted, goesOn. -/
import Derived.Test.YtnedcoomldmhhaaLay11
namespace Go.Proofs.Ytnedcoomldmhhaa
set_option maxRecDepth 20000
open Go.RowKit Go.Sort
set_option linter.unusedVariables false
set_option linter.unusedSimpArgs false

def partedP (xs ys : List Int) (at_ : Int) : Bool := differK xs ys = at_ ∧ bitK ys at_ = 1
set_option maxHeartbeats 1600000 in
theorem parted_any (a b : Option Addr) (xs ys : List Int) (ca cb : Nat) (at_ : Int) (w : World) (ha : Rd w a xs) (hb : Rd w b ys) (hs : xs.length ≤ 1000000) (hi : I64 at_) :
    Calls Try.prog 74 #[.slice a xs.length ca, .slice b ys.length cb, .int .i64 at_] w fun e w' => e = .returned (.bool (partedP xs ys at_)) ∧ ∃ n, w' = w.drewN n := by
  have D := hide (differ_any a b xs ys ca cb w ha hb hs)
  have B : Hid (∀ n, Calls Try.prog 83 #[.slice b ys.length cb, .int .i64 at_] (w.drewN n) fun e w' => e = .returned (.int .i64 (bitK ys at_)) ∧ w' = w.drewN n) := fun n => bit_any b ys cb at_ (w.drewN n) (hb.drewN n) hi.2 hi.1
  have hp : Hid (partedP xs ys at_ = (decide (differK xs ys = at_) && decide (bitK ys at_ = 1))) := by
    show _ = _
    unfold partedP
    rw [Bool.eq_iff_iff]; simp
  clear ha hb
  generalize partedP xs ys at_ = z at *
  generalize differK xs ys = d at *
  generalize bitK ys at_ = bb at *
  go_enter Try.func74, Try.ntmps74
  go_wp2_with fail
  refine D.out.mono ?_
  rintro e w1 ⟨rfl, n, rfl⟩
  by_cases h : d = at_
  · have h' : (d == at_) = true := by simpa using h
    go_wp2_with fail
    refine (B.out n).mono ?_
    rintro e w2 ⟨rfl, rfl⟩
    go_wp2_with fail
    go_ret
    exact ⟨ret_bool (by rw [hp.out, decide_eq_true h]; rw [Bool.eq_iff_iff]; simp), n, rfl⟩
  · have h' : (d == at_) = false := by simpa using h
    go_wp2_with fail
    go_ret
    exact ⟨ret_bool (by rw [hp.out, decide_eq_false h]; rfl), n, rfl⟩

theorem two_boxes (w : World) (t1 t2 : TypeId) (v1 v2 : List Value) (a1 a2 : Array Value) (h1 : a1 = v1.toArray) (h2 : a2 = v2.toArray) : Below w.heap.size w ((w.alloc (.cells a1 t1 (0, 0))).alloc (.cells a2 t2 (0, 0))) ∧ Blk ((w.alloc (.cells a1 t1 (0, 0))).alloc (.cells a2 t2 (0, 0))) w.heap.size t1 v1 ∧ Blk ((w.alloc (.cells a1 t1 (0, 0))).alloc (.cells a2 t2 (0, 0))) (w.heap.size + 1) t2 v2 := by
  subst h1 h2
  refine ⟨((Below.refl _ _).alloc (Nat.le_refl _) _).alloc (by simp) _, (Blk.new w _ _ _ rfl).alloc _, ?_⟩
  have := Blk.new (w.alloc (.cells v1.toArray t1 (0, 0))) t2 v2 _ rfl
  rwa [show (w.alloc (.cells v1.toArray t1 (0, 0))).heap.size = w.heap.size + 1 by simp] at this
/-- A tree that came in: cells and spots. -/
structure Tre (w : World) (a : Option Addr) (cs : List Cel) (g : Nat) (ss : List Sp) : Prop where
  rc : Rc w a cs
  sp : Sps w g ss
  ln : ss.length = cs.length
theorem Tre.below {w w' : World} {a : Option Addr} {cs : List Cel} {g : Nat} {ss : List Sp} (h : Tre w a cs g ss) (f : Below w.heap.size w w') : Tre w' a cs g ss := ⟨h.rc.below f (Nat.le_refl _), Blk.below h.sp f (Blk.lt h.sp), h.ln⟩
def byteAt (xs : List Int) (i : Nat) : Int := xs.getD i 0
/-- Does a key go on from the one above, behind the child before? -/
def goesP (cs : List PC) (ss : List Sp) (i : Nat) : Bool :=
  if (sAt ss i).over = -1 then true
  else
    let k := (cAt cs i).key
    let up := (cAt cs (sAt ss i).over.toNat).key
    if k.length ≤ up.length ∨ ¬ common k up = up.length then false
    else (sAt ss i).before = -1 ∨ byteAt (cAt cs (sAt ss i).before.toNat).key up.length < byteAt k up.length
set_option maxHeartbeats 1600000 in
theorem goesOn_any (a : Option Addr) (cs : List Cel) (g : Nat) (ss : List Sp) (k m : Nat) (i : Nat) (w : World) (h : Tre w a cs g ss) (hi : i < cs.length)
    (ho : (sAt ss i).over = -1 ∨ (0 ≤ (sAt ss i).over ∧ (sAt ss i).over < i)) (hb : (sAt ss i).over = -1 ∨ (sAt ss i).before = -1 ∨ ((0 ≤ (sAt ss i).before ∧ (sAt ss i).before < i) ∧ (cAt (cs.map Cel.pure) (sAt ss i).over.toNat).key.length < (cAt (cs.map Cel.pure) (sAt ss i).before.toNat).key.length)) :
    Calls Try.prog 78 #[.agg #[.slice a cs.length k, .slice (some ⟨g, 0, none⟩) cs.length m], .int .i64 i] w fun e w' => e = .returned (.bool (goesP (cs.map Cel.pure) ss i)) ∧ Below w.heap.size w w' := by
  have hn := h.rc.1
  have hg := Blk.lt h.sp
  have hln := h.ln
  obtain ⟨s0, s1, s2, s3⟩ := h.sp.cells (i := i) (by omega)
  have hgw1 : g < w.heap.size + 1 := by omega
  by_cases h1 : (sAt ss i).over = -1
  · have HG : Hid (goesP (cs.map Cel.pure) ss i = true) := by show _ = _; unfold goesP; rw [if_pos h1]
    generalize sAt ss i = s at *
    generalize goesP (cs.map Cel.pure) ss i = z at *
    have h1' : (s.over == -1) = true := by simpa using h1
    go_enter Try.func78, Try.ntmps78
    go_wp2_with fail
    go_ret
    exact ⟨ret_bool HG.out.symm, ((Below.refl _ _).alloc (Nat.le_refl _) _).alloc (by simp) _⟩
  · have ho' : 0 ≤ (sAt ss i).over ∧ (sAt ss i).over < i := by omega
    have hb' := hb.resolve_left h1
    have HG : Hid (goesP (cs.map Cel.pure) ss i = if (cAt (cs.map Cel.pure) i).key.length ≤ (cAt (cs.map Cel.pure) (sAt ss i).over.toNat).key.length ∨ ¬ common (cAt (cs.map Cel.pure) i).key (cAt (cs.map Cel.pure) (sAt ss i).over.toNat).key = (cAt (cs.map Cel.pure) (sAt ss i).over.toNat).key.length then false
      else decide ((sAt ss i).before = -1 ∨ byteAt (cAt (cs.map Cel.pure) (sAt ss i).before.toNat).key (cAt (cs.map Cel.pure) (sAt ss i).over.toNat).key.length < byteAt (cAt (cs.map Cel.pure) i).key (cAt (cs.map Cel.pure) (sAt ss i).over.toNat).key.length)) := by show _ = _; unfold goesP; rw [if_neg h1]
    generalize sAt ss i = s at *
    generalize goesP (cs.map Cel.pure) ss i = z at *
    have h1' : (s.over == -1) = false := by simpa using h1
    obtain ⟨o, hoo⟩ : ∃ o : Nat, s.over = o := ⟨s.over.toNat, by omega⟩
    rw [hoo, Int.toNat_natCast] at hb'
    simp only [hoo, Int.toNat_natCast] at HG
    rw [hoo] at s0 ho' h1'
    have hon : o < cs.length := by omega
    obtain ⟨c, hc⟩ : ∃ c, cs[i]? = some c := ⟨cs[i], List.getElem?_eq_getElem hi⟩
    obtain ⟨co, hco⟩ : ∃ co, cs[o]? = some co := ⟨cs[o], List.getElem?_eq_getElem hon⟩
    rw [cAt_map hco] at hb' HG
    rw [cAt_map hc] at HG
    have hkc := (h.rc.2.1 c (List.mem_of_getElem? hc)).2.2.2.2.2.2.1
    have hkco := (h.rc.2.1 co (List.mem_of_getElem? hco)).2.2.2.2.2.2.1
    obtain ⟨b, off, rfl, -, -, -, -, -, -, -, c7, -⟩ := h.rc.cells hc
    obtain ⟨b', off', hb2, -, -, -, -, -, -, -, o7, -⟩ := h.rc.cells hco
    cases hb2
    have hbw : b < w.heap.size := World.block_lt_of_cell? w _ c7
    have hbw1 : b < w.heap.size + 1 := by omega
    have BG : Hid (∀ w', Below w.heap.size w w' → Calls Try.prog 84 #[.slice c.ka c.key.length c.kc, .slice co.ka co.key.length co.kc] w' fun e w'' => e = .returned (.bool ((common c.key co.key : Int) == (co.key.length : Int))) ∧ ∃ n, w'' = w'.drewN n) := fun w' f =>
      begins_any c.ka co.ka c.key co.key c.kc co.kc w' (hkc.below f (Nat.le_refl _)) (hkco.below f (Nat.le_refl _))
    have hlc := hkc.2.1
    have hlo := hkco.2.1
    unfold maxLen at hlc hlo
    have T := hide h
    have f2 : Hid (∀ x y, Below w.heap.size w ((w.alloc x).alloc y)) := fun x y => ((Below.refl _ _).alloc (Nat.le_refl _) _).alloc (by simp) _
    simp only [show ∀ c : Cel, c.pure.key = c.key from fun _ => rfl] at *
    clear hb ho
    obtain ⟨F, XT, XS⟩ := two_boxes w 61 67 [.slice (some ⟨b, off, none⟩) cs.length k, .slice (some ⟨g, 0, none⟩) cs.length m] [.int .i64 o, .int .i64 s.nth, .int .i64 s.before, .int .i64 s.deep] _ _ rfl rfl
    have F' := hide F
    have XT' := hide XT
    have XS' := hide XS
    clear F XT XS
    have BN : ∀ b : Int, s.before = b → s.before = b := fun _ h => h
    go_enter Try.func78, Try.ntmps78
    go_wp2_with fail
    generalize World.alloc _ _ = w2 at F' XT' XS' ⊢
    have h2 := h.below F'.out
    clear c7 o7 s0 s1 s2 s3
    obtain ⟨b', off', hb2, -, -, -, -, -, -, -, c7, -⟩ := h2.rc.cells hc
    cases hb2
    obtain ⟨b', off', hb2, -, -, -, -, -, -, -, o7, -⟩ := h2.rc.cells hco
    cases hb2
    have t0 := XT'.out.cell 0
    have s0 := XS'.out.cell 0
    have s2 := XS'.out.cell 2
    simp only [List.getElem?_cons_zero, List.getElem?_cons_succ] at t0 s0 s2
    have HC := hide hc
    have HCO := hide hco
    clear hc hco h
    by_cases hA : c.key.length ≤ co.key.length
    · have hA' : (c.key.length : Int) ≤ (co.key.length : Int) := by omega
      rw [if_pos (.inl hA)] at HG
      go_quiet (fail)
      go_wp2
      go_ret
      exact ⟨ret_bool HG.out.symm, Below.drewN' F'.out _⟩
    have hA' : ¬ (c.key.length : Int) ≤ (co.key.length : Int) := by omega
    by_cases hB : common c.key co.key = co.key.length
    · rw [if_neg (by simp [hA, hB])] at HG
      have hB' : ((common c.key co.key : Int) == (co.key.length : Int)) = true := by simp [hB]
      rw [hB'] at BG
      go_quiet (fail)
      go_wp2_with fail
      refine (BG.out _ (Below.drewN' F'.out _)).mono ?_
      rintro e w3 ⟨rfl, n, rfl⟩
      rcases hb' with hbm | ⟨hbr, hbl⟩
      · have hbm' : (s.before == -1) = true := by simpa using hbm
        go_wp2_with fail
        go_quiet (fail)
        go_wp2
        go_ret
        exact ⟨ret_bool (by rw [HG.out]; simp [hbm]), Below.drewN' (Below.drewN' F'.out _) _⟩
      · obtain ⟨bf, hbf⟩ : ∃ bf : Nat, s.before = bf := ⟨s.before.toNat, by omega⟩
        rw [hbf] at hbr s2
        rw [hbf, Int.toNat_natCast] at hbl HG
        have hbn : bf < cs.length := by omega
        obtain ⟨cb, hcb⟩ : ∃ cb, cs[bf]? = some cb := ⟨cs[bf], List.getElem?_eq_getElem hbn⟩
        rw [cAt_map hcb] at hbl HG
        simp only [show ∀ c : Cel, c.pure.key = c.key from fun _ => rfl] at hbl HG
        have hkcb := (h2.rc.2.1 cb (List.mem_of_getElem? hcb)).2.2.2.2.2.2.1
        have hkc2 := hkc.below F'.out (Nat.le_refl _)
        obtain ⟨b', off', hb2, -, -, -, -, -, -, -, b7, -⟩ := h2.rc.cells hcb
        cases hb2
        have hlb := hkcb.2.1
        unfold maxLen at hlb
        obtain ⟨kb, ko, hka, hkb⟩ : ∃ kb ko, cb.ka = some ⟨kb, ko, none⟩ ∧ ∀ i, i < cb.key.length → w2.cell? ⟨kb, ko + i, none⟩ = some (.int .u8 (cb.key.getD i 0)) := by
          rcases hkcb.2.2 with h0 | h0
          · rw [h0] at hbl; simp at hbl
          · exact h0
        obtain ⟨kc, ko2, hkac, hkcc⟩ : ∃ kb ko, c.ka = some ⟨kb, ko, none⟩ ∧ ∀ i, i < c.key.length → w2.cell? ⟨kb, ko + i, none⟩ = some (.int .u8 (c.key.getD i 0)) := by
          rcases hkc2.2.2 with h0 | h0
          · rw [h0] at hA; simp at hA
          · exact h0
        have y0 := hkb co.key.length hbl
        have y1 := hkcc co.key.length (by omega)
        have r0 := hkcb.1.getD co.key.length
        have r1 := hkc2.1.getD co.key.length
        have hbm' : ((bf : Int) == -1) = false := by rw [beq_eq_false_iff_ne]; omega
        rw [hka] at b7
        rw [hkac] at c7 ⊢
        unfold byteAt at HG
        generalize cb.key.getD co.key.length 0 = yb at *
        generalize c.key.getD co.key.length 0 = yc at *
        have hcl : co.key.length < c.key.length := by omega
        clear hkcb hkc2 hkb hkcc
        go_wp2_with fail
        go_quiet (fail)
        go_wp2
        go_ret
        exact ⟨ret_bool (by rw [HG.out]; have : ¬ (bf : Int) = -1 := by omega
                            simp [this]), Below.drewN' (Below.drewN' F'.out _) _⟩
    · rw [if_pos (.inr hB)] at HG
      have hB' : ((common c.key co.key : Int) == (co.key.length : Int)) = false := by
        rw [beq_eq_false_iff_ne]; omega
      rw [hB'] at BG
      go_quiet (fail)
      go_wp2_with fail
      refine (BG.out _ (Below.drewN' F'.out _)).mono ?_
      rintro e w3 ⟨rfl, n, rfl⟩
      go_wp2_with fail
      go_ret
      exact ⟨ret_bool HG.out.symm, Below.drewN' F'.out _⟩
end Go.Proofs.Ytnedcoomldmhhaa
