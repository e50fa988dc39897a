/- shape.spells. -/
import Derived.Test.YtnedcoomldmhhaaTr16
import Derived.Deep.RegionHeld3
namespace Go.Proofs.Ytnedcoomldmhhaa
set_option maxRecDepth 20000
open Go.RowKit Go.Sort
set_option linter.unusedVariables false
set_option linter.unusedSimpArgs false

def rm0 : Rm := ⟨0, 0, 0⟩
theorem Rm.vals_length (r : Rm) : r.vals.length = 3 := rfl
theorem info_room' : (Try.prog.info? 98).map (fun i => (i.zero, i.size, i.bytes)) = some (some (.agg #[.int .i64 0, .int .i64 0, .int .i64 0]), 3, 24) := by kernel_rfl
theorem info_room : ∃ i, Try.prog.info? 98 = some i ∧ i.zero = some (.agg #[.int .i64 0, .int .i64 0, .int .i64 0]) ∧ i.size = 3 ∧ i.bytes = 24 := info_of info_room'
theorem made_rooms (n : Nat) : (madeCells #[.int .i64 0, .int .i64 0, .int .i64 0] (n * 3)).toList = (List.replicate n rm0).flatMap Rm.vals := by
  apply List.ext_getElem?
  intro j
  by_cases hj : j < n * 3
  · have h2 := flatG Rm.vals 3 (List.replicate n rm0) (fun a _ => rfl) (j / 3) (j % 3) (by omega)
    rw [show j / 3 * 3 + j % 3 = j by omega] at h2
    rw [h2, List.getElem?_replicate, if_pos (by omega)]
    have h3 : j % 3 = 0 ∨ j % 3 = 1 ∨ j % 3 = 2 := by omega
    rcases h3 with h3 | h3 | h3 <;> simp [madeCells, hj, h3, rm0, Rm.vals]
  · rw [List.getElem?_eq_none (by simp [madeCells]; omega), List.getElem?_eq_none (by rw [flatL Rm.vals 3 _ (fun a _ => rfl)]; simp; omega)]
def Rms (w : World) (g : Nat) (rs : List Rm) : Prop := Blk w g 98 (rs.flatMap Rm.vals)
theorem make_rooms (w : World) (kl kc : IntKind) (l c : Int) (n : Nat) (hl : l = n) (hc : c = n) (hb : n ≤ 100000000) :
    ∃ w', (Instr.makeSlice 96 (.int kl l) (.int kc c)).run Try.prog w = .ok (.slice (some ⟨w.heap.size, 0, none⟩) n n) w' ∧
      Rms w' w.heap.size (List.replicate n rm0) ∧ Below w.heap.size w w' ∧ w'.heap.size = w.heap.size + 1 := by
  obtain ⟨i, h1, h2, h3, h4⟩ := info_room
  subst hl hc
  have hr := run_make (P := Try.prog) w 96 98 i _ Try.underlying96 h1 h2 kl kc n n (by omega) (by omega) (by rw [h4]; omega) (by omega)
  simp only [Int.toNat_natCast, h3] at hr
  refine ⟨_, hr, ?_, (Below.refl _ _).alloc (Nat.le_refl _) _, by simp⟩
  unfold Rms Blk
  rw [heap_alloc_new]
  have := made_rooms n
  rw [← this]
  rfl
theorem set3 (ss : List Rm) (i : Nat) (s : Rm) (h : i < ss.length) :
    (((ss.flatMap Rm.vals).set (i * 3) (.int .i64 s.at_)).set (i * 3 + 1) (.int .i64 s.above)).set (i * 3 + 2) (.int .i64 s.below) = (ss.set i s).flatMap Rm.vals := by
  have l4 : ∀ ss : List Rm, (ss.flatMap Rm.vals).length = ss.length * 3 := fun ss => flatL Rm.vals 3 ss (fun a _ => rfl)
  refine List.ext_getElem? fun p => ?_
  have e : p = p / 3 * 3 + p % 3 := by omega
  have hm : p % 3 < 3 := by omega
  generalize hq : p / 3 = q at *
  generalize hr : p % 3 = r at *
  subst e
  rw [flatG Rm.vals 3 _ (fun a _ => rfl) q r hm]
  simp only [List.getElem?_set, List.length_set, l4]
  by_cases hqi : i = q
  · subst hqi
    rw [flatG Rm.vals 3 _ (fun a _ => rfl) i r hm]
    have hr4 : r = 0 ∨ r = 1 ∨ r = 2 := by omega
    rcases hr4 with rfl | rfl | rfl
    · first | (simp [Rm.vals, h]; done) | (simp [Rm.vals, h]; omega)
    · first | (simp [Rm.vals, h]; done) | (simp [Rm.vals, h]; omega)
    · first | (simp [Rm.vals, h]; done) | (simp [Rm.vals, h]; omega)
  · rw [flatG Rm.vals 3 _ (fun a _ => rfl) q r hm]
    rw [if_neg (by omega), if_neg (by omega), if_neg (by omega)]
    simp [hqi]
def rAt (rs : List Rm) (i : Nat) : Rm := rs.getD i rm0
theorem Rms.cells {w : World} {g : Nat} {rs : List Rm} (h : Rms w g rs) {i : Nat} (hi : i < rs.length) :
    w.cell? ⟨g, i * 3, none⟩ = some (.int .i64 (rAt rs i).at_) ∧ w.cell? ⟨g, i * 3 + 1, none⟩ = some (.int .i64 (rAt rs i).above) ∧ w.cell? ⟨g, i * 3 + 2, none⟩ = some (.int .i64 (rAt rs i).below) := by
  have hs : rs[i]? = some (rAt rs i) := by simp [rAt, List.getD_eq_getElem?_getD, List.getElem?_eq_getElem hi]
  have k : ∀ j, j < 3 → w.cell? ⟨g, i * 3 + j, none⟩ = (rAt rs i).vals[j]? := fun j hj => (Blk.cell h (i * 3 + j)).trans (by rw [flatG Rm.vals 3 rs (fun a _ => rfl) i j hj, hs]; rfl)
  exact ⟨k 0 (by omega), k 1 (by omega), k 2 (by omega)⟩
theorem Rms.put {w : World} {g : Nat} {rs : List Rm} (h : Rms w g rs) (i : Nat) (s : Rm) (hi : i < rs.length) :
    Rms (((w.setCell ⟨g, i * 3, none⟩ (.int .i64 s.at_)).setCell ⟨g, i * 3 + 1, none⟩ (.int .i64 s.above)).setCell ⟨g, i * 3 + 2, none⟩ (.int .i64 s.below)) g (rs.set i s) := by
  unfold Rms at *
  rw [← set3 rs i s hi]
  exact ((h.set _ _).set _ _).set _ _
/-- The rooms of the cells ahead; none where one does not fit. -/
def roomOf (cs : List PC) (ss : List Sp) (rs : List Rm) (i : Nat) : Rm :=
  if (sAt ss i).over = -1 then wideR 0 else leftR (cAt cs (sAt ss i).over.toNat) (rAt rs (sAt ss i).over.toNat) (wayP (cAt cs (sAt ss i).over.toNat).kids (sAt ss i).nth)
def spStep (cs : List PC) (ss : List Sp) (rs : List Rm) (i : Nat) : Option (List Rm) :=
  if (cAt cs i).kind = 3 then (if 0 < i then none else some (rs ++ [rm0]))
  else if fitsR (cAt cs i) (roomOf cs ss rs i) = false then none else some (rs ++ [roomOf cs ss rs i])
def spN (cs : List PC) (ss : List Sp) : Nat → Option (List Rm)
  | 0 => some []
  | k + 1 => (spN cs ss k).bind fun rs => spStep cs ss rs k
def spellsP (cs : List PC) (ss : List Sp) : Bool := (spN cs ss cs.length).isSome
theorem spN_none {cs : List PC} {ss : List Sp} {k : Nat} (h : spN cs ss k = none) : ∀ m, k ≤ m → spN cs ss m = none := by
  intro m hm
  induction m with
  | zero => obtain rfl : k = 0 := by omega
            exact h
  | succ m ih =>
    by_cases hk : k = m + 1
    · rw [← hk]; exact h
    · simp only [spN, ih (by omega), Option.bind_none]
theorem spN_len {cs : List PC} {ss : List Sp} : ∀ {k : Nat} {rs : List Rm}, spN cs ss k = some rs → rs.length = k
  | 0, rs, h => by simp [spN] at h; subst h; rfl
  | k + 1, rs, h => by
    simp only [spN] at h
    cases h1 : spN cs ss k with
    | none => rw [h1] at h; simp at h
    | some q =>
      rw [h1] at h
      have ih := spN_len h1
      simp only [Option.bind_some, spStep] at h
      repeat' split at h
      all_goals first | (simp at h; done) | (simp at h; subst h; simp [ih])
theorem spN_at {cs : List PC} {ss : List Sp} : ∀ {k : Nat} {rs : List Rm}, spN cs ss k = some rs → ∀ j, j < k → (cAt cs j).kind ≠ 3 → (cAt cs j).at_ < 65535
  | 0, rs, h, j, hj, _ => by omega
  | k + 1, rs, h, j, hj, hk => by
    simp only [spN] at h
    cases h1 : spN cs ss k with
    | none => rw [h1] at h; simp at h
    | some q =>
      by_cases hjk : j < k
      · exact spN_at h1 j hjk hk
      · obtain rfl : j = k := by omega
        rw [h1] at h
        simp only [Option.bind_some, spStep] at h
        rw [if_neg hk] at h
        split at h
        · simp at h
        · rename_i hf
          have hf' : fitsR (cAt cs j) (roomOf cs ss q j) = true := by simpa using hf
          unfold fitsR at hf'
          rw [decide_eq_true_eq] at hf'
          exact hf'.2.1
/-- A round of spells: what lies where. -/
structure SpI (w wr : World) (a : Option Addr) (n k m g : Nat) (rs : List Rm) : Prop where
  F : Below w.heap.size w wr
  X : Blk wr w.heap.size 61 [.slice a n k, .slice (some ⟨g, 0, none⟩) n m]
  R : Rms wr (w.heap.size + 1) rs
theorem SpI.below {w wr w' : World} {a : Option Addr} {n k m g : Nat} {rs : List Rm} (h : SpI w wr a n k m g rs) (f : Below wr.heap.size wr w') : SpI w w' a n k m g rs :=
  ⟨h.F.trans (f.mono h.F.size), h.X.below f h.X.lt, Blk.below h.R f (Blk.lt h.R)⟩
theorem SpI.put {w wr : World} {a : Option Addr} {n k m g : Nat} {rs : List Rm} (h : SpI w wr a n k m g rs) (i : Nat) (s : Rm) (hi : i < rs.length) :
    SpI w (((wr.setCell ⟨w.heap.size + 1, i * 3, none⟩ (.int .i64 s.at_)).setCell ⟨w.heap.size + 1, i * 3 + 1, none⟩ (.int .i64 s.above)).setCell ⟨w.heap.size + 1, i * 3 + 2, none⟩ (.int .i64 s.below)) a n k m g (rs.set i s) :=
  ⟨((h.F.setCell (by show _ ≤ w.heap.size + 1; omega) _).setCell (by show _ ≤ w.heap.size + 1; omega) _).setCell (by show _ ≤ w.heap.size + 1; omega) _, ((h.X.other (by omega)).other (by omega)).other (by omega), h.R.put i s hi⟩
theorem set_next3 (ss : List Rm) (n i : Nat) (u : Rm) (h1 : ss.length = i) (h2 : i < n) : (ss ++ List.replicate (n - i) rm0).set i u = (ss ++ [u]) ++ List.replicate (n - (i + 1)) rm0 := by
  rw [show n - i = (n - (i + 1)) + 1 by omega, List.replicate_succ, List.set_append_right _ _ (by omega), h1, Nat.sub_self]
  simp
set_option maxHeartbeats 3200000 in
theorem spells_any (a : Option Addr) (cs : List Cel) (g : Nat) (ss : List Sp) (k m : Nat) (w : World) (h : Tre w a cs g ss) (L : Lok (cs.map Cel.pure) ss) (h4 : ∀ c ∈ cs, (c.kind = 3 ∧ c.kids = 0) ∨ (c.kind = 4 ∧ 0 ≤ c.kids ∧ c.kids ≤ 7)) :
    Calls Try.prog 68 #[.agg #[.slice a cs.length k, .slice (some ⟨g, 0, none⟩) cs.length m]] w fun e w' => e = .returned (.bool (spellsP (cs.map Cel.pure) ss)) ∧ Below w.heap.size w w' := by
  have hn := h.rc.1
  have hln := h.ln
  have H := hide h
  have HL := hide L
  have x0 := Blk.new w 61 [.slice a cs.length k, .slice (some ⟨g, 0, none⟩) cs.length m] _ rfl
  have f0 := (Below.refl w.heap.size w).alloc (Nat.le_refl _) (.cells #[.slice a cs.length k, .slice (some ⟨g, 0, none⟩) cs.length m] 61 (0, 0))
  obtain ⟨w1, r1, b1, f1, s1⟩ := make_rooms (w.alloc (.cells #[.slice a cs.length k, .slice (some ⟨g, 0, none⟩) cs.length m] 61 (0, 0))) .i64 .i64 cs.length cs.length cs.length rfl rfl (by omega)
  have hs0 : (w.alloc (.cells #[.slice a cs.length k, .slice (some ⟨g, 0, none⟩) cs.length m] 61 (0, 0))).heap.size = w.heap.size + 1 := by simp
  have X1 := hide (x0.below f1 (by omega))
  have F1 := hide (f0.trans (f1.mono (by omega)))
  rw [hs0] at r1 b1
  have x1 := X1.out.cell 0
  have B1 := hide b1
  simp only [List.getElem?_cons_zero, List.getElem?_cons_succ] at x1
  clear h L b1 f1 x0 f0
  go_enter Try.func68, Try.ntmps68
  go_wp2_with fail
  have hI : Hid (SpI w w1 a cs.length k m g (List.replicate cs.length rm0)) := ⟨F1.out, X1.out, B1.out⟩
  clear X1 F1 B1 x1
  go_loopw [14] (fun vi wr => ∃ (i : Nat) (rs : List Rm), vi = .int .i64 i ∧ i ≤ cs.length ∧ Hid (spN (cs.map Cel.pure) ss i = some rs) ∧ Hid (SpI w wr a cs.length k m g (rs ++ List.replicate (cs.length - i) rm0))) (fun vi _ => (cs.length - intOf vi).toNat)
  case atStart => exact ⟨0, [], rfl, by omega, rfl, hI.out⟩
  case round =>
    clear hI r1 s1 hs0
    obtain ⟨i, rs, rfl, hi, HN, I⟩ := hrel
    have hrl := spN_len HN.out
    by_cases hin : i < cs.length
    · obtain ⟨c, hc⟩ : ∃ c, cs[i]? = some c := ⟨cs[i], List.getElem?_eq_getElem hin⟩
      have h1 := H.out.below (I.out.F.mono (Nat.le_refl _))
      have hbt := (h1.rc.2.1 c (List.mem_of_getElem? hc)).2.2.2.2.1
      obtain ⟨b, off, rfl, c0, c1, c2, c3, c4, c5, c6, c7, c8⟩ := h1.rc.cells hc
      have hme := cAt_map hc
      have f1 : Below wr.heap.size wr (wr.alloc (.cells c.fields.toArray 40 (0, 0))) := (Below.refl _ wr).alloc (Nat.le_refl _) _
      have I2 := hide (I.out.below f1)
      have CB := hide (Blk.new wr 40 c.fields _ rfl)
      have T2 := hide (h1.below f1)
      have hmem := h4 c (List.mem_of_getElem? hc)
      simp only [Cel.fields] at I2 CB T2
      have hstep : Hid (∀ r, spStep (cs.map Cel.pure) ss rs i = r → spN (cs.map Cel.pure) ss (i + 1) = r) := by
        intro r hr
        simp only [spN, HN.out, Option.bind_some]
        exact hr
      have hfail : Hid (spStep (cs.map Cel.pure) ss rs i = none → spellsP (cs.map Cel.pure) ss = false) := by
        intro hr
        have := spN_none (hstep.out none hr) (cs.map Cel.pure).length (by simp; omega)
        unfold spellsP
        rw [this]; rfl
      have HC := hide hc
      have hql := (Blk.lt I.out.R)
      clear f1 h1 hc
      by_cases hk3 : c.kind = 3
      · have hk3' : (c.kind == 3) = true := by simpa using hk3
        simp only [hk3] at I2 CB T2
        by_cases hi0 : 0 < i
        · have hst : spStep (cs.map Cel.pure) ss rs i = none := by
            unfold spStep
            rw [hme, if_pos (show c.pure.kind = 3 from hk3), if_pos hi0]
          go_wp2_with fail
          go_ret
          exact ⟨ret_bool (hfail.out hst).symm, I2.out.F⟩
        · have hst : spStep (cs.map Cel.pure) ss rs i = some (rs ++ [rm0]) := by
            unfold spStep
            rw [hme, if_pos (show c.pure.kind = 3 from hk3), if_neg hi0]
          go_wp2_with fail
          go_roundw
          case rel => exact ⟨i + 1, rs ++ [rm0], by go_num, by omega, hstep.out _ hst, by
            have := I2.out
            rw [show cs.length - i = (cs.length - (i + 1)) + 1 by omega, List.replicate_succ] at this
            show SpI _ _ _ _ _ _ _ _
            rw [List.append_assoc]
            exact this⟩
          case measure => simp [intOf]; omega
      · have hk3' : (c.kind == 3) = false := by simpa using hk3
        go_wp2_with fail
        generalize World.alloc _ _ = w2 at I2 CB T2 ⊢
        clear c0 c1 c2 c3 c4 c5 c6 c7 c8
        have hiR : i < (rs ++ List.replicate (cs.length - i) rm0).length := by simp; omega
        refine (wide_any 0 w2).mono ?_
        rintro r w3 ⟨rfl, f3⟩
        have I3 := hide (I2.out.below f3)
        have CB3 := hide (CB.out.below f3 CB.out.lt)
        have T3 := hide (T2.out.below f3)
        obtain ⟨d0, d1, d2⟩ := I3.out.R.cells hiR
        have z0 := Blk.frozen I3.out.R (i * 3)
        have z1 := Blk.frozen I3.out.R (i * 3 + 1)
        have z2 := Blk.frozen I3.out.R (i * 3 + 2)
        have x1 := I3.out.X.cell 1
        simp only [List.getElem?_cons_zero, List.getElem?_cons_succ] at x1
        obtain ⟨s0, s1, s2, s3⟩ := T3.out.sp.cells (i := i) (by omega)
        have hgq : ¬ g = w.heap.size + 1 := by
          have := Blk.lt H.out.sp
          omega
        have I4 := hide (I3.out.put i (wideR 0) hiR)
        clear I2 CB T2 f3
        have CB4 : Hid (Blk (((w3.setCell ⟨w.heap.size + 1, i * 3, none⟩ (.int .i64 0)).setCell ⟨w.heap.size + 1, i * 3 + 1, none⟩ (.int .i64 (-1))).setCell ⟨w.heap.size + 1, i * 3 + 2, none⟩ (.int .i64 256)) wr.heap.size 40 c.fields) := ((CB3.out.other (by omega)).other (by omega)).other (by omega)
        have T4 : Hid (Tre (((w3.setCell ⟨w.heap.size + 1, i * 3, none⟩ (.int .i64 0)).setCell ⟨w.heap.size + 1, i * 3 + 1, none⟩ (.int .i64 (-1))).setCell ⟨w.heap.size + 1, i * 3 + 2, none⟩ (.int .i64 256)) (some ⟨b, off, none⟩) cs g ss) := H.out.below I4.out.F
        simp only [wideR] at I4
        clear CB3
        by_cases hom : (sAt ss i).over = -1
        · have hom' : ((sAt ss i).over != -1) = false := by simp [hom]
          have hrm : Hid (roomOf (cs.map Cel.pure) ss rs i = wideR 0) := by show _ = _; unfold roomOf; rw [if_pos hom]
          generalize sAt ss i = sp at *
          obtain ⟨sb, hsb⟩ : ∃ sb : Obj, sb = .cells #[.int .i64 (-1), .int .i64 sp.nth, .int .i64 sp.before, .int .i64 sp.deep] 67 (0, 0) := ⟨_, rfl⟩
          have I5 := hide (I4.out.below ((Below.refl _ _).alloc (Nat.le_refl _) sb))
          have CB5 := hide (CB4.out.alloc sb)
          rw [hsb] at I5 CB5
          clear I4 CB4 T4 hsb
          go_wp2_with fail
          generalize World.alloc _ _ = w5 at I5 CB5 ⊢
          clear d0 d1 d2 z0 z1 z2 x1 s0 s1 s2 s3 I3 T3
          replace I5 : Hid (SpI w w5 (some ⟨b, off, none⟩) cs.length k m g ((rs ++ List.replicate (cs.length - i) rm0).set i (wideR 0))) := I5.out
          obtain ⟨c0, c1, c2, c3, c4, c5, c6, c7, c8, -, -, -, -, -, -, -, -, -⟩ := box9 CB5.out
          have G0 := cell_regrown c0
          have G1 := cell_regrown c1
          have G2 := cell_regrown c2
          have G3 := cell_regrown c3
          have G4 := cell_regrown c4
          have G5 := cell_regrown c5
          have G6 := cell_regrown c6
          have G7 := cell_regrown c7
          have G8 := cell_regrown c8
          obtain ⟨d0, d1, d2⟩ := I5.out.R.cells (i := i) (by rw [List.length_set]; exact hiR)
          have hrs : rAt ((rs ++ List.replicate (cs.length - i) rm0).set i (wideR 0)) i = (wideR 0) := by
            unfold rAt
            rw [List.getD_eq_getElem?_getD, List.getElem?_set_self hiR]; rfl
          rw [hrs] at d0 d1 d2
          have D0 := cell_regrown d0
          have D1 := cell_regrown d1
          have D2 := cell_regrown d2
          have cF : ∀ d os, Calls Try.prog 77 #[.agg #[.int .i64 c.kind, .int .i64 c.at_, .int .i64 c.count, .int .i64 c.kids, .int .u8 c.byte, .bool c.full, .int .u64 c.val, .slice c.ka c.key.length c.kc, .slice c.pa c.ps.length c.pc], .agg #[.int .i64 (wideR 0).at_, .int .i64 (wideR 0).above, .int .i64 (wideR 0).below]] (grow (redrawn w5 d) os) fun r w'' => r = .returned (.bool (fitsR c.pure (wideR 0))) ∧ ∃ p : Regrown, w'' = grow (redrawn w5 p.d) p.os := fun d os =>
            Calls.regrown_of (fits_any c (wideR 0) _ hbt)
          have FB : Hid (∀ d os, SpI w (grow (redrawn w5 d) os) (some ⟨b, off, none⟩) cs.length k m g ((rs ++ List.replicate (cs.length - i) rm0).set i (wideR 0))) := fun d os => I5.out.below (below_regrown w5 d os)
          have hsp : Hid (∀ z, fitsR c.pure (wideR 0) = z → spStep (cs.map Cel.pure) ss rs i = if z = false then none else some (rs ++ [(wideR 0)])) := by
            rintro z rfl
            unfold spStep
            rw [hme, if_neg (show ¬ c.pure.kind = 3 from hk3), hrm.out]
          have hnx : Hid ((rs ++ List.replicate (cs.length - i) rm0).set i (wideR 0) = (rs ++ [(wideR 0)]) ++ List.replicate (cs.length - (i + 1)) rm0) := set_next3 rs cs.length i (wideR 0) hrl hin
          clear c0 c1 c2 c3 c4 c5 c6 c7 c8 d0 d1 d2 hrs CB5 I5
          generalize hfz : fitsR c.pure (wideR 0) = z at cF
          simp only [wideR] at D0 D1 D2 cF
          have HFZ := hide hfz
          clear hfz
          cases z with
          | true =>
            refine wp_region_quiet_below (by kernel_rfl) (by kernel_rfl) ?_
            repeat (quiet_step (first | (go_at_call 77; exact cF _ _)))
            refine wpQuiet_nil ?_
            intro _ hw'
            obtain ⟨⟨dq, osq⟩, hw''⟩ := hw'
            subst hw''
            clear cF D0 D1 D2 G0 G1 G2 G3 G4 G5 G6 G7 G8
            go_wp2
            go_roundw
            case rel => exact ⟨i + 1, rs ++ [(wideR 0)], by go_num, by omega, hstep.out _ (by rw [hsp.out _ HFZ.out]; rfl), by
              have := FB.out dq osq
              rw [hnx.out] at this
              exact this⟩
            case measure => simp [intOf]; omega
          | false =>
            refine wp_region_quiet_below (by kernel_rfl) (by kernel_rfl) ?_
            repeat (quiet_step (first | (go_at_call 77; exact cF _ _)))
            refine wpQuiet_nil ?_
            intro _ hw'
            obtain ⟨⟨dq, osq⟩, hw''⟩ := hw'
            subst hw''
            clear cF D0 D1 D2 G0 G1 G2 G3 G4 G5 G6 G7 G8
            go_wp2
            go_ret
            exact ⟨ret_bool (hfail.out (by rw [hsp.out _ HFZ.out]; rfl)).symm, (FB.out dq osq).F⟩
        · have hom' : ((sAt ss i).over != -1) = true := by simp [hom]
          have hov := (HL.out.over i (by simpa using hin)).resolve_left (fun h => hom h.1)
          have hnth := HL.out.nth i (by simpa using hin)
          obtain ⟨o, ho⟩ : ∃ o : Nat, (sAt ss i).over = o := ⟨(sAt ss i).over.toNat, by omega⟩
          have hon : o < i := by omega
          obtain ⟨co, hco⟩ : ∃ co, cs[o]? = some co := ⟨cs[o]'(by omega), List.getElem?_eq_getElem _⟩
          have hrm : Hid (roomOf (cs.map Cel.pure) ss rs i = leftR co.pure (rAt rs o) (wayP co.kids (sAt ss i).nth)) := by
            show _ = _
            unfold roomOf
            rw [if_neg hom, ho, Int.toNat_natCast, cAt_map hco]; rfl
          have hco4 := h4 co (List.mem_of_getElem? hco)
          have hcok := (T4.out.rc.2.1 co (List.mem_of_getElem? hco))
          have hbo := hcok.2.2.2.2.1
          obtain ⟨sb, hsb⟩ : ∃ sb : Obj, sb = .cells #[.int .i64 o, .int .i64 (sAt ss i).nth, .int .i64 (sAt ss i).before, .int .i64 (sAt ss i).deep] 67 (0, 0) := ⟨_, rfl⟩
          have I5 := hide (I4.out.below ((Below.refl _ _).alloc (Nat.le_refl _) sb))
          have CB5 := hide (CB4.out.alloc sb)
          have T5 := hide (T4.out.below ((Below.refl _ _).alloc (Nat.le_refl _) sb))
          have hs3 : (((w3.setCell ⟨w.heap.size + 1, i * 3, none⟩ (.int .i64 0)).setCell ⟨w.heap.size + 1, i * 3 + 1, none⟩ (.int .i64 (-1))).setCell ⟨w.heap.size + 1, i * 3 + 2, none⟩ (.int .i64 256)).heap.size = w3.heap.size := by simp
          have SB5 : Hid (Blk ((((w3.setCell ⟨w.heap.size + 1, i * 3, none⟩ (.int .i64 0)).setCell ⟨w.heap.size + 1, i * 3 + 1, none⟩ (.int .i64 (-1))).setCell ⟨w.heap.size + 1, i * 3 + 2, none⟩ (.int .i64 256)).alloc sb) w3.heap.size 67 [.int .i64 o, .int .i64 (sAt ss i).nth, .int .i64 (sAt ss i).before, .int .i64 (sAt ss i).deep]) := by
            rw [hsb]
            have := Blk.new (((w3.setCell ⟨w.heap.size + 1, i * 3, none⟩ (.int .i64 0)).setCell ⟨w.heap.size + 1, i * 3 + 1, none⟩ (.int .i64 (-1))).setCell ⟨w.heap.size + 1, i * 3 + 2, none⟩ (.int .i64 256)) 67 [.int .i64 o, .int .i64 (sAt ss i).nth, .int .i64 (sAt ss i).before, .int .i64 (sAt ss i).deep] _ rfl
            rwa [hs3] at this
          have hw3 : w.heap.size + 1 < w3.heap.size := Blk.lt I3.out.R
          rw [hsb] at I5 CB5 T5 SB5
          have hko : co.kind ≠ 3 := by
            intro h3
            have hb := hov.2.2
            rw [ho, Int.toNat_natCast, cAt_map hco] at hb
            unfold belowK at hb
            rw [if_neg (show ¬ co.pure.kind = 4 by show ¬ co.kind = 4; omega), if_neg (show ¬ co.pure.kind = 11 by show ¬ co.kind = 11; omega)] at hb
            have : co.pure.kids = co.kids := rfl
            omega
          have hat : -9223372036854775808 ≤ co.at_ ∧ co.at_ ≤ 65535 := by
            have h5 := spN_at HN.out o hon (by rw [cAt_map hco]; exact hko)
            rw [cAt_map hco] at h5
            have : co.pure.at_ = co.at_ := rfl
            exact ⟨hcok.2.1.1, by omega⟩
          clear I4 CB4 T4 hsb hs3
          rw [ho] at s0 hom'
          go_wp2_with fail
          generalize World.alloc _ _ = w4 at I5 CB5 T5 SB5 ⊢
          clear d0 d1 d2 z0 z1 z2 x1 s0 s1 s2 s3 I3 T3
          replace I5 : Hid (SpI w w4 (some ⟨b, off, none⟩) cs.length k m g ((rs ++ List.replicate (cs.length - i) rm0).set i (wideR 0))) := I5.out
          have hro : rAt ((rs ++ List.replicate (cs.length - i) rm0).set i (wideR 0)) o = rAt rs o := by
            unfold rAt
            rw [List.getD_eq_getElem?_getD, List.getD_eq_getElem?_getD, List.getElem?_set_ne (by omega), List.getElem?_append_left (by omega)]
          have hwy := fun w' (t : Tre w' (some ⟨b, off, none⟩) cs g ss) => way_any (some ⟨b, off, none⟩) cs g ss k m i o co w' t hin ho hco (by omega) (by omega)
          have hlf := fun w' => left_any co (rAt rs o) (wayP co.kids (sAt ss i).nth) w' hbo hat
          have HWY := hide hwy
          have HLF := hide hlf
          clear hwy hlf
          have KS : ∀ w' rs', SpI w w' (some ⟨b, off, none⟩) cs.length k m g rs' → o < rs'.length → rAt rs' o = rAt rs o → Blk w' w3.heap.size 67 [.int .i64 o, .int .i64 (sAt ss i).nth, .int .i64 (sAt ss i).before, .int .i64 (sAt ss i).deep] →
              (w'.cell? ⟨w.heap.size, 0, none⟩ = some (.slice (some ⟨b, off, none⟩) cs.length k) ∧ w'.cell? ⟨w.heap.size, 1, none⟩ = some (.slice (some ⟨g, 0, none⟩) cs.length m) ∧ w'.cell? ⟨w3.heap.size, 0, none⟩ = some (.int .i64 o) ∧
                w'.cell? ⟨w.heap.size + 1, o * 3, none⟩ = some (.int .i64 (rAt rs o).at_) ∧ w'.cell? ⟨w.heap.size + 1, o * 3 + 1, none⟩ = some (.int .i64 (rAt rs o).above) ∧ w'.cell? ⟨w.heap.size + 1, o * 3 + 2, none⟩ = some (.int .i64 (rAt rs o).below) ∧
                w'.cell? ⟨b, off + o * 9, none⟩ = some (.int .i64 co.kind) ∧ w'.cell? ⟨b, off + o * 9 + 1, none⟩ = some (.int .i64 co.at_) ∧ w'.cell? ⟨b, off + o * 9 + 2, none⟩ = some (.int .i64 co.count) ∧ w'.cell? ⟨b, off + o * 9 + 3, none⟩ = some (.int .i64 co.kids) ∧ w'.cell? ⟨b, off + o * 9 + 4, none⟩ = some (.int .u8 co.byte) ∧ w'.cell? ⟨b, off + o * 9 + 5, none⟩ = some (.bool co.full) ∧ w'.cell? ⟨b, off + o * 9 + 6, none⟩ = some (.int .u64 co.val) ∧ w'.cell? ⟨b, off + o * 9 + 7, none⟩ = some (.slice co.ka co.key.length co.kc) ∧ w'.cell? ⟨b, off + o * 9 + 8, none⟩ = some (.slice co.pa co.ps.length co.pc)) := by
            intro w' rs' h1 h2 h3 h5
            obtain ⟨e0, e1, e2⟩ := h1.R.cells h2
            rw [h3] at e0 e1 e2
            obtain ⟨b', off', hb2, q⟩ := (H.out.below h1.F).rc.cells hco
            cases hb2
            exact ⟨h1.X.cell 0, h1.X.cell 1, h5.cell 0, e0, e1, e2, q⟩
          have HKS := hide KS
          have hol : o < ((rs ++ List.replicate (cs.length - i) rm0).set i (wideR 0)).length := by rw [List.length_set]; omega
          have k0 := KS w4.drew _ (I5.out.below (Below.drewN' (Below.refl _ w4) 1)) hol hro SB5.out
          have T4d := hide (T5.out.below (Below.drewN' (Below.refl _ w4) 1))
          have I4d := hide (I5.out.below (Below.drewN' (Below.refl _ w4) 1))
          have SB4d : Hid (Blk w4.drew w3.heap.size 67 [.int .i64 o, .int .i64 (sAt ss i).nth, .int .i64 (sAt ss i).before, .int .i64 (sAt ss i).deep]) := SB5.out
          have CB4d : Hid (Blk w4.drew wr.heap.size 40 c.fields) := CB5.out
          have hioR : i < ((rs ++ List.replicate (cs.length - i) rm0).set i (wideR 0)).length := by rw [List.length_set]; exact hiR
          have honn : o < cs.length := by omega
          obtain ⟨rmv, hrv⟩ : ∃ rmv, rmv = leftR co.pure (rAt rs o) (wayP co.kids (sAt ss i).nth) := ⟨_, rfl⟩
          have HRV := hide hrv
          have hol2 : o < (((rs ++ List.replicate (cs.length - i) rm0).set i (wideR 0)).set i rmv).length := by rw [List.length_set]; exact hol
          have hro2 : rAt (((rs ++ List.replicate (cs.length - i) rm0).set i (wideR 0)).set i rmv) o = rAt rs o := by
            rw [← hro]
            unfold rAt
            rw [List.getD_eq_getElem?_getD, List.getD_eq_getElem?_getD, List.getElem?_set_ne (by omega)]
          rw [← hrv] at HLF hrm
          clear hrv KS
          simp only [Rm.vals] at HLF
          generalize hwv : wayP co.kids (sAt ss i).nth = wv at *
          clear hwv
          generalize hrr : rAt rs o = rr at *
          clear hrr
          clear T5 SB5 I5 CB5
          go_region_held3 (fun w' => w'.cell? ⟨w.heap.size, 0, none⟩ = some (.slice (some ⟨b, off, none⟩) cs.length k) ∧ w'.cell? ⟨w.heap.size, 1, none⟩ = some (.slice (some ⟨g, 0, none⟩) cs.length m) ∧ w'.cell? ⟨w3.heap.size, 0, none⟩ = some (.int .i64 o) ∧
                w'.cell? ⟨w.heap.size + 1, o * 3, none⟩ = some (.int .i64 rr.at_) ∧ w'.cell? ⟨w.heap.size + 1, o * 3 + 1, none⟩ = some (.int .i64 rr.above) ∧ w'.cell? ⟨w.heap.size + 1, o * 3 + 2, none⟩ = some (.int .i64 rr.below) ∧
                w'.cell? ⟨b, off + o * 9, none⟩ = some (.int .i64 co.kind) ∧ w'.cell? ⟨b, off + o * 9 + 1, none⟩ = some (.int .i64 co.at_) ∧ w'.cell? ⟨b, off + o * 9 + 2, none⟩ = some (.int .i64 co.count) ∧ w'.cell? ⟨b, off + o * 9 + 3, none⟩ = some (.int .i64 co.kids) ∧ w'.cell? ⟨b, off + o * 9 + 4, none⟩ = some (.int .u8 co.byte) ∧ w'.cell? ⟨b, off + o * 9 + 5, none⟩ = some (.bool co.full) ∧ w'.cell? ⟨b, off + o * 9 + 6, none⟩ = some (.int .u64 co.val) ∧ w'.cell? ⟨b, off + o * 9 + 7, none⟩ = some (.slice co.ka co.key.length co.kc) ∧ w'.cell? ⟨b, off + o * 9 + 8, none⟩ = some (.slice co.pa co.ps.length co.pc))
            (first | exact k3 | exact k2 | exact k1 | exact k0)
            (first
            | (go_at_call 71; refine (HWY.out _ T4d.out).mono ?_; rintro e w6 ⟨rfl, f6⟩; have I6 := hide (I4d.out.below f6); have SB6 := hide (SB4d.out.below f6 SB4d.out.lt); have CB6 := hide (CB4d.out.below f6 CB4d.out.lt); have k1 := HKS.out w6 _ I6.out hol hro SB6.out; clear f6)
            | (go_at_call 76; refine (HLF.out _).mono ?_; rintro e w7 ⟨rfl, f7⟩; have I7 := hide (I6.out.below f7); have SB7 := hide (SB6.out.below f7 SB6.out.lt); have CB7 := hide (CB6.out.below f7 CB6.out.lt); have k2 := HKS.out w7 _ I7.out hol hro SB7.out; obtain ⟨d0, d1, d2⟩ := I7.out.R.cells hioR; have z0 := Blk.frozen I7.out.R (i * 3); have z1 := Blk.frozen I7.out.R (i * 3 + 1); have z2 := Blk.frozen I7.out.R (i * 3 + 2); have I8 := hide (I7.out.put i rmv hioR); have SB8 := ((SB7.out.other (p := w.heap.size + 1) (o := i * 3) (v := .int .i64 rmv.at_) (by omega)).other (p := w.heap.size + 1) (o := i * 3 + 1) (v := .int .i64 rmv.above) (by omega)).other (p := w.heap.size + 1) (o := i * 3 + 2) (v := .int .i64 rmv.below) (by omega); have k3 := HKS.out _ _ I8.out hol2 hro2 SB8; have CB8 := hide (((CB7.out.other (p := w.heap.size + 1) (o := i * 3) (v := .int .i64 rmv.at_) (by omega)).other (p := w.heap.size + 1) (o := i * 3 + 1) (v := .int .i64 rmv.above) (by omega)).other (p := w.heap.size + 1) (o := i * 3 + 2) (v := .int .i64 rmv.below) (by omega)); clear f7 SB8))
          all_goals
            rw [List.set_set] at I8
            clear k0 k1 k2 k3 d0 d1 d2 z0 z1 z2 I6 I7 SB6 SB7 CB6 CB7 T4d I4d SB4d CB4d HKS
            generalize World.setCell _ _ _ = w5 at I8 CB8 ⊢
            have I5 := I8
            have CB5 := CB8
            clear I8 CB8
            go_wp2_with fail
            obtain ⟨c0, c1, c2, c3, c4, c5, c6, c7, c8, -, -, -, -, -, -, -, -, -⟩ := box9 CB5.out
            have G0 := cell_regrown c0
            have G1 := cell_regrown c1
            have G2 := cell_regrown c2
            have G3 := cell_regrown c3
            have G4 := cell_regrown c4
            have G5 := cell_regrown c5
            have G6 := cell_regrown c6
            have G7 := cell_regrown c7
            have G8 := cell_regrown c8
            obtain ⟨d0, d1, d2⟩ := I5.out.R.cells (i := i) (by rw [List.length_set]; exact hiR)
            have hrs : rAt ((rs ++ List.replicate (cs.length - i) rm0).set i rmv) i = rmv := by
              unfold rAt
              rw [List.getD_eq_getElem?_getD, List.getElem?_set_self hiR]; rfl
            rw [hrs] at d0 d1 d2
            have D0 := cell_regrown d0
            have D1 := cell_regrown d1
            have D2 := cell_regrown d2
            have cF : ∀ d os, Calls Try.prog 77 #[.agg #[.int .i64 c.kind, .int .i64 c.at_, .int .i64 c.count, .int .i64 c.kids, .int .u8 c.byte, .bool c.full, .int .u64 c.val, .slice c.ka c.key.length c.kc, .slice c.pa c.ps.length c.pc], .agg #[.int .i64 rmv.at_, .int .i64 rmv.above, .int .i64 rmv.below]] (grow (redrawn w5 d) os) fun r w'' => r = .returned (.bool (fitsR c.pure rmv)) ∧ ∃ p : Regrown, w'' = grow (redrawn w5 p.d) p.os := fun d os =>
              Calls.regrown_of (fits_any c rmv _ hbt)
            have FB : Hid (∀ d os, SpI w (grow (redrawn w5 d) os) (some ⟨b, off, none⟩) cs.length k m g ((rs ++ List.replicate (cs.length - i) rm0).set i rmv)) := fun d os => I5.out.below (below_regrown w5 d os)
            have hsp : Hid (∀ z, fitsR c.pure rmv = z → spStep (cs.map Cel.pure) ss rs i = if z = false then none else some (rs ++ [rmv])) := by
              rintro z rfl
              unfold spStep
              rw [hme, if_neg (show ¬ c.pure.kind = 3 from hk3), hrm.out]
            have hnx : Hid ((rs ++ List.replicate (cs.length - i) rm0).set i rmv = (rs ++ [rmv]) ++ List.replicate (cs.length - (i + 1)) rm0) := set_next3 rs cs.length i rmv hrl hin
            clear c0 c1 c2 c3 c4 c5 c6 c7 c8 d0 d1 d2 hrs CB5 I5
            generalize hfz : fitsR c.pure rmv = z at cF
            have HFZ := hide hfz
            clear hfz
            cases z with
            | true =>
              refine wp_region_quiet_below (by kernel_rfl) (by kernel_rfl) ?_
              repeat (quiet_step (first | (go_at_call 77; exact cF _ _)))
              refine wpQuiet_nil ?_
              intro _ hw'
              obtain ⟨⟨dq, osq⟩, hw''⟩ := hw'
              subst hw''
              clear cF D0 D1 D2 G0 G1 G2 G3 G4 G5 G6 G7 G8
              go_wp2
              go_roundw
              case rel => exact ⟨i + 1, rs ++ [rmv], by go_num, by omega, hstep.out _ (by rw [hsp.out _ HFZ.out]; rfl), by
                have := FB.out dq osq
                rw [hnx.out] at this
                exact this⟩
              case measure => simp [intOf]; omega
            | false =>
              refine wp_region_quiet_below (by kernel_rfl) (by kernel_rfl) ?_
              repeat (quiet_step (first | (go_at_call 77; exact cF _ _)))
              refine wpQuiet_nil ?_
              intro _ hw'
              obtain ⟨⟨dq, osq⟩, hw''⟩ := hw'
              subst hw''
              clear cF D0 D1 D2 G0 G1 G2 G3 G4 G5 G6 G7 G8
              go_wp2
              go_ret
              exact ⟨ret_bool (hfail.out (by rw [hsp.out _ HFZ.out]; rfl)).symm, (FB.out dq osq).F⟩
    · obtain rfl : i = cs.length := by omega
      go_wp2_with fail
      go_ret
      refine ⟨ret_bool ?_, I.out.F⟩
      unfold spellsP
      rw [List.length_map, HN.out]; rfl
end Go.Proofs.Ytnedcoomldmhhaa
