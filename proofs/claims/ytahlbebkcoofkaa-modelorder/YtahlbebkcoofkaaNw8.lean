/- New. -/
import Derived.Test.YtahlbebkcoofkaaNw7
import Derived.Test.YtahlbebkcoofkaaOf7
import Derived.Deep.DeepCutAuto
import Derived.Deep.CutBlock
import Derived.Deep.LoopGhost
import Derived.Deep.RegionLaw
namespace Go.Proofs.Ytahlbebkcoofkaa
set_option maxRecDepth 20000
open Go.RowKit Go.Sort
set_option linter.unusedVariables false

theorem flat_tc (X : List Tg) : flat tc X = flat Ent.cells (X.map Prod.fst) := by
  induction X with
  | nil => rfl
  | cons x X ih => simp only [flat, List.map_cons, ih]; rfl
theorem zip_fst (es : List Ent) : es.zipIdx.map Prod.fst = es := List.zipIdx_map_fst 0 es

theorem step_append_run {P : Program} {w : World} {ops : Array Oper} {o : Oper} {a : Act} {K : Act → World → Prop} {Q : Exit → Act → World → Prop} {E : Prop} (hgd : Region.wanted o (yielded ops a.tmps) = true) (s x : Operand) (t tx : TypeId)
    (ho : o.op = .call { callee := .builtin .append, args := #[s, x], argTypes := #[t, tx] }) (v x' v' : Value) (w' : World) (hs : a.eval s = v) (hx : a.eval x = x')
    (hr : (Builtin.append_ #[t, tx] o.type #[v, x']).run P w = .ok v' w') (h : K (a.put o.dst v') w') : if Region.wanted o (yielded ops a.tmps) = true then Oper.wp P o a w K Q else E := by
  rw [if_pos hgd]
  unfold Oper.wp execOp
  simp only [ho, resolve, invoke, builtin, Sem.run_bind, Sem.run_pure, Result.andThen_ok, List.map_toArray, List.map_cons, List.map_nil, hs, hx, hr]
  exact h
/-- Is the pair at i the last one of its key? -/
def isLast (ps : List KV) (i : Nat) : Bool := decide ((ps[i + 1]?).map Prod.fst ≠ (ps[i]?).map Prod.fst)
theorem lastsK_drop {ps : List KV} {i : Nat} {p : KV} (hp : ps[i]? = some p) : lastsK (ps.drop i) = if isLast ps i then p :: lastsK (ps.drop (i + 1)) else lastsK (ps.drop (i + 1)) := by
  have hi : i < ps.length := (List.getElem?_eq_some_iff.1 hp).1
  have hpe : ps[i] = p := (List.getElem?_eq_some_iff.1 hp).2
  unfold isLast
  rw [List.drop_eq_getElem_cons hi, hpe, hp]
  by_cases h1 : i + 1 < ps.length
  · rw [List.drop_eq_getElem_cons h1, List.getElem?_eq_getElem h1]
    simp only [lastsK, Option.map_some, ne_eq, Option.some.injEq, decide_not, Bool.not_eq_true', decide_eq_false_iff_not]
    by_cases h2 : p.1 = ps[i + 1].1
    · rw [if_pos h2, if_neg (by simp [h2])]
    · rw [if_neg h2, if_pos (by intro h; exact h2 h.symm)]
  · rw [List.getElem?_eq_none (by omega), List.drop_eq_nil_of_le (by omega)]
    simp [lastsK]

/-- What stands behind 'm.pairs = append(m.pairs, pair)'. -/
structure Pushed (B gm : Nat) (w6 w' : World) (v' : Value) (fs : List Ent) : Prop where
  ls : Lst B (w'.setCell ⟨gm, 0, none⟩ v') v' fs
  bm : Blk (w'.setCell ⟨gm, 0, none⟩ v') gm 70 [v']
  bl : Below B w6 (w'.setCell ⟨gm, 0, none⟩ v')
theorem push_pair {B : Nat} {w6 : World} {v : Value} {fs : List Ent} (l : Lst B w6 v fs) (hB : B ≤ w6.heap.size) (gm : Nat) (hgm : B ≤ gm) (bm : Blk w6 gm 70 [v]) (q : Nat) (k : List Int) (u : Int) (bq : Blk w6 q 5 (u8s k)) (hq : B ≤ q) (hb : IsBytes k) (hk : k.length ≤ 1000000) (hv : 0 ≤ u ∧ u ≤ 18446744073709551615) (hn : ∀ e ∈ fs, e.a ≠ some ⟨q, 0, none⟩) (hl : fs.length < 1000000) :
    ∃ a' c' w', (Builtin.append_ #[22, 22] 22 #[v, .slice (some ⟨w6.heap.size, 0, none⟩) 1 1]).run Try.prog (w6.alloc (.cells #[.slice (some ⟨q, 0, none⟩) k.length k.length, .int .u64 u] 54)) = .ok (.slice a' (fs.length + 1) c') w' ∧
      w'.cell? ⟨gm, 0, none⟩ = some v ∧ w'.frozen? ⟨gm, 0, none⟩ = false ∧ Pushed B gm w6 w' (.slice a' (fs.length + 1) c') (fs ++ [⟨some ⟨q, 0, none⟩, k.length, k, u⟩]) := by
  obtain ⟨i, h1, h2, h3, h4⟩ := info_pair
  obtain ⟨v', w', r, o, g, ho⟩ := append_lit (P := Try.prog) w6 B 22 54 i _ 2 32 Try.underlying22 h1 h2 h3 h4 rfl (by omega) v fs.length _ l.row [.slice (some ⟨q, 0, none⟩) k.length k.length, .int .u64 u] rfl (by intro u hu; simp at hu; rcases hu with rfl | rfl <;> rfl) (by omega) (by omega) hB
  obtain ⟨a', c', rfl⟩ := owns_slice' o
  have hvg : v.ownBlock ≠ some gm := owns_apart l.row bm (by decide)
  have bm1 := bm.alloc (.cells #[.slice (some ⟨q, 0, none⟩) k.length k.length, .int .u64 u] 54)
  have bm2 : Blk w' gm 70 [v] := (g.block gm bm1.lt (fun e => hvg e.symm)).trans bm1
  have hvB : ∀ x, v.ownBlock = some x → B ≤ x := fun x hx => (l.row.lt x hx).1
  have fb : Below B w6 w' := by
    have f1 : Below B w6 (w6.alloc (.cells #[.slice (some ⟨q, 0, none⟩) k.length k.length, .int .u64 u] 54)) := (Below.refl _ _).alloc hB _
    exact f1.grown g (by have := f1.size; omega) hvB
  refine ⟨a', c', w', r, bm2.cell 0, bm2.frozen 0, ⟨⟨?_, ?_, by simp; omega⟩, bm2.set 0 _, fb.setCell hgm _⟩⟩
  · have e1 : flat Ent.cells (fs ++ [(⟨some ⟨q, 0, none⟩, k.length, k, u⟩ : Ent)]) = flat Ent.cells fs ++ [.slice (some ⟨q, 0, none⟩) k.length k.length, .int .u64 u] := by rw [flat_append]; rfl
    rw [e1]
    have o2 : (w'.setCell ⟨gm, 0, none⟩ (.slice a' (fs.length + 1) c')).ownsRow B 54 2 (.slice a' (fs.length + 1) c') (fs.length + 1) (flat Ent.cells fs ++ [.slice (some ⟨q, 0, none⟩) k.length k.length, .int .u64 u]) := by
      refine owns_same o (fun x hx => Below.heap_setCell _ ⟨gm, 0, none⟩ _ _ ?_)
      intro e
      subst e
      exact owns_apart o bm2 (by decide) hx
    simpa using o2
  · have keep : ∀ x cur, Blk w6 x 5 cur → Blk (w'.setCell ⟨gm, 0, none⟩ (.slice a' (fs.length + 1) c')) x 5 cur := by
      intro x cur hx
      have x1 := hx.alloc (.cells #[.slice (some ⟨q, 0, none⟩) k.length k.length, .int .u64 u] 54)
      have x2 : Blk w' x 5 cur := (g.block x x1.lt (fun e => owns_apart l.row hx (by decide) e.symm)).trans x1
      exact (Below.heap_setCell _ ⟨gm, 0, none⟩ _ _ (fun e => blk_apart bm hx (by decide) e.symm)).trans x2
    have own2 : Own B (w'.setCell ⟨gm, 0, none⟩ (.slice a' (fs.length + 1) c')) fs :=
      ⟨fun e he => by
        obtain ⟨b, h1, h2, h3, h4⟩ := l.own.ks e he
        exact ⟨b, h1, h2, keep b _ h3, h4⟩, l.own.ds⟩
    exact own2.snoc q k u (keep q _ bq) hq hb hk hv hn

set_option maxHeartbeats 4000000 in
set_option maxRecDepth 20000 in
theorem new_some (es : List Ent) (a : Addr) (c : Nat) (w : World) (h : Rp w (some a) es) (hk : ∀ e ∈ es, e.k.length ≤ 65535) :
    Calls Try.prog 10 #[.slice (some a) es.length c] w fun r w' => ∃ g, r = .returned (.pointer (some ⟨g, 0, none⟩)) ∧ Md g (ofM (es.map Ent.kv)) (fun k => k < w.heap.size) w' ∧ Below w.heap.size w w' := by
  have hn := h.1
  have H := hide h
  have HK := hide hk
  have C := hide (clone_some es a c w h)
  clear h hk
  go_enter Try.func10, Try.ntmps10
  go_wp2_with fail
  refine C.out.mono ?_
  rintro r w1 ⟨v, rfl, o1, hvb, f1⟩
  have hrow : ∃ b cap rest, v = .slice (some ⟨b, 0, none⟩) es.length cap ∧ w.heap.size ≤ b ∧ Blk w1 b 54 (flat Ent.cells es ++ rest) := by
    obtain ⟨k, hk⟩ := hvb
    rcases o1.2 with ⟨rfl, _⟩ | ⟨b, cap, cur, rfl, hb, hg, h1, h2, h3, h4⟩
    · simp [Value.ownBlock] at hk
    · refine ⟨b, cap, cur.toList.drop (es.length * 2), rfl, hb, ?_⟩
      unfold Blk
      rw [← h4, List.take_append_drop]
      exact hg
  obtain ⟨b, cap, rest, rfl, hb, hblk⟩ := hrow
  have r1 := (owns_rp o1 (fun e he => ⟨((H.out.2.1 e he).1).below f1 (Nat.le_refl _), (H.out.2.1 e he).2⟩) hn)
  obtain ⟨a', c', ea, hr1⟩ := r1
  simp only [Value.slice.injEq] at ea
  obtain ⟨rfl, -, rfl⟩ := ea
  have D := deleteFunc_none es (some ⟨b, 0, none⟩) cap w1 hr1 HK.out
  have F1 := hide f1
  have B1 := hide hblk
  clear o1 f1 hblk hr1 C hvb
  go_wp2_with fail
  refine D.mono ?_
  rintro r w2 ⟨rfl, f2⟩
  have S : SW (fun k => k < w.heap.size) b rest w w2 es.zipIdx := by
    refine ⟨?_, Kp.of_below (F1.out.trans (f2.mono F1.out.size)), by simp; omega, fun k hk => hk, fun t ht => ?_⟩
    · rw [flat_tc, zip_fst]
      exact B1.out.below f2 B1.out.lt
    · have := List.mem_map_of_mem (f := Prod.fst) ht
      rw [zip_fst] at this
      exact (H.out.2.1 _ this).1.bd
  have T := sortStable_any _ b rest w w2 es.zipIdx cap S (zip_marks es 0) (by simpa using hn) es.length (by simp)
  have HT := hide T
  clear f2 S T D B1 F1
  go_wp2_with fail
  refine HT.out.mono ?_
  rintro r w3 ⟨rfl, X, s3, p3, o3⟩
  have S3 := hide s3
  have HP := hide (new_pure es X p3 o3)
  have XL : Hid (X.length = es.length) := by have := p3.length_eq; show _ = _; simpa using this
  have XK : Hid (∀ t ∈ X, t.1 ∈ es) := fun t ht => by
    have h1 := p3.subset ht
    have h2 := List.mem_map_of_mem (f := Prod.fst) h1
    rwa [zip_fst] at h2
  clear s3 p3 o3 HT
  obtain ⟨ps, hps⟩ : ∃ ps, ps = X.map (fun t => t.1.kv) := ⟨_, rfl⟩
  rw [← hps] at HP
  have HPS := hide hps
  have F3 : Hid (Below w.heap.size w w3) := S3.out.kp.below (Nat.le_refl _) (fun k hk => hk)
  have BM : Hid (Blk (w3.alloc (.cells #[.slice none 0 0] 70 (0, 0))) w3.heap.size 70 [.slice none 0 0]) := Blk.new w3 _ _ _ rfl
  have BR : Hid (Blk (w3.alloc (.cells #[.slice none 0 0] 70 (0, 0))) b 54 (flat Ent.cells (X.map Prod.fst) ++ rest)) := by
    have := S3.out.blk.alloc (.cells #[.slice none 0 0] 70 (0, 0))
    rwa [flat_tc] at this
  have hbw : b < w3.heap.size := S3.out.blk.lt
  clear hps
  go_wp2_with fail
  go_loopw [16] (fun vi wr => ∃ (i : Nat) (av : Option Addr) (cv : Nat) (fs : List Ent), vi = .int .i64 i ∧ i ≤ es.length ∧ fs.length ≤ i ∧ Hid (fs.map Ent.kv ++ lastsK (ps.drop i) = lastsK ps) ∧ Hid (Below w3.heap.size w3 wr) ∧ Hid (Blk wr w3.heap.size 70 [.slice av fs.length cv]) ∧ Hid (Lst w3.heap.size wr (.slice av fs.length cv) fs)) (fun vi _ => (es.length - intOf vi).toNat)
  case atStart => exact ⟨0, none, 0, [], rfl, by omega, by simp, rfl, (Below.refl _ w3).alloc (Nat.le_refl _) _, BM.out, ⟨World.ownsRow_nil _ _ _ _, ⟨by simp, List.Pairwise.nil⟩, by simp⟩⟩
  case round =>
    clear BM BR
    obtain ⟨i, av, cv, fs, rfl, hi, hfl, HF, FW, BM, LW⟩ := hrel
    by_cases hin : i < es.length
    · have hiX : i < X.length := by have := XL.out; omega
      obtain ⟨t, ht⟩ : ∃ t, X[i]? = some t := ⟨X[i], List.getElem?_eq_getElem hiX⟩
      obtain ⟨e, rfl⟩ : ∃ e, e = t.1 := ⟨_, rfl⟩
      have hte : (X.map Prod.fst)[i]? = some t.1 := by simp [ht]
      have bw : Blk wr b 54 (flat Ent.cells (X.map Prod.fst) ++ rest) := by
        have := S3.out.blk.below FW.out hbw
        rwa [flat_tc] at this
      obtain ⟨c0, c1⟩ := row_cells bw hte
      have hmt := XK.out t (List.mem_of_getElem? ht)
      have hrd : Rd wr t.1.a t.1.k := ((H.out.2.1 t.1 hmt).1.below (F3.out.trans (FW.out.mono F3.out.size)) (Nat.le_refl _))
      have f4 : Below wr.heap.size wr (wr.alloc (.cells #[.slice t.1.a t.1.k.length t.1.c, .int .u64 t.1.v] 54 (0, 0))) := (Below.refl _ wr).alloc (Nat.le_refl _) _
      have x4 : Blk (wr.alloc (.cells #[.slice t.1.a t.1.k.length t.1.c, .int .u64 t.1.v] 54 (0, 0))) wr.heap.size 54 [.slice t.1.a t.1.k.length t.1.c, .int .u64 t.1.v] := Blk.new wr _ _ _ rfl
      have F4 := hide f4
      have X4 := hide x4
      have BW4 := hide (bw.below f4 bw.lt)
      have RD4 := hide (hrd.below f4 (Nat.le_refl _))
      have HT := hide ht
      have hpi : Hid (ps[i]? = some t.1.kv) := by show _ = _; rw [HPS.out]; simp [ht]
      have HMT := hide hmt
      clear f4 x4 ht hte bw hrd hmt
      go_wp2_with fail
      generalize hw4 : wr.alloc (.cells #[.slice t.1.a t.1.k.length t.1.c, .int .u64 t.1.v] 54 (0, 0)) = w4 at F4 X4 BW4 RD4 ⊢
      clear hw4
      go_cut [35] (fun v wx => v = .bool (isLast ps i) ∧ Below w4.heap.size w4 wx)
      case first =>
        by_cases hl : i + 1 = es.length
        · have hd : ((i : Int) + 1 == (es.length : Int)) = true := by simp; omega
          have hlast : Hid (isLast ps i = true) := by
            show _ = _
            have h1 : ps[i + 1]? = none := List.getElem?_eq_none (by rw [HPS.out]; have := XL.out; simp; omega)
            unfold isLast
            rw [h1, hpi.out]
            simp
          clear c0 c1
          go_quiet (fail)
          go_wp2_with fail
          go_meet
          case rel => exact ⟨by rw [hlast.out], Below.drewN' (Below.refl _ _) _⟩
        · have hd : ((i : Int) + 1 == (es.length : Int)) = false := by simp; omega
          have hiX1 : i + 1 < X.length := by have := XL.out; omega
          obtain ⟨u, hu⟩ : ∃ u, X[i + 1]? = some u := ⟨X[i + 1], List.getElem?_eq_getElem hiX1⟩
          have hue : (X.map Prod.fst)[i + 1]? = some u.1 := by simp [hu]
          obtain ⟨k0, k1⟩ := row_cells BW4.out hue
          have hmu := XK.out u (List.mem_of_getElem? hu)
          have hru : Rd w4 u.1.a u.1.k := (((H.out.2.1 u.1 hmu).1.below (F3.out.trans (FW.out.mono F3.out.size)) (Nat.le_refl _))).below F4.out (Nat.le_refl _)
          have d0 := cell_regrown k0
          have d1 := cell_regrown k1
          have d2 := cell_regrown (X4.out.cell 0)
          have d3 := cell_regrown (X4.out.cell 1)
          have cB : ∀ d os, Calls Try.prog 40 #[.agg #[.slice t.1.a t.1.k.length t.1.c, .int .u64 t.1.v], .agg #[.slice u.1.a u.1.k.length u.1.c, .int .u64 u.1.v]] (grow (redrawn w4 d) os) fun r w'' => r = .returned (.int .i64 (cmpK t.1.k u.1.k)) ∧ ∃ p : Regrown, w'' = grow (redrawn w4 p.d) p.os := fun d os =>
            Calls.regrown_of (byKey_any t.1 u.1 _ (RD4.out.below (below_regrown w4 d os) (Nat.le_refl _)) (hru.below (below_regrown w4 d os) (Nat.le_refl _)))
          have hlast : Hid (isLast ps i = (cmpK t.1.k u.1.k != 0)) := by
            show _ = _
            have h1 : ps[i + 1]? = some u.1.kv := by rw [HPS.out]; simp [hu]
            unfold isLast
            rw [h1, hpi.out]
            have := cmpK_zero t.1.k u.1.k
            rw [Bool.eq_iff_iff]
            simp only [Option.map_some, ne_eq, Option.some.injEq, decide_eq_true_eq, bne_iff_ne]
            show ¬ u.1.k = t.1.k ↔ _
            rw [this]
            exact ⟨fun h e => h e.symm, fun h e => h e.symm⟩
          have hwi : IntKind.i64.wrap ((i : Int) + 1) = (i : Int) + 1 := by rw [IntKind.wrap_i64]; omega
          have z1 : (i : Int) + 1 < (es.length : Int) := by omega
          have z2 : (0 : Int) ≤ (i : Int) + 1 := by omega
          have z3 : ((i : Int) + 1).toNat = i + 1 := by omega
          generalize hcv : cmpK t.1.k u.1.k = cv' at cB hlast
          clear hcv hu hue k0 k1 hmu hru c0 c1
          refine wp_region_quiet_below (by kernel_rfl) (by kernel_rfl) ?_
          repeat (quiet_step (first | (go_at_call 40; exact cB _ _)))
          refine wpQuiet_nil ?_
          intro _ hw'
          obtain ⟨⟨dq, osq⟩, hw''⟩ := hw'
          subst hw''
          clear cB d0 d1 d2 d3
          go_wp2_with fail
          go_meet
          case rel => exact ⟨by rw [hlast.out], below_regrown w4 dq osq⟩
      case rest =>
      obtain ⟨rfl, f5⟩ := hcut
      have F5 := hide f5
      clear f5
      have hmono : Hid (Below wr.heap.size wr wc) := F4.out.trans (F5.out.mono F4.out.size)
      cases hlst : isLast ps i with
      | true =>
        have bm := BM.out.below hmono.out BM.out.lt
        have m0 : wc.drew.cell? ⟨w3.heap.size, 0, none⟩ = some (.slice av fs.length cv) := bm.cell 0
        have x5 := X4.out.below F5.out X4.out.lt
        have p0 : wc.drew.cell? ⟨wr.heap.size, 0, none⟩ = some (.slice t.1.a t.1.k.length t.1.c) := x5.cell 0
        have p1 : wc.drew.cell? ⟨wr.heap.size, 1, none⟩ = some (.int .u64 t.1.v) := x5.cell 1
        have C := copied_any t.1 wc.drew ((RD4.out.below F5.out (Nat.le_refl _)).drew) (by have := HK.out t.1 HMT.out; omega)
        have HC := hide C
        have LC := hide (LW.out.below hmono.out)
        have FC : Hid (Below w3.heap.size w3 wc) := FW.out.trans (hmono.out.mono FW.out.size)
        have BC := hide bm
        clear bm x5 C
        go_wp2_with fail
        have hkl : Hid (t.1.k.length ≤ 65535) := HK.out t.1 HMT.out
        have hvv := hide (H.out.2.1 t.1 HMT.out).2
        have hbb := hide RD4.out.1
        have hlk := lastsK_drop hpi.out
        rw [hlst] at hlk
        simp only [if_true] at hlk
        have HLK := hide hlk
        have hfl2 : Hid (fs.length < 1000000) := by show _ < _; omega
        clear hlk
        go_region_law (first
          | (refine step_append_run rfl _ _ _ _ rfl _ _ _ _ rfl rfl r7 ?_)
          | (go_simp; refine HC.out.mono ?_; rintro r w6 ⟨q, hq, rfl, b6, f6⟩; have bm6 := BC.out.drew.below f6 BC.out.lt; have m6 := bm6.cell 0; have m6b := (bm6.alloc (.cells #[.slice (some ⟨q, 0, none⟩) t.1.k.length t.1.k.length, .int .u64 t.1.v] 54)).cell 0; simp only [List.getElem?_cons_zero] at m6 m6b; have l6 := (LC.out.below (Below.drewN' (Below.refl _ wc) 1)).below f6; have F6 : Hid (Below w3.heap.size w3 w6) := FC.out.trans ((Below.drewN' (Below.refl _ wc) 1).trans (f6.mono FC.out.size)); have hqn : ∀ e ∈ fs, e.a ≠ some ⟨q, 0, none⟩ := fun e he hea => by
              obtain ⟨b', h1, _, h3, _⟩ := LC.out.own.ks e he
              rw [h1] at hea
              simp only [Option.some.injEq, Addr.mk.injEq] at hea
              have := h3.lt
              have hq' : wc.heap.size ≤ q := hq
              omega
             obtain ⟨a7, c7, w7, r7, m7, z7, ps7⟩ := push_pair l6 F6.out.size w3.heap.size (Nat.le_refl _) bm6 q t.1.k t.1.v b6 (by have := FC.out.size; have hq' : wc.heap.size ≤ q := hq; omega) hbb.out (by have := hkl.out; omega) hvv.out hqn hfl2.out
             have P7 := hide ps7
             clear bm6 l6 hqn ps7 b6 f6 hq))
        all_goals
          have hlen7 : (fs ++ [(⟨some ⟨q, 0, none⟩, t.1.k.length, t.1.k, t.1.v⟩ : Ent)]).length = fs.length + 1 := by simp
          have B7 : Hid (Blk (w7.setCell ⟨w3.heap.size, 0, none⟩ (.slice a7 (fs.length + 1) c7)) w3.heap.size 70 [.slice a7 (fs ++ [(⟨some ⟨q, 0, none⟩, t.1.k.length, t.1.k, t.1.v⟩ : Ent)]).length c7]) := by rw [hlen7]; exact P7.out.bm
          have L7 : Hid (Lst w3.heap.size (w7.setCell ⟨w3.heap.size, 0, none⟩ (.slice a7 (fs.length + 1) c7)) (.slice a7 (fs ++ [(⟨some ⟨q, 0, none⟩, t.1.k.length, t.1.k, t.1.v⟩ : Ent)]).length c7) (fs ++ [⟨some ⟨q, 0, none⟩, t.1.k.length, t.1.k, t.1.v⟩])) := by rw [hlen7]; exact P7.out.ls
          have F7 : Hid (Below w3.heap.size w3 (w7.setCell ⟨w3.heap.size, 0, none⟩ (.slice a7 (fs.length + 1) c7))) := F6.out.trans P7.out.bl
          have hkv7 : Hid ((fs ++ [(⟨some ⟨q, 0, none⟩, t.1.k.length, t.1.k, t.1.v⟩ : Ent)]).map Ent.kv ++ lastsK (ps.drop (i + 1)) = lastsK ps) := by
            show _ = _
            rw [← HF.out, HLK.out]
            simp [Ent.kv]
          clear m6 m6b r7 m7 z7 P7
          go_wp2
          go_roundw
          case rel => exact ⟨i + 1, a7, c7, _, by go_num, by omega, by omega, hkv7, F7, B7, L7⟩
          case measure => simp [intOf]; omega
      | false =>
        have hlk := lastsK_drop hpi.out
        rw [hlst] at hlk
        simp only [Bool.false_eq_true, if_false] at hlk
        have HLK := hide hlk
        clear hlk
        go_wp2
        go_roundw
        case rel => exact ⟨i + 1, av, cv, fs, by go_num, by omega, by omega, by show _ = _; rw [← HLK.out]; exact HF.out, FW.out.trans (hmono.out.mono FW.out.size), BM.out.below hmono.out BM.out.lt, LW.out.below hmono.out⟩
        case measure => simp [intOf]; omega
    · obtain rfl : i = es.length := by omega
      have hfin : Hid (fs.map Ent.kv = lastsK ps) := by
        have h1 := HF.out
        have h2 : ps.drop es.length = [] := List.drop_eq_nil_of_le (by rw [HPS.out]; have := XL.out; simp; omega)
        rw [h2] at h1
        show _ = _
        simpa [lastsK] using h1
      go_wp2
      go_ret
      refine ⟨w3.heap.size, rfl, ?_, F3.out.trans (FW.out.mono F3.out.size)⟩
      have hm : Md w3.heap.size (ofM (es.map Ent.kv)) (fun k => k < w3.heap.size) wr := by
        refine lst_map LW.out BM.out (Nat.le_refl _) (Below.refl _ _) (hfin.out.trans HP.out) (ofM_ups _) (fun e he => ?_) FW.out.size
        have h1 : e.kv ∈ ofM (es.map Ent.kv) := by rw [← HP.out, ← hfin.out]; exact List.mem_map_of_mem he
        obtain ⟨e', he', hkv⟩ := List.mem_map.1 (ofM_keys h1)
        have h2 : e'.k = e.k := congrArg Prod.fst hkv
        rw [← h2]
        exact HK.out e' he'
      exact (Md.lies _ _).weaken hm (fun k hk => by have := F3.out.size; omega)
end Go.Proofs.Ytahlbebkcoofkaa
