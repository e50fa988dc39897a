/- ShelfSplits. -/
import Derived.Test.YtnlhocbpoommjaaLawFinds8
import Derived.Test.YtnlhocbpoommjaaGrp8
namespace Go.Proofs.Ytnlhocbpoommjaa
open Go.RowKit Go.Sort
set_option linter.unusedVariables false
set_option linter.unusedSimpArgs false
set_option maxRecDepth 20000

theorem LL.at {B : Nat} {w : World} {a : Option Addr} {n c : Nat} {gs : List (Value × List Ent)} (h : LL B w (.slice a n c) gs) {i : Nat} {x : Value × List Ent} (hx : gs[i]? = some x) : ∃ b ax cx, a = some ⟨b, 0, none⟩ ∧ w.cell? ⟨b, i, none⟩ = some (.slice ax x.2.length cx) ∧ Rp w ax x.2 := by
  have hi := (List.getElem?_eq_some_iff.1 hx).1
  have l := h.ls x (List.mem_of_getElem? hx)
  obtain ⟨ax, cx, he, hr⟩ := l.rp
  obtain ⟨b, cap, e2⟩ := owns_slice h.row (by omega)
  simp only [Value.slice.injEq] at e2
  obtain ⟨rfl, rfl, rfl⟩ := e2
  have hc := h.row.cellAt i (by omega)
  rw [List.getElem?_map, hx] at hc
  refine ⟨b, ax, cx, rfl, ?_, hr⟩
  rw [← he]
  exact hc
theorem rd_first {w : World} {a : Option Addr} {x : Int} {kt : List Int} (h : Rd w a (x :: kt)) : ∃ b o, a = some ⟨b, o, none⟩ ∧ w.cell? ⟨b, o, none⟩ = some (.int .u8 x) ∧ Rd w (some ⟨b, o + 1, none⟩) kt ∧ 0 ≤ x ∧ x ≤ 255 := by
  have hx := h.1 x (by simp)
  rcases h.2.2 with h0 | ⟨b, o, rfl, hc⟩
  · simp at h0
  · have h1 := hc 0 (by simp)
    exact ⟨b, o, rfl, by simpa using h1, h.drop 1, hx⟩

set_option maxHeartbeats 4000000 in
theorem splits8_any (es : List Ent) (a : Option Addr) (cap : Nat) (w : World) (hp : Prs w a cap es) :
    Calls Try.prog 8 #[.slice a es.length cap] w fun e w' => e = .returned (.bool true) ∧ Below w.heap.size w w' := by
  have G := hide (great_in es a cap 8 20 w hp (by omega) (by omega))
  have hmx := hp.mx
  cases hg : greatP es 8 20 with
  | true =>
    rw [hg] at G
    clear hg hp
    go_enter Try.func8, Try.ntmps8
    go_wp2_with fail
    refine G.out.mono ?_
    rintro r w1 ⟨rfl, s1⟩
    have F1 := hide (s1.below w.heap.size)
    clear s1
    go_wp2_with fail
    refine (awake8_any w1).mono ?_
    rintro r w2 ⟨rfl, f2⟩
    have F2 := hide (F1.out.trans (f2.mono F1.out.size))
    clear f2
    go_wp2
    go_ret
    exact ⟨rfl, F2.out⟩
  | false =>
    rw [hg] at G
    have HG := hide (great_false hg)
    have H := hide hp
    clear hg hp
    go_enter Try.func8, Try.ntmps8
    go_wp2_with fail
    refine G.out.mono ?_
    rintro r w1 ⟨rfl, s1⟩
    have f1 := s1.below w.heap.size
    have h40 := HG.out.1
    have RP := hide (H.out.rp (by omega))
    have N1 := Rf.new_any es a cap w1 (RP.out.below f1 (Nat.le_refl _)) (fun e he => by have := HG.out.2 e he; omega) (by omega)
    have F1 := hide f1
    clear s1 f1
    go_wp2_with fail
    refine N1.mono ?_
    rintro r w2 ⟨gw, rfl, m2, f2⟩
    have hu2 := hide (ofM_ups (es.map Ent.kv))
    have hl2 := Nat.le_trans (ofM_len (es.map Ent.kv)) (show (es.map Ent.kv).length ≤ 8 by simp; omega)
    generalize ofM (es.map Ent.kv) = P at m2 hu2 hl2
    obtain ⟨aP, cP, fs, d2, hfl, hfk, hfr, hfl5⟩ := rf_hdr m2
    have hbytes : Hid (∀ p ∈ P, IsBytes p.1) := by
      intro p hp
      rw [← hfk] at hp
      obtain ⟨e, he, rfl⟩ := List.mem_map.1 hp
      exact (hfr.2.1 e he).1.1
    have N2 := Sh.new_ok fs aP cP w2 hfr hfl5 (by omega) (by rw [hfk]; exact risesB_of_ups hu2.out)
    rw [hfl, hfk] at N2
    have HN2 := hide N2
    have M2 := hide m2
    have F2 := hide (F1.out.trans (f2.mono F1.out.size))
    clear m2 f2 N1 N2 hfl hfk hfr hfl5
    go_wp2_with fail
    refine HN2.out.mono ?_
    rintro r w3 ⟨gs, rfl, m3, f3⟩
    have M3 := hide ((Rf.Md.lies gw P).below M2.out f3)
    have SP := hide (Sh.split_any w3 m3)
    have F3 := hide (F2.out.trans (f3.mono F2.out.size))
    clear m3 f3 HN2 d2 M2
    go_wp2_with fail
    refine SP.out.mono ?_
    rintro r w5 ⟨a1, c1, os, a2, c2, gl, rfl, l1, k1, l2, k2, f5⟩
    have hhl := Sh.headE_le P
    have hho : os.length = Sh.headE P := by
      have := congrArg List.length k1
      simp at this
      omega
    -- the groups
    obtain ⟨Z, hZ⟩ := grp_spec (P.drop (Sh.headE P)) (fun p hp => by
      have h1 := Sh.drop_keys hu2.out p hp
      have h2 := hbytes.out p (List.mem_of_mem_drop hp)
      cases hk : p.1 with
      | nil => exact absurd hk h1
      | cons x kt => exact ⟨x, kt, rfl, (h2 x (by rw [hk]; simp)).1⟩)
    have HZ := hide hZ
    have hgl : Hid (gl.map (fun x => x.2.map Ent.kv) = Z.map Prod.snd) := by show _ = _; rw [k2, hZ.g]
    have hone : Hid (Sh.headE P = 1 → ∃ b e cc, a1 = some ⟨b, 0, none⟩ ∧ w5.cell? ⟨b, 0, none⟩ = some (.slice e 0 cc)) := fun h1 => by
      obtain ⟨a9, c9, e9, hr9⟩ := l1.rp
      simp only [Value.slice.injEq] at e9
      obtain ⟨rfl, -, rfl⟩ := e9
      obtain ⟨b, capx, e8⟩ := owns_slice l1.row (by omega)
      simp only [Value.slice.injEq] at e8
      obtain ⟨rfl, -, rfl⟩ := e8
      obtain ⟨e, he⟩ : ∃ e, os[0]? = some e := ⟨os[0], List.getElem?_eq_getElem (by omega)⟩
      obtain ⟨b', off', e7, x0, x1⟩ := hr9.cells he
      simp only [Option.some.injEq, Addr.mk.injEq] at e7
      obtain ⟨rfl, rfl, -⟩ := e7
      have hek : e.k = [] := by
        have h2 : (os.map Ent.kv)[0]? = some e.kv := by simp [he]
        rw [k1, h1] at h2
        have h3 : (P[0]?).map Prod.fst = some [] := by
          have h4 := h1
          unfold Sh.headE at h4
          by_cases h5 : (P[0]?).map Prod.fst = some []
          · exact h5
          · rw [if_neg h5] at h4; omega
        rw [List.getElem?_take_of_lt (by omega)] at h2
        rw [h2] at h3
        simpa [Ent.kv] using h3
      refine ⟨b, e.a, e.c, rfl, ?_⟩
      rw [hek] at x0
      simpa using x0
    have M5 := hide ((Rf.Md.lies gw P).below M3.out f5)
    have F5 := hide (F3.out.trans (f5.mono F3.out.size))
    have L1 := hide l1
    have L2 := hide l2
    have K1 := hide k1
    clear l1 l2 k1 k2 f5 SP hZ
    rw [hho]
    obtain ⟨hd, hhd⟩ : ∃ hd, Sh.headE P = hd := ⟨_, rfl⟩
    have hd1 : hd = 0 ∨ hd = 1 := by rw [← hhd]; unfold Sh.headE; split <;> simp
    rw [hhd] at hone HZ hhl ⊢
    clear hho
    have HHD := hide hhd
    clear hhd
    have hdb : hd ≤ 8 := by omega
    go_upto_region 9 with fail
    go_cut [47] (fun v wx => v = .bool false ∧ wx = w5)
    case first =>
      rcases hd1 with rfl | rfl
      · go_wp2_with fail
        go_meet
        case rel => exact ⟨rfl, rfl⟩
      · obtain ⟨b, ea, cc, rfl, hcell⟩ := hone.out rfl
        go_wp2_with fail
        go_meet
        case rel => exact ⟨rfl, rfl⟩
    case rest =>
    obtain ⟨rfl, hw⟩ := hcut
    subst hw
    clear hone hd1
    have hgz : gl.length = Z.length := by have := congrArg List.length hgl.out; simpa using this
    rw [hgz]
    have HGZ := hide hgz
    have hPQ : P = P.take hd ++ unf Z := by rw [← HZ.out.q, List.take_append_drop]
    have hPl : P.length = hd + (unf Z).length := by
      have h1 := congrArg List.length hPQ
      simp only [List.length_append, List.length_take] at h1
      omega
    have hPat : Hid (∀ j p, (unf Z)[j]? = some p → P[hd + j]? = some p) := fun j p hj => by
      rw [hPQ, List.getElem?_append_right (by rw [List.length_take]; omega)]
      rw [show hd + j - (P.take hd).length = j by rw [List.length_take]; omega]
      exact hj
    have HPL := hide hPl
    have hZb : Z.length ≤ 8 := by have := unf_more Z HZ.out.ne; omega
    clear hPQ hPl hgz
    go_wp2_with fail
    go_loopw [7, 8] (fun vn vi wr => ∃ (i N : Nat), vn = .int .i64 N ∧ vi = .int .i64 i ∧ i ≤ Z.length ∧ N ≤ P.length ∧ Hid (N = hd + offZ Z i) ∧ Hid (Below wc.heap.size wc wr)) (fun _ vi _ => (Z.length - intOf vi).toNat)
    case atStart => exact ⟨0, hd, rfl, rfl, by omega, by omega, by show _ = _; simp [offZ, unf], Below.refl _ _⟩
    case round =>
      obtain ⟨i, N, rfl, rfl, hi, hN, HN, F⟩ := hrel
      by_cases hin : i < Z.length
      · obtain ⟨z, hz⟩ : ∃ z, Z[i]? = some z := ⟨Z[i], List.getElem?_eq_getElem hin⟩
        have hgx : ∃ x, gl[i]? = some x ∧ x.2.map Ent.kv = z.2 := by
          have h1 : (gl.map (fun x => x.2.map Ent.kv))[i]? = some z.2 := by rw [hgl.out]; simp [hz]
          rw [List.getElem?_map] at h1
          obtain ⟨x, h2, h3⟩ := Option.map_eq_some_iff.1 h1
          exact ⟨x, h2, h3⟩
        obtain ⟨⟨xv, fs⟩, hgx, hfk⟩ := hgx
        simp only at hfk
        have hfl : fs.length = z.2.length := by rw [← hfk]; simp
        obtain ⟨b2, ax, cx, rfl, e0, hrx⟩ := LL.at L2.out hgx
        simp only at e0 hrx
        rw [hfl] at e0
        have hzne : 0 < z.2.length := List.length_pos_iff.2 (HZ.out.ne z (List.mem_of_getElem? hz))
        obtain ⟨zl, hzl⟩ : ∃ zl, z.2.length = zl := ⟨_, rfl⟩
        have hol := offZ_le hz
        rw [hzl] at e0 hzne hol
        have hlt2 := World.block_lt_of_cell? wc _ e0
        have E0 : Hid (∀ w', Below wc.heap.size wc w' → w'.cell? ⟨b2, i, none⟩ = some (.slice ax zl cx)) := fun w' f => (f.cell (p := ⟨b2, i, none⟩) hlt2).trans e0
        have HRX := hide hrx
        have HFK := hide hfk
        have HZI := hide hz
        have HZL := hide hzl
        have HFL := hide hfl
        have hNb : N + zl ≤ P.length := by have := HN.out; have := HPL.out; omega
        have ec := E0.out wr F.out
        have zne : ((zl : Int) == 0) = false := by simp; omega
        clear hgx hfk hfl hrx hz hzl e0 hol hlt2
        go_wp2_with fail
        go_loopw [7, 9] (fun vn vk wr => ∃ (k M : Nat), vn = .int .i64 M ∧ vk = .int .i64 k ∧ k ≤ zl ∧ Hid (M = N + k) ∧ M ≤ P.length ∧ Hid (Below wc.heap.size wc wr)) (fun _ vk _ => (zl - intOf vk).toNat)
        case atStart => exact ⟨0, N, rfl, rfl, by omega, by show _ = _; omega, by omega, F⟩
        case round =>
          clear F ec zne
          obtain ⟨k, M, rfl, rfl, hk, HM, hMb, F⟩ := hrel
          have ec := E0.out wr F.out
          by_cases hkn : k < zl
          · obtain ⟨q, hq⟩ : ∃ q, z.2[k]? = some q := ⟨z.2[k]'(by have := HZL.out; omega), List.getElem?_eq_getElem _⟩
            obtain ⟨f, hf⟩ : ∃ f, fs[k]? = some f := ⟨fs[k]'(by have := HFL.out; have := HZL.out; omega), List.getElem?_eq_getElem _⟩
            have hfq : f.kv = q := by
              have h1 : (fs.map Ent.kv)[k]? = some f.kv := by simp [hf]
              rw [HFK.out, hq] at h1
              exact (Option.some.inj h1).symm
            obtain ⟨kt, qv⟩ := q
            have hfk : f.k = kt := congrArg Prod.fst hfq
            have hfv : f.v = qv := congrArg Prod.snd hfq
            have hpM : P[M]? = some (z.1 :: kt, qv) := by
              have h1 := hPat.out _ _ (unf_get HZI.out hq)
              rw [show hd + (offZ Z i + k) = M by have := HM.out; have := HN.out; omega] at h1
              exact h1
            obtain ⟨x, hx⟩ : ∃ x, z.1 = x := ⟨_, rfl⟩
            rw [hx] at hpM
            have hMlt : M < P.length := (List.getElem?_eq_some_iff.1 hpM).1
            have hprev := unf_prev HZ.out HZI.out (k := k) (by have := HZL.out; omega)
            rw [hx] at hprev
            have HPREV := hide hprev
            have HPM := hide hpM
            obtain ⟨bx, ox, rfl, g0, g1⟩ := (HRX.out.below F.out (Nat.le_refl _)).cells hf
            rw [hfk] at g0
            rw [hfv] at g1
            have hrf := ((HRX.out.below F.out (Nat.le_refl _)).2.1 f (List.mem_of_getElem? hf)).1
            rw [hfk] at hrf
            have HRF := hide hrf
            obtain ⟨bP, cPP, ap, cp, d0, p0, p1, rp, hcp, pv⟩ := rf_at ((Rf.Md.lies gw P).below M5.out F.out) hpM
            simp only [List.length_cons] at p0 hcp
            obtain ⟨b1, o1, rfl, y0, ry, hxb⟩ := rd_first rp
            have HG := hide (show wr.cell? ⟨bx, ox + k * 2, none⟩ = some (.slice f.a kt.length f.c) ∧ wr.cell? ⟨bx, ox + k * 2 + 1, none⟩ = some (.int .u64 qv) from ⟨g0, g1⟩)
            have hMi : (M : Int) < (P.length : Int) := by omega
            clear hq hf hfq hfk hfv hpM hprev hrf rp pv hx g0 g1
            -- the box
            have f7 : Below wr.heap.size wr (wr.alloc (.cells #[.slice (some ⟨b1, o1, none⟩) (kt.length + 1) cp, .int .u64 qv] 54 (0, 0))) := below_alloc wr _
            have x7 : Blk (wr.alloc (.cells #[.slice (some ⟨b1, o1, none⟩) (kt.length + 1) cp, .int .u64 qv] 54 (0, 0))) wr.heap.size 54 [.slice (some ⟨b1, o1, none⟩) (kt.length + 1) cp, .int .u64 qv] := Blk.new wr _ _ _ rfl
            have up : ∀ (pa : Addr) (v : Value), wr.cell? pa = some v → (wr.alloc (.cells #[.slice (some ⟨b1, o1, none⟩) (kt.length + 1) cp, .int .u64 qv] 54 (0, 0))).cell? pa = some v := fun pa v h => (f7.cell (p := pa) (World.block_lt_of_cell? wr _ h)).trans h
            have d0' := up _ _ d0
            have y0' := up _ _ y0
            have ec' := up _ _ ec
            have g0' := up _ _ HG.out.1
            have g1' := up _ _ HG.out.2
            have x0 := x7.cell 0
            have x1 := x7.cell 1
            simp only [List.getElem?_cons_zero, List.getElem?_cons_succ] at x0 x1
            obtain ⟨o2, ho2⟩ : ∃ o2, (if cp = 1 then some (⟨b1, o1, none⟩ : Addr) else some ⟨b1, o1 + 1, none⟩) = some ⟨b1, o2, none⟩ := by
              by_cases h : cp = 1
              · exact ⟨o1, by rw [if_pos h]⟩
              · exact ⟨o1 + 1, by rw [if_neg h]⟩
            have ry2 : Rd wr (some ⟨b1, o2, none⟩) kt := by
              rw [← ho2]
              by_cases h : cp = 1
              · rw [if_pos h]
                have : kt = [] := List.eq_nil_of_length_eq_zero (by omega)
                rw [this]
                exact ⟨by intro x hx; simp at hx, by simp [maxLen], .inl rfl⟩
              · rw [if_neg h]; exact ry
            have M7 := hide ((Rf.Md.lies gw P).below ((Rf.Md.lies gw P).below M5.out F.out) f7)
            have F7 := hide (F.out.trans (f7.mono F.out.size))
            have r7a := HRF.out.below f7 (Nat.le_refl _)
            have r7b := ry2.below f7 (Nat.le_refl _)
            generalize hw7 : wr.alloc (.cells #[.slice (some ⟨b1, o1, none⟩) (kt.length + 1) cp, .int .u64 qv] 54 (0, 0)) = w7 at x0 x1 d0' y0' ec' g0' g1' M7 F7 r7a r7b
            have SB := fun d => same_b f.a (some ⟨b1, o2, none⟩) kt kt f.c (cp - 1) (w7.drewN d) (r7a.drewN d) (r7b.drewN d)
            rw [decide_eq_true rfl] at SB
            have HS := hide SB
            have q1 : (1 : Int) ≤ (kt.length : Int) + 1 := by omega
            have q2 : (((kt.length : Int) + 1) == 0) = false := by simp; omega
            have q3 : (0 : Int) < (kt.length : Int) + 1 := by omega
            clear r7a r7b SB ry ry2 up x7 f7 HG
            have HI : Hid (i ≤ Z.length) := hi
            rcases Nat.eq_zero_or_pos k with hk0 | hk0
            · have v1 : ((k : Int) == 0) = true := by simp; omega
              have v2 : ¬ (0 : Int) < (k : Int) := by omega
              have v3 : ¬ 0 < k := by omega
              have HK0 := hide hk0
              clear hk0
              rcases Nat.eq_zero_or_pos i with hi0 | hi0
              · have v5 : ¬ (0 : Int) < (i : Int) := by omega
                have v6 : ¬ 0 < i := by omega
                clear hi0
                go_wp2_with fail
                go_quiet (first | (go_at_call 38; exact Calls.quiet_of (HS.out _)))
                have F8 := hide (F7.out.trans ((Below.drewN' (Below.refl _ w7) nq).mono F7.out.size))
                clear HS ho2 ec' g0' g1' x1
                go_wp2_with fail
                go_quiet (fail)
                have F9 := hide (F8.out.trans ((Below.drewN' (Below.refl _ _) nq).mono F8.out.size))
                clear d0' y0' x0 F7 F8
                go_wp2
                go_roundw
                case rel => exact ⟨k + 1, M + 1, by go_num, by go_num, by omega, by have := HM.out; show _ = _; omega, by omega, by show Below _ _ _; simpa using F9.out⟩
                case measure => simp [intOf]; omega
              · obtain ⟨x', kt', v', hne, hof, hpp⟩ := HPREV.out.2 HK0.out hi0
                have hpM1 := hPat.out _ _ hpp
                rw [show hd + (offZ Z i - 1) = M - 1 by have := HM.out; have := HN.out; have := HK0.out; omega] at hpM1
                have hM1 : 0 < M := by have := HM.out; have := HN.out; omega
                obtain ⟨bP2, cPP2, ap2, cp2, d02, p02, p12, rp2, hcp2, pv2⟩ := rf_at M7.out hpM1
                simp only [List.length_cons] at p02
                obtain ⟨b12, o12, rfl, y02, ry2, hxb2⟩ := rd_first rp2
                have e9 : some (Value.slice (some ⟨bP, 0, none⟩) P.length cPP) = some (Value.slice (some ⟨bP2, 0, none⟩) P.length cPP2) := by rw [← d0', ← d02]
                simp only [Option.some.injEq, Value.slice.injEq, Addr.mk.injEq, and_true, true_and] at e9
                obtain ⟨rfl, rfl⟩ := e9
                have u1 : IntKind.i64.wrap ((M : Int) - 1) = ((M - 1 : Nat) : Int) := by rw [IntKind.wrap_i64]; omega
                have u1' : wrap64 ((M : Int) - 1) = ((M - 1 : Nat) : Int) := by rw [wrap64_in _ (by omega)]; omega
                have u2 : ((M - 1 : Nat) : Int) < (P.length : Int) := by omega
                obtain ⟨m1, hm1⟩ : ∃ m1, M - 1 = m1 := ⟨_, rfl⟩
                rw [hm1] at u1 u1' u2 p02 p12
                have u3 : (0 : Int) < (i : Int) := by omega
                have u4 : (x == x') = false := by simp; exact fun e => hne e.symm
                have u5 : (0 : Int) < (kt'.length : Int) + 1 := by omega
                clear hm1 hpp hpM1 rp2 ry2 hne p12 hof pv2 hcp2
                go_wp2_with fail
                go_quiet (first | (go_at_call 38; exact Calls.quiet_of (HS.out _)))
                have F8 := hide (F7.out.trans ((Below.drewN' (Below.refl _ w7) nq).mono F7.out.size))
                clear HS ho2 ec' g0' g1' x1
                go_wp2_with fail
                go_quiet (fail)
                have F9 := hide (F8.out.trans ((Below.drewN' (Below.refl _ _) nq).mono F8.out.size))
                clear d0' y0' x0 F7 F8
                go_wp2
                go_roundw
                case rel => exact ⟨k + 1, M + 1, by go_num, by go_num, by omega, by have := HM.out; show _ = _; omega, by omega, by show Below _ _ _; simpa using F9.out⟩
                case measure => simp [intOf]; omega
            · obtain ⟨kt', v', hpp⟩ := HPREV.out.1 hk0
              have hpM1 := hPat.out _ _ hpp
              rw [show hd + (offZ Z i + k - 1) = M - 1 by have := HM.out; have := HN.out; omega] at hpM1
              have hM1 : 0 < M := by have := HM.out; have := HN.out; omega
              obtain ⟨bP2, cPP2, ap2, cp2, d02, p02, p12, rp2, hcp2, pv2⟩ := rf_at M7.out hpM1
              simp only [List.length_cons] at p02
              obtain ⟨b12, o12, rfl, y02, ry2, hxb2⟩ := rd_first rp2
              have e9 : some (Value.slice (some ⟨bP, 0, none⟩) P.length cPP) = some (Value.slice (some ⟨bP2, 0, none⟩) P.length cPP2) := by rw [← d0', ← d02]
              simp only [Option.some.injEq, Value.slice.injEq, Addr.mk.injEq, and_true, true_and] at e9
              obtain ⟨rfl, rfl⟩ := e9
              have u1 : IntKind.i64.wrap ((M : Int) - 1) = ((M - 1 : Nat) : Int) := by rw [IntKind.wrap_i64]; omega
              have u1' : wrap64 ((M : Int) - 1) = ((M - 1 : Nat) : Int) := by rw [wrap64_in _ (by omega)]; omega
              have u2 : ((M - 1 : Nat) : Int) < (P.length : Int) := by omega
              obtain ⟨m1, hm1⟩ : ∃ m1, M - 1 = m1 := ⟨_, rfl⟩
              rw [hm1] at u1 u1' u2 p02 p12
              have u3 : (0 : Int) < (k : Int) := by omega
              have u4 : ((k : Int) == 0) = false := by simp; omega
              have u5 : (0 : Int) < (kt'.length : Int) + 1 := by omega
              clear hm1 hpp hpM1 rp2 ry2 p12 pv2 hcp2
              go_wp2_with fail
              go_quiet (first | (go_at_call 38; exact Calls.quiet_of (HS.out _)))
              have F8 := hide (F7.out.trans ((Below.drewN' (Below.refl _ w7) nq).mono F7.out.size))
              clear HS ho2 ec' g0' g1' x1
              go_wp2_with fail
              go_quiet (fail)
              have F9 := hide (F8.out.trans ((Below.drewN' (Below.refl _ _) nq).mono F8.out.size))
              clear d0' y0' x0 F7 F8
              go_wp2
              go_roundw
              case rel => exact ⟨k + 1, M + 1, by go_num, by go_num, by omega, by have := HM.out; show _ = _; omega, by omega, by show Below _ _ _; simpa using F9.out⟩
              case measure => simp [intOf]; omega
          · obtain rfl : k = zl := by omega
            have hNi : Hid (M = hd + offZ Z (i + 1)) := by have h1 := offZ_succ HZI.out; have h2 := HZL.out; have := HM.out; have := HN.out; show _ = _; omega
            go_wp2_with fail
            refine ⟨⟨i + 1, M, rfl, by go_num, by omega, hMb, hNi, F⟩, ?_⟩
            simp [intOf]; omega
      · obtain rfl : i = Z.length := by omega
        obtain rfl : N = P.length := by have h1 := HN.out; have h2 := HPL.out; have h3 := unf_len (Z := Z) (Nat.le_refl _); omega
        obtain ⟨aR, cR, _, d3, _⟩ := rf_hdr ((Rf.Md.lies gw P).below M5.out F.out)
        have FF := hide (F5.out.trans (F.out.mono F5.out.size))
        clear HN
        go_wp2_with fail
        refine (Sh.put_nil none 0 0 1 wr).mono ?_
        rintro r w9 ⟨rfl, hw⟩
        subst hw
        go_wp2_with fail
        refine (Sh.len_nil w9).mono ?_
        rintro r w10 ⟨rfl, hw⟩
        subst hw
        go_wp2_with fail
        refine (awake8_any _).mono ?_
        rintro r w11 ⟨rfl, f11⟩
        have F11 := hide (FF.out.trans (f11.mono FF.out.size))
        clear f11 d3
        go_wp2
        go_ret
        exact ⟨rfl, F11.out⟩
end Go.Proofs.Ytnlhocbpoommjaa
