/- ShelfFinds. -/
import Derived.Test.YtnlhocbpoommjaaRfN
import Derived.Test.YtnlhocbpoommjaaLawFull8
import Derived.Test.YtnlhocbpoommjaaLawLast7
import Derived.Deep.DeepCutAuto
import Derived.Deep.CutBlock
import Derived.Deep.LoopGhost
namespace Go.Proofs.Ytnlhocbpoommjaa
open Go.RowKit Go.Sort
set_option linter.unusedVariables false
set_option linter.unusedSimpArgs false
set_option maxRecDepth 20000

/-- The document's list of pairs, read. -/
theorem rf_hdr {g : Nat} {ps : List KV} {K : Nat → Prop} {w : World} (h : Rf.Md g ps K w) : ∃ a c es, w.cell? ⟨g, 0, none⟩ = some (.slice a ps.length c) ∧ es.length = ps.length ∧ es.map Ent.kv = ps ∧ Rp w a es ∧ (∀ e ∈ es, e.k.length ≤ 65535) := by
  obtain ⟨F, v, es, h⟩ := h
  obtain ⟨a, c, rfl, hr⟩ := h.rp
  have d0 := h.hd.cell 0
  simp only [List.getElem?_cons_zero] at d0
  rw [← h.len] at d0
  exact ⟨a, c, es, d0, h.len.symm, h.kv, hr, fun e he => (h.ks e he).2.1⟩
theorem rf_at {g : Nat} {ps : List KV} {K : Nat → Prop} {w : World} (h : Rf.Md g ps K w) {i : Nat} {p : KV} (hp : ps[i]? = some p) : ∃ b c a' c', w.cell? ⟨g, 0, none⟩ = some (.slice (some ⟨b, 0, none⟩) ps.length c) ∧ w.cell? ⟨b, i * 2, none⟩ = some (.slice a' p.1.length c') ∧ w.cell? ⟨b, i * 2 + 1, none⟩ = some (.int .u64 p.2) ∧ Rd w a' p.1 ∧ p.1.length ≤ c' ∧ 0 ≤ p.2 ∧ p.2 ≤ 18446744073709551615 := by
  obtain ⟨F, v, es, h⟩ := h
  obtain ⟨b, c, e, rfl, he, hk, hil, c0, c1⟩ := h.cells hp
  have d0 := h.hd.cell 0
  simp only [List.getElem?_cons_zero] at d0
  rw [← h.len] at d0
  have hks := h.ks e (List.mem_of_getElem? he)
  subst hk
  exact ⟨b, c, e.a, e.c, d0, c0, c1, hks.1.1, h.cs e (List.mem_of_getElem? he), hks.2.2⟩
theorem both_a {A B : Shape} {K : Nat → Prop} {w : World} (h : Both A B K w) : ∃ K1, A K1 w := by obtain ⟨K1, _, hA, _⟩ := h.left; exact ⟨K1, hA⟩
theorem both_b {A B : Shape} {K : Nat → Prop} {w : World} (h : Both A B K w) : ∃ K1, B K1 w := by obtain ⟨K1, _, hB, _⟩ := h.right; exact ⟨K1, hB⟩
/-- Dropped from the front. -/
theorem drop_head {P : List KV} (hu : Ups P) {i : Nat} {p : KV} (hp : P[i]? = some p) : isIn p.1 (P.drop i) = true ∧ valO (findM p.1 (P.drop i)) = p.2 ∧ dropM p.1 (P.drop i) = P.drop (i + 1) := by
  have hi := (List.getElem?_eq_some_iff.1 hp).1
  have hud : Ups (P.drop i) := List.Pairwise.sublist (List.drop_sublist i P) hu
  have h0 : (P.drop i)[0]? = some p := by simpa using hp
  have hr := rank_at hud h0
  have hin := isIn_at hud h0
  refine ⟨hin, ?_, ?_⟩
  · unfold findM; rw [hin, hr, if_pos rfl, h0]; rfl
  · unfold dropM; rw [hin, hr, if_pos rfl]; simp [List.drop_drop, Nat.add_comm]

set_option maxHeartbeats 4000000 in
theorem finds8_any (es : List Ent) (a ka : Option Addr) (cap kc : Nat) (k : List Int) (w : World) (hp : Prs w a cap es) (hk : Rd w ka k) (hkc : k.length ≤ kc) :
    Calls Try.prog 10 #[.slice a es.length cap, .slice ka k.length kc] w fun e w' => e = .returned (.bool true) ∧ Below w.heap.size w w' := by
  have G := hide (great_in es a cap 8 20 w hp (by omega) (by omega))
  have hkl := hk.2.1
  unfold maxLen at hkl
  have hmx := hp.mx
  cases hg : greatP es 8 20 with
  | true =>
    rw [hg] at G
    clear hg hp hk
    go_enter Try.func10, Try.ntmps10
    go_wp2_with fail
    refine G.out.mono ?_
    rintro r w1 ⟨rfl, s1⟩
    have F1 := hide (s1.below w.heap.size)
    clear s1
    go_wp2_with fail
    refine (awake8_any w1).mono ?_
    rintro r w2 ⟨rfl, f2⟩
    have F2 := hide (F1.out.trans (f2.mono F1.out.size))
    clear f2
    go_wp2
    go_ret
    exact ⟨rfl, F2.out⟩
  | false =>
    rw [hg] at G
    have HG := hide (great_false hg)
    have H := hide hp
    have HK := hide hk
    clear hg hp hk
    by_cases hkk : 30 < k.length
    · go_enter Try.func10, Try.ntmps10
      go_wp2_with fail
      refine G.out.mono ?_
      rintro r w1 ⟨rfl, s1⟩
      have F1 := hide (s1.below w.heap.size)
      clear s1
      go_wp2_with fail
      refine (awake8_any w1).mono ?_
      rintro r w2 ⟨rfl, f2⟩
      have F2 := hide (F1.out.trans (f2.mono F1.out.size))
      clear f2
      go_wp2
      go_ret
      exact ⟨rfl, F2.out⟩
    · go_enter Try.func10, Try.ntmps10
      go_wp2_with fail
      refine G.out.mono ?_
      rintro r w1 ⟨rfl, s1⟩
      have f1 := s1.below w.heap.size
      have h40 := HG.out.1
      have RP := hide (H.out.rp (by omega))
      have N1 := Rf.new_any es a cap w1 (RP.out.below f1 (Nat.le_refl _)) (fun e he => by have := HG.out.2 e he; omega) (by omega)
      have F1 := hide f1
      clear s1 f1
      go_wp2_with fail
      refine N1.mono ?_
      rintro r w2 ⟨gw, rfl, m2, f2⟩
      have hu2 := hide (ofM_ups (es.map Ent.kv))
      have hl2 := Nat.le_trans (ofM_len (es.map Ent.kv)) (show (es.map Ent.kv).length ≤ 8 by simp; omega)
      generalize ofM (es.map Ent.kv) = P at m2 hu2 hl2
      obtain ⟨aP, cP, fs, d2, hfl, hfk, hfr, hfl5⟩ := rf_hdr m2
      have N2 := Sh.new_ok fs aP cP w2 hfr hfl5 (by omega) (by rw [hfk]; exact risesB_of_ups hu2.out)
      rw [hfl, hfk] at N2
      have HN2 := hide N2
      have M2 := hide m2
      have F2 := hide (F1.out.trans (f2.mono F1.out.size))
      have G2 := hide f2
      clear m2 f2 N1 N2 hfl hfk hfr hfl5
      have hk30 : k.length ≤ 30 := by omega
      go_wp2_with fail
      refine HN2.out.mono ?_
      rintro r w3 ⟨gs, rfl, m3, f3⟩
      have T3 := hide (Both.of (Rf.Md.lies gw P) (Sh.Md.lies gs P) M2.out m3 f3)
      have F3 := hide (F2.out.trans (f3.mono F2.out.size))
      have G3 := hide (G2.out.trans (f3.mono G2.out.size))
      have L3 : Hid (∀ n, Calls Try.prog 48 #[.pointer (some ⟨gs, 0, none⟩)] (w3.drewN n) fun r w' => r = .returned (.int .i64 (P.length : Nat)) ∧ w' = w3.drewN n) := fun n => Sh.len_any (w3.drewN n) ((Sh.Md.lies gs P).below m3 (Below.drewN' (Below.refl _ w3) n))
      clear m3 f3 HN2 d2
      obtain ⟨aQ, cQ, _, d3, _⟩ := rf_hdr (both_a T3.out).choose_spec
      go_wp2_with fail
      go_quiet (first | (go_at_call 48; exact Calls.quiet_of_same (L3.out _)))
      have T4 := hide ((Both.lies _ _).below T3.out (Below.drewN' (Below.refl _ w3) nq))
      have F4 := hide (F3.out.trans ((Below.drewN' (Below.refl _ w3) nq).mono F3.out.size))
      have G4 := hide (G3.out.trans ((Below.drewN' (Below.refl _ w3) nq).mono G3.out.size))
      generalize hw4 : w3.drewN nq = w4 at T4 F4 G4 ⊢
      clear d3 hw4 L3 T3 F3 G3
      have hrkP := rank_le k P
      go_wp2_with fail
      go_loopw [7, 8] (fun vl vi wr => ∃ (i l : Nat), vl = .int .i64 l ∧ vi = .int .i64 i ∧ i ≤ P.length ∧ l ≤ i ∧ Hid (l = min i (rankM k P)) ∧ Hid (Both (Rf.Md gw P) (Sh.Md gs P) (fun k => k < w1.heap.size) wr) ∧ Hid (Below w.heap.size w wr) ∧ Hid (Below w1.heap.size w1 wr)) (fun _ vi _ => (P.length - intOf vi).toNat)
      case atStart => exact ⟨0, 0, rfl, rfl, by omega, by omega, by show _ = _; omega, T4, F4, G4⟩
      case round =>
        clear T4 F4 G4
        obtain ⟨i, l, rfl, rfl, hi, hl, HL, T, F, GW⟩ := hrel
        by_cases hin : i < P.length
        · obtain ⟨p, hp⟩ : ∃ p, P[i]? = some p := ⟨P[i], List.getElem?_eq_getElem hin⟩
          obtain ⟨KA, hA⟩ := both_a T.out
          obtain ⟨b, c, ap, cp, d0, c0, c1, rp, pv⟩ := rf_at hA hp
          have htd := HK.out.below F.out (Nat.le_refl _)
          have k1 := fun m => conv_str (P := Try.prog) (src := 24) (dst := 9) Try.underlying24 Try.underlying5 Try.underlying9 (rp.drewN m) cp
          have k2 := fun m => conv_str (P := Try.prog) (src := 24) (dst := 9) Try.underlying24 Try.underlying5 Try.underlying9 (htd.drewN m) kc
          have l1 := less_cmp p.1 k rp.1 htd.1
          rw [← strNums_toList, ← strNums_toList] at l1
          have hcmp : (cmpK p.1 k = -1) ↔ i < rankM k P := by
            have := cmpK_range p.1 k
            constructor
            · intro h
              by_cases hlt : i < rankM k P
              · exact hlt
              · have := rank_hi k P hu2.out i p hp (by omega); omega
            · intro h
              have := rank_lo k P i p hp h
              omega
          generalize strOfNums p.1 = s1 at k1 l1
          generalize strOfNums k = s2 at k2 l1
          have HP := hide hp
          have RP2 := hide rp
          clear hA rp htd hp
          obtain ⟨l2, hl2⟩ : ∃ l2, l2 = min (i + 1) (rankM k P) := ⟨_, rfl⟩
          have HL2 := hide hl2
          have hl2b : l2 ≤ i + 1 := by omega
          clear hl2
          obtain ⟨bb, hbb⟩ : ∃ bb : Bool, decide (cmpK p.1 k = -1) = bb := ⟨_, rfl⟩
          rw [hbb] at l1
          have e2 : Hid ((l2 : Int) = if bb then (l : Int) + 1 else (l : Int)) := by
            have h1 := HL.out
            have h2 := HL2.out
            show _ = _
            cases bb with
            | true => have := hcmp.1 (of_decide_eq_true hbb); simp; omega
            | false => have h3 := of_decide_eq_false hbb; have h4 : ¬ i < rankM k P := fun h => h3 (hcmp.2 h); simp; omega
          clear hcmp hbb
          go_upto_region 11 with fail
          go_quiet (fail)
          go_upto_if 67 with fail
          go_cut [7] (fun v wx => v = .int .i64 l2 ∧ wx = wr.drewN nq)
          case first =>
            cases bb with
            | true =>
              go_wp2_with fail
              go_meet
              case rel => exact ⟨by rw [e2.out]; rfl, rfl⟩
            | false =>
              go_wp2_with fail
              go_meet
              case rel => exact ⟨by rw [e2.out]; rfl, rfl⟩
          case rest =>
          obtain ⟨rfl, fc⟩ := hcut
          have FC : Hid (Below wr.heap.size wr wc) := by rw [fc]; exact Below.drewN' (Below.refl _ _) _
          clear fc k1 k2 l1 d0 c0 c1 RP2
          have TC := hide ((Both.lies _ _).below T.out FC.out)
          obtain ⟨KA, hA⟩ := both_a TC.out
          obtain ⟨KB, hB⟩ := both_b TC.out
          obtain ⟨b, c, ap, cp, d0, c0, c1, rp, pv⟩ := rf_at hA HP.out
          have Q := Sh.place_any ap cp p.1 wc hB rp
          rw [rank_at hu2.out HP.out, isIn_at hu2.out HP.out] at Q
          have HQ := hide Q
          have HB := hide hB
          clear hA hB rp Q
          go_wp2_with fail
          refine HQ.out.mono ?_
          rintro r w5 ⟨rfl, f5⟩
          have hsel : selM (i : Int) P = some p := by
            unfold selM
            rw [if_neg (by omega)]
            simpa using HP.out
          have A5 := Sh.select_any (i : Int) w5 ((Sh.Md.lies _ _).below HB.out f5) (by omega) (by omega)
          rw [hsel] at A5
          have HA5 := hide A5
          have F5 := hide (FC.out.trans (f5.mono FC.out.size))
          have FF5 := hide f5
          clear f5 A5 hsel d0 c0 c1 HQ
          go_wp2_with fail
          refine HA5.out.mono ?_
          rintro r w6 ⟨a6, c6, rfl, o6, b6, f6⟩
          simp only [keyO, valO, Option.isSome_some] at o6 b6 ⊢
          obtain ⟨aq, cq, eq, r6, -⟩ := owns_rd o6 b6
          simp only [Value.slice.injEq] at eq
          obtain ⟨rfl, -, rfl⟩ := eq
          have f7 := f6.alloc f6.size (.cells #[.slice a6 p.1.length c6, .int .u64 p.2] 54 (0, 0))
          have x7 : Blk (w6.alloc (.cells #[.slice a6 p.1.length c6, .int .u64 p.2] 54 (0, 0))) w6.heap.size 54 [.slice a6 p.1.length c6, .int .u64 p.2] := Blk.new w6 _ _ _ rfl
          have r7 := r6.below (below_alloc w6 (.cells #[.slice a6 p.1.length c6, .int .u64 p.2] 54 (0, 0))) (Nat.le_refl _)
          generalize hw7 : w6.alloc (.cells #[.slice a6 p.1.length c6, .int .u64 p.2] 54 (0, 0)) = w7 at f7 x7 r7
          have F7 := hide (F5.out.trans (f7.mono F5.out.size))
          have T7 := hide ((Both.lies _ _).below T.out F7.out)
          obtain ⟨KA, hA⟩ := both_a T7.out
          obtain ⟨b, c, ap, cp, d0, c0, c1, rp, pv⟩ := rf_at hA HP.out
          have x0 := x7.cell 0
          have x1 := x7.cell 1
          simp only [List.getElem?_cons_zero, List.getElem?_cons_succ] at x0 x1
          have SB := fun d => same_b a6 ap p.1 p.1 c6 cp (w7.drewN d) (r7.drewN d) (rp.drewN d)
          rw [decide_eq_true rfl] at SB
          have HS := hide SB
          clear o6 b6 f6 f7 x7 r6 r7 hA rp SB HA5
          go_wp2_with fail
          go_quiet (first | (go_at_call 38; exact Calls.quiet_of (HS.out _)))
          have T8 := hide ((Both.lies _ _).below T7.out (Below.drewN' (Below.refl _ w7) nq))
          have G8 := hide (GW.out.trans ((F7.out.trans ((Below.drewN' (Below.refl _ w7) nq).mono F7.out.size)).mono GW.out.size))
          have F8 := hide (F.out.trans ((F7.out.trans ((Below.drewN' (Below.refl _ w7) nq).mono F7.out.size)).mono F.out.size))
          clear d0 c0 c1 x0 x1 HS
          go_wp2
          go_roundw
          case rel => exact ⟨i + 1, l2, rfl, by go_num, by omega, by omega, HL2, T8, F8, G8⟩
          case measure => simp [intOf]; omega
        · obtain rfl : i = P.length := by omega
          have hlr : Hid (l = rankM k P) := by have := HL.out; show _ = _; omega
          clear HL
          obtain ⟨KA, hA⟩ := both_a T.out
          obtain ⟨KB, hB⟩ := both_b T.out
          obtain ⟨aR, cR, _, d3, _⟩ := rf_hdr hA
          have Q := Sh.place_any ka kc k wr hB (HK.out.below F.out (Nat.le_refl _))
          rw [← hlr.out] at Q
          generalize isIn k P = ii at Q
          have HQ := hide Q
          clear hA hB Q
          go_wp2_with fail
          refine HQ.out.mono ?_
          rintro r w5 ⟨rfl, f5⟩
          have T5 := hide ((Both.lies _ _).below T.out f5)
          have F5 := hide (F.out.trans (f5.mono F.out.size))
          have G5 : Hid (Below w1.heap.size w1 w5) := GW.out.trans (f5.mono GW.out.size)
          clear f5 HQ d3
          go_wp2_with fail
          go_loopw [15] (fun vi wr => ∃ i : Nat, vi = .int .i64 i ∧ i ≤ P.length ∧ Hid (Both (Rf.Md gw P) (Sh.Md gs (P.drop i)) (fun k => k < w1.heap.size) wr) ∧ Hid (Below w1.heap.size w1 wr)) (fun vi _ => (P.length - intOf vi).toNat)
          case atStart => exact ⟨0, rfl, by omega, T5, G5.out⟩
          case round =>
            clear T5 F5
            obtain ⟨i, rfl, hi, T, F⟩ := hrel
            by_cases hin : i < P.length
            · obtain ⟨p, hp⟩ : ∃ p, P[i]? = some p := ⟨P[i], List.getElem?_eq_getElem hin⟩
              obtain ⟨KA, hA⟩ := both_a T.out
              obtain ⟨b, c, ap, cp, d0, c0, c1, rp, pv⟩ := rf_at hA hp
              obtain ⟨KB, hKB, hB, hcon⟩ := T.out.right
              have dh := drop_head hu2.out hp
              have Q := Sh.drop_any ap cp p.1 wr hB rp
              rw [dh.1, dh.2.1, dh.2.2] at Q
              have HQ := hide Q
              have HC := hide hcon
              have HP := hide hp
              clear hA rp hB hcon dh Q hp
              go_wp2_with fail
              refine HQ.out.mono ?_
              rintro r w5 ⟨rfl, m5, k5⟩
              have t5 := HC.out w5 _ (Sh.Md.lies gs (P.drop (i + 1))) m5 k5
              have T5 := hide t5.1
              have F5 : Hid (Below w1.heap.size w1 w5) := F.out.trans (t5.2.below F.out.size (fun k hk => hk))
              have L5 : Hid (∀ n, Calls Try.prog 48 #[.pointer (some ⟨gs, 0, none⟩)] (w5.drewN n) fun r w' => r = .returned (.int .i64 ((P.drop (i + 1)).length : Nat)) ∧ w' = w5.drewN n) := fun n => Sh.len_any (w5.drewN n) ((Sh.Md.lies gs (P.drop (i + 1))).below m5 (Below.drewN' (Below.refl _ w5) n))
              rw [show (P.drop (i + 1)).length = P.length - 1 - i by rw [List.length_drop]; omega] at L5
              have hsub : ((P.length - 1 - i : Nat) : Int) = (P.length : Int) - 1 - (i : Int) := by omega
              rw [hsub] at L5
              obtain ⟨KA, hA⟩ := both_a T5.out
              obtain ⟨b, c, ap, cp, d0, c0, c1, rp, pv⟩ := rf_at hA HP.out
              clear hA rp m5 k5 t5 HQ HC hsub
              go_wp2_with fail
              go_quiet (first | (go_at_call 48; exact Calls.quiet_of_same (L5.out _)))
              have T6 := hide ((Both.lies _ _).below T5.out (Below.drewN' (Below.refl _ w5) nq))
              have F6 := hide (F5.out.trans ((Below.drewN' (Below.refl _ w5) nq).mono F5.out.size))
              clear d0 c0 c1 L5
              go_wp2
              go_roundw
              case rel => exact ⟨i + 1, by go_num, by omega, T6, F6⟩
              case measure => simp [intOf]; omega
            · obtain rfl : i = P.length := by omega
              obtain ⟨KA, hA⟩ := both_a T.out
              obtain ⟨aR, cR, _, d3, _⟩ := rf_hdr hA
              obtain ⟨KB, hB⟩ := both_b T.out
              rw [List.drop_eq_nil_of_le (Nat.le_refl _)] at hB
              have A5 := hide (Sh.select_any 0 wr hB (by omega) (by omega))
              clear hA hB
              go_wp2_with fail
              refine A5.out.mono ?_
              rintro r w6 ⟨a6, c6, rfl, o6, b6, f6⟩
              have hs0 : selM 0 ([] : List KV) = none := rfl
              rw [hs0]
              simp only [keyO, valO, Option.isSome_none, List.length_nil]
              have F6 : Hid (Below w.heap.size w w6) := F1.out.trans ((F.out.trans (f6.mono F.out.size)).mono F1.out.size)
              clear o6 b6 f6 hs0 A5 d3
              go_wp2_with fail
              refine (awake8_any _).mono ?_
              rintro r w9 ⟨rfl, f9⟩
              have F9 := hide (F6.out.trans (((below_alloc w6 _).trans (f9.mono (by simp))).mono F6.out.size))
              clear f9
              go_wp2
              go_ret
              exact ⟨rfl, F9.out⟩
end Go.Proofs.Ytnlhocbpoommjaa
