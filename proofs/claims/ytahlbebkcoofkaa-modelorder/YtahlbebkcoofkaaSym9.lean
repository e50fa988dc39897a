/- slices.symMergeCmpFunc over pairs. -/
import Derived.Test.YtahlbebkcoofkaaSym8
import Derived.Deep.DeepCutAuto
import Derived.Deep.CutBlock
import Derived.Deep.LoopGhost
namespace Go.Proofs.Ytahlbebkcoofkaa
set_option maxRecDepth 20000
open Go.RowKit Go.Sort
set_option linter.unusedVariables false

/-- Where two sorted lists are cut so that what stands ahead of the cuts is less than what stands behind them. -/
theorem sym_cut {L R : List Tg} (hL : L.Pairwise lt7) (hR : R.Pairwise lt7) {i j : Nat} (h1 : i = 0 ∨ j = R.length ∨ ∃ x y, L[i - 1]? = some x ∧ 0 < i ∧ R[j]? = some y ∧ lt7 x y)
    (h2 : j = 0 ∨ i = L.length ∨ ∃ x y, L[i]? = some x ∧ R[j - 1]? = some y ∧ 0 < j ∧ lt7 y x) : ∀ u ∈ L.take i ++ R.take j, ∀ v ∈ L.drop i ++ R.drop j, lt7 u v := by
  intro u hu v hv
  have tk : ∀ {S : List Tg} {n : Nat} {z : Tg}, z ∈ S.take n → ∃ q, q < n ∧ S[q]? = some z := by
    intro S n z hz
    obtain ⟨q, hq, e⟩ := List.mem_take_iff_getElem.1 hz
    exact ⟨q, by omega, by rw [List.getElem?_eq_getElem (by omega), e]⟩
  have dr : ∀ {S : List Tg} {n : Nat} {z : Tg}, z ∈ S.drop n → ∃ q, n ≤ q ∧ S[q]? = some z := by
    intro S n z hz
    obtain ⟨q, e⟩ := List.mem_iff_getElem?.1 hz
    rw [List.getElem?_drop] at e
    exact ⟨n + q, by omega, e⟩
  have le : ∀ {S : List Tg} (hS : S.Pairwise lt7) {p q : Nat} {y z t : Tg}, S[p]? = some y → S[q]? = some z → p ≤ q → (lt7 z t → lt7 y t) ∧ (lt7 t y → lt7 t z) := by
    intro S hS p q y z t hp hq hpq
    by_cases e : p = q
    · subst e; rw [hp] at hq; cases hq; exact ⟨id, id⟩
    · have := sorted_at hS hp hq (by omega)
      exact ⟨fun h => lt7_trans this h, fun h => lt7_trans h this⟩
  rcases List.mem_append.1 hu with hu | hu
  · obtain ⟨p, hp, ep⟩ := tk hu
    rcases List.mem_append.1 hv with hv | hv
    · obtain ⟨q, hq, eq⟩ := dr hv
      exact sorted_at hL ep eq (by omega)
    · obtain ⟨q, hq, eq⟩ := dr hv
      rcases h1 with h1 | h1 | ⟨x, y, hx, h0, hy, hl⟩
      · omega
      · have := (List.getElem?_eq_some_iff.1 eq).1; omega
      · exact ((le hL ep hx (by omega)).1 ((le hR hy eq hq).2 hl))
  · obtain ⟨p, hp, ep⟩ := tk hu
    rcases List.mem_append.1 hv with hv | hv
    · obtain ⟨q, hq, eq⟩ := dr hv
      rcases h2 with h2 | h2 | ⟨x, y, hx, hy, h0, hl⟩
      · omega
      · have := (List.getElem?_eq_some_iff.1 eq).1; omega
      · exact ((le hR ep hy (by omega)).1 ((le hL hx eq hq).2 hl))
    · obtain ⟨q, hq, eq⟩ := dr hv
      exact sorted_at hR ep eq (by omega)

set_option maxHeartbeats 16000000 in
set_option maxRecDepth 20000 in
theorem symMerge_any (sz : Nat) : ∀ (K : Nat → Prop) (b : Nat) (rest : List Value) (W w : World) (A L R B : List Tg) (c : Nat) (h : SW K b rest W w (A ++ (L ++ (R ++ B)))) (hL : L.Pairwise lt7) (hR : R.Pairwise lt7) (hmk : ∀ l ∈ L, ∀ r ∈ R, l.2 < r.2) (h0 : 0 < L.length) (h1 : 0 < R.length) (N M E F : Nat) (hN : N = (A ++ (L ++ (R ++ B))).length) (hn : N ≤ 1000000) (hM : M = A.length) (hE : E = A.length + L.length) (hF : F = A.length + L.length + R.length) (hsz : L.length + R.length ≤ sz),
    Calls Try.prog 72 #[.slice (some ⟨b, 0, none⟩) N c, .int .i64 M, .int .i64 E, .int .i64 F, .func (.func 40) #[] #[]] w fun r w' => r = .returned (.tuple #[]) ∧ ∃ X, SW K b rest W w' (A ++ (X ++ B)) ∧ X.Perm (L ++ R) ∧ X.Pairwise lt7 := by
  induction sz with
  | zero => intros; omega
  | succ sz ih =>
    intro K b rest W w A L R B c h hL hR hmk h0 h1 N M E F hN hn hM hE hF hsz
    by_cases hl1 : L.length = 1
    · obtain ⟨x, rfl⟩ := List.length_eq_one_iff.1 hl1
      exact symMerge_one K b rest W w A R B x c h hR (hmk x (by simp)) N M E F hN hn hM hE hF
    by_cases hr1 : R.length = 1
    · obtain ⟨x, rfl⟩ := List.length_eq_one_iff.1 hr1
      exact symMerge_last K b rest W w A L B x c h hL (fun r hr => hmk r hr x (by simp)) hl1 N M E F hN hn hM hE hF
    have IH := hide ih
    have H := hide h
    obtain ⟨D, hD⟩ : ∃ D, (M + F) / 2 = D := ⟨_, rfl⟩
    have eD : Hid (((M : Int) + (F : Int)) / 2 = (D : Int)) := by show _ = _; omega
    obtain ⟨s0, r0, hsr⟩ : ∃ s0 r0, (D < E ∧ s0 + F = D + E ∧ r0 = D) ∨ (E ≤ D ∧ s0 = M ∧ r0 = E) := by
      by_cases hDE : D < E
      · exact ⟨D + E - F, D, .inl ⟨hDE, by omega, rfl⟩⟩
      · exact ⟨M, E, .inr ⟨by omega, rfl, rfl⟩⟩
    have hFN : F ≤ N := by simp at hN; omega
    have hMD : M < D := by omega
    have hDF : D < F := by omega
    have hsr0 : s0 ≤ r0 ∧ M ≤ s0 ∧ r0 ≤ E ∧ r0 ≤ D := by omega
    have hpF : D + E ≤ F + s0 := by omega
    have hLl : Hid (L.length = E - M) := by show _ = _; omega
    have hRl : Hid (R.length = F - E) := by show _ = _; omega
    have hME : M + 2 ≤ E := by omega
    have hEF : E + 2 ≤ F := by omega
    have hSZ : Hid (F - M ≤ sz + 1) := by show _ ≤ _; omega
    have HN := hide hN
    have HM := hide hM
    have HL := hide hL
    have HR := hide hR
    have HK := hide hmk
    have hd0 : ((E : Int) - (M : Int) == 1) = false := by simp; omega
    have hd1 : ((F : Int) - (E : Int) == 1) = false := by simp; omega
    have eg : ∀ args w, (callFunc 40 args).run Try.prog w = .ok (.enter 40 args) w := enters_of Try.func40 (by kernel_rfl) rfl
    have hgL : Hid (∀ t, M ≤ t → t < E → (A ++ (L ++ (R ++ B)))[t]? = L[t - M]?) := fun t ht ht2 => by
      rw [List.getElem?_append_right (by omega), List.getElem?_append_left (by omega), hM]
    have hgR : Hid (∀ t, E ≤ t → t < F → (A ++ (L ++ (R ++ B)))[t]? = R[t - E]?) := fun t ht ht2 => by
      rw [List.getElem?_append_right (by omega), List.getElem?_append_right (by omega), List.getElem?_append_left (by omega)]
      congr 1
      omega
    have HSR := hide hsr
    clear ih h hL hR hmk hN hM hE hF hsz hl1 hr1 h0 h1 hD hsr
    go_enter Try.func72, Try.ntmps72
    go_upto_if 140 with fail
    rw [eD.out]
    go_cut [20, 21] (fun vs vr wx => vs = .int .i64 (s0 : Nat) ∧ vr = .int .i64 (r0 : Nat) ∧ wx = w)
    case first =>
      rcases HSR.out with ⟨hDE, es, er⟩ | ⟨hDE, es, er⟩
      · have e1 : Hid ((D : Int) + (E : Int) - (F : Int) = (s0 : Int)) := by show _ = _; omega
        have e2 := hide er
        clear es er
        go_wp2_with fail
        go_meet
        case rel => exact ⟨by rw [e1.out], by rw [e2.out], rfl⟩
      · have e1 := hide es
        have e2 := hide er
        clear es er
        have hDE' : ¬ (D : Int) < (E : Int) := by omega
        go_wp2_with fail
        go_meet
        case rel => exact ⟨by rw [e1.out], by rw [e2.out], rfl⟩
    case rest =>
      obtain ⟨rfl, rfl, rfl⟩ := hcut
      have H2 := hide H.out
      clear H
      go_wp2_with fail
      go_loopw [20, 21] (fun vs vr wr => ∃ s r : Nat, vs = .int .i64 s ∧ vr = .int .i64 r ∧ s0 ≤ s ∧ s ≤ r ∧ r ≤ r0 ∧ Hid (SW K b rest W wr (A ++ (L ++ (R ++ B)))) ∧ Hid (s = s0 ∨ ∃ x y, L[s - 1 - M]? = some x ∧ s0 < s ∧ R[D - s]? = some y ∧ lt7 x y) ∧ Hid (r = r0 ∨ ∃ x y, L[r - M]? = some x ∧ R[D - 1 - r]? = some y ∧ r < r0 ∧ lt7 y x)) (fun vs vr _ => (intOf vr - intOf vs).toNat)
      case atStart => exact ⟨s0, r0, rfl, rfl, by omega, by omega, by omega, H2.out, .inl rfl, .inl rfl⟩
      case round =>
      as_aux_lemma =>
      clear H2
      obtain ⟨s, r, rfl, rfl, hs0, hsr1, hr0, HS, HA, HB⟩ := hrel
      by_cases hij : s < r
      · have hm := mid_le s r hij
        generalize hmm : (s + r) / 2 = q at hm
        have e1 : Hid (((s : Int) + (r : Int)) / 2 = (q : Int)) := by show _ = _; omega
        clear hmm
        obtain ⟨z, hz⟩ : ∃ z, z = D + E - 1 - q := ⟨_, rfl⟩
        have hzw : IntKind.i64.wrap ((D : Int) + (E : Int) - 1 - (q : Int)) = (z : Int) := by rw [IntKind.wrap_i64]; omega
        have hzN : z < N := by omega
        have hqL : q - M < L.length := by have := hLl.out; omega
        have hqR : D - 1 - q < R.length := by have := hRl.out; omega
        obtain ⟨x, hx⟩ : ∃ x, L[q - M]? = some x := ⟨L[q - M], List.getElem?_eq_getElem hqL⟩
        obtain ⟨y, hy⟩ : ∃ y, R[D - 1 - q]? = some y := ⟨R[D - 1 - q], List.getElem?_eq_getElem hqR⟩
        have hxt : (A ++ (L ++ (R ++ B)))[q]? = some x := by rw [hgL.out q (by omega) (by omega)]; exact hx
        have hyt : (A ++ (L ++ (R ++ B)))[z]? = some y := by rw [hgR.out z (by omega) (by omega), show z - E = D - 1 - q by omega]; exact hy
        have d0 := cell_regrown (HS.out.cell0 hxt)
        have d1 := cell_regrown (HS.out.cell1 hxt)
        have d2 := cell_regrown (HS.out.cell0 hyt)
        have d3 := cell_regrown (HS.out.cell1 hyt)
        have SB : Hid (∀ d os, SW K b rest W (grow (redrawn wr d) os) (A ++ (L ++ (R ++ B)))) := fun d os => HS.out.below (below_regrown wr d os)
        have cB : ∀ d os, Calls Try.prog 40 #[.agg #[.slice y.1.a y.1.k.length y.1.c, .int .u64 y.1.v], .agg #[.slice x.1.a x.1.k.length x.1.c, .int .u64 x.1.v]] (grow (redrawn wr d) os) fun r w'' => r = .returned (.int .i64 (cmpK y.1.k x.1.k)) ∧ ∃ p : Regrown, w'' = grow (redrawn wr p.d) p.os := fun d os =>
          Calls.regrown_of (byKey_any y.1 x.1 _ ((SB.out d os).rd (List.mem_of_getElem? hyt)) ((SB.out d os).rd (List.mem_of_getElem? hxt)))
        have HX := hide hx
        have HY := hide hy
        have hmy := hide (HK.out x (List.mem_of_getElem? hx) y (List.mem_of_getElem? hy))
        have hqN : q < N := by omega
        clear hyt hxt hx hy hqR hqL hz
        by_cases hlt : cmpK y.1.k x.1.k < 0
        · as_aux_lemma =>
          have S1 : Hid (lt7 y x) := lt7_of_cmp hlt
          have hlt' : decide (cmpK y.1.k x.1.k < 0) = true := by simpa using hlt
          generalize hcv : cmpK y.1.k x.1.k = cv at cB hlt hlt'
          clear hcv
          go_wp2_with fail
          rw [e1.out]
          refine wp_region_quiet_below (by kernel_rfl) (by kernel_rfl) ?_
          repeat (quiet_step (first | (go_at_call 40; exact cB _ _)))
          refine wpQuiet_nil ?_
          intro _ hw'
          obtain ⟨⟨dq, osq⟩, hw''⟩ := hw'
          subst hw''
          clear cB d0 d1 d2 d3
          go_wp2
          go_roundw
          case rel => exact ⟨s, q, rfl, rfl, hs0, by omega, by omega, SB.out dq osq, HA, .inr ⟨x, y, HX.out, HY.out, by omega, S1.out⟩⟩
          case measure => simp [intOf]; omega
        · as_aux_lemma =>
          have S1 : Hid (lt7 x y) := lt7_of_not hmy.out hlt
          have hlt' : decide (cmpK y.1.k x.1.k < 0) = false := by simpa using hlt
          generalize hcv : cmpK y.1.k x.1.k = cv at cB hlt hlt'
          clear hcv
          go_wp2_with fail
          rw [e1.out]
          refine wp_region_quiet_below (by kernel_rfl) (by kernel_rfl) ?_
          repeat (quiet_step (first | (go_at_call 40; exact cB _ _)))
          refine wpQuiet_nil ?_
          intro _ hw'
          obtain ⟨⟨dq, osq⟩, hw''⟩ := hw'
          subst hw''
          clear cB d0 d1 d2 d3
          go_wp2
          go_roundw
          case rel => exact ⟨q + 1, r, by go_num, rfl, by omega, by omega, by omega, SB.out dq osq, .inr ⟨x, y, by rw [show q + 1 - 1 - M = q - M by omega]; exact HX.out, by omega, by rw [show D - (q + 1) = D - 1 - q by omega]; exact HY.out, S1.out⟩, HB⟩
          case measure => simp [intOf]; omega
      · as_aux_lemma =>
        obtain rfl : r = s := by omega
        obtain ⟨en, hen⟩ : ∃ en, en = D + E - r := ⟨_, rfl⟩
        have henI : Hid ((D : Int) + (E : Int) - (r : Int) = (en : Int)) := by show _ = _; omega
        have henD : en = E + (D - r) := by omega
        have hct0 := hide (sym_cut HL.out HR.out (i := r - M) (j := D - r)
          (by
            rcases HA.out with h | ⟨x, y, hx, h0, hy, hl⟩
            · rcases HSR.out with ⟨h1, h2, h3⟩ | ⟨h1, h2, h3⟩
              · right; left; have := hRl.out; omega
              · left; omega
            · right; right; exact ⟨x, y, by rw [show r - M - 1 = r - 1 - M by omega]; exact hx, by omega, hy, hl⟩)
          (by
            rcases HB.out with h | ⟨x, y, hx, hy, h0, hl⟩
            · rcases HSR.out with ⟨h1, h2, h3⟩ | ⟨h1, h2, h3⟩
              · left; omega
              · right; left; have := hLl.out; omega
            · right; right; exact ⟨x, y, hx, by rw [show D - r - 1 = D - 1 - r by omega]; exact hy, by omega, hl⟩))
        obtain ⟨L1, L2, R1, R2, eL, eR, l1, l2, l3, l4, hcut⟩ : ∃ L1 L2 R1 R2, L = L1 ++ L2 ∧ R = R1 ++ R2 ∧ L1.length = r - M ∧ L2.length = E - r ∧ R1.length = en - E ∧ R2.length = F - en ∧ ∀ u ∈ L1 ++ R1, ∀ v ∈ L2 ++ R2, lt7 u v :=
          ⟨L.take (r - M), L.drop (r - M), R.take (D - r), R.drop (D - r), (List.take_append_drop _ _).symm, (List.take_append_drop _ _).symm, by have := hLl.out; simp; omega, by have := hLl.out; simp; omega, by have := hRl.out; simp; omega, by have := hRl.out; simp; omega, hct0.out⟩
        clear hct0
        subst eL eR
        have HC := hide hcut
        have HL1 := hide l1
        have HL2 := hide l2
        have HR1 := hide l3
        have HR2 := hide l4
        have hrb : M ≤ r ∧ r ≤ E ∧ E ≤ en ∧ en ≤ F ∧ r ≤ D ∧ D ≤ en ∧ en - D = E - r := by omega
        clear hcut l1 l2 l3 l4 HA HB hen henD hij hsr1 hs0 hr0 hpF
        go_upto_region 39 with fail
        rw [henI.out]
        go_cut [185] (fun v wx => v = .bool (decide (r < E ∧ E < en)) ∧ wx = wr)
        case first =>
          by_cases q1 : r < E
          · by_cases q2 : E < en
            · go_wp2_with fail
              go_meet
              case rel => exact ⟨by simp [q1, q2], rfl⟩
            · go_wp2_with fail
              go_meet
              case rel => exact ⟨by simp [q1, q2], rfl⟩
          · go_wp2_with fail
            go_meet
            case rel => exact ⟨by simp [q1], rfl⟩
        case rest =>
        as_aux_lemma =>
        obtain ⟨rfl, hwc⟩ := hcut
        have HWC := hide hwc
        clear hwc
        go_upto_if 185 with fail
        go_cut [] (fun wx => SW K b rest W wx (A ++ (L1 ++ (R1 ++ (L2 ++ (R2 ++ B))))))
        case first =>
          by_cases q : r < E ∧ E < en
          · rw [decide_eq_true q]
            have S0 : Hid (SW K b rest W wc ((A ++ L1) ++ (L2 ++ (R1 ++ (R2 ++ B))))) := by
              show SW K b rest W wc _
              rw [HWC.out]
              simpa using HS.out
            go_wp2_with fail
            refine (rotate_any K b rest W wc (A ++ L1) L2 R1 (R2 ++ B) c S0.out N r E en ?_ hn ?_ ?_ ?_ (by have := HL2.out; omega) (by have := HR1.out; omega)).mono ?_
            · have h1 := HN.out
              simp at h1 ⊢
              omega
            · have := HL1.out; have := HM.out; simp; omega
            · have := HL1.out; have := HL2.out; have := HM.out; simp; omega
            · have := HL1.out; have := HL2.out; have := HR1.out; have := HM.out; simp; omega
            rintro e w3 ⟨rfl, s3⟩
            have S3 := hide s3
            clear s3
            go_wp2_with fail
            go_meet
            case rel => simpa using S3.out
          · rw [decide_eq_false q]
            go_wp2_with fail
            go_meet
            case rel =>
              rw [HWC.out]
              have h9 := HS.out
              by_cases z : L2 = []
              · subst z; simpa using h9
              · have z2 : R1 = [] := by
                  have := HL2.out; have := HR1.out
                  have h5 : 0 < L2.length := List.length_pos_iff.2 z
                  exact List.eq_nil_of_length_eq_zero (by omega)
                subst z2; simpa using h9
        case rest =>
        as_aux_lemma =>
        have S1 := hide hcut
        clear hcut HWC HS
        go_upto_region 41 with fail
        go_cut [199] (fun v wx => v = .bool (decide (M < r ∧ r < D)) ∧ wx = wc)
        case first =>
          by_cases q1 : M < r
          · by_cases q2 : r < D
            · go_wp2_with fail
              go_meet
              case rel => exact ⟨by simp [q1, q2], rfl⟩
            · go_wp2_with fail
              go_meet
              case rel => exact ⟨by simp [q1, q2], rfl⟩
          · go_wp2_with fail
            go_meet
            case rel => exact ⟨by simp [q1], rfl⟩
        case rest =>
        as_aux_lemma =>
        obtain ⟨rfl, hwc⟩ := hcut
        have HWC := hide hwc
        clear hwc
        go_upto_if 199 with fail
        go_cut [] (fun wx => ∃ X1, SW K b rest W wx (A ++ (X1 ++ (L2 ++ (R2 ++ B)))) ∧ X1.Perm (L1 ++ R1) ∧ X1.Pairwise lt7)
        case first =>
          by_cases q : M < r ∧ r < D
          · rw [decide_eq_true q]
            have S1' : Hid (SW K b rest W wc (A ++ (L1 ++ (R1 ++ (L2 ++ (R2 ++ B)))))) := by
              show SW K b rest W wc _
              rw [HWC.out]
              exact S1.out
            go_wp2_with fail
            refine (IH.out K b rest W wc A L1 R1 (L2 ++ (R2 ++ B)) c S1'.out (List.pairwise_append.1 HL.out).1 (List.pairwise_append.1 HR.out).1 (fun l hl r hr => HK.out l (by simp [hl]) r (by simp [hr])) (by have := HL1.out; omega) (by have := HR1.out; omega) N M r D ?_ hn HM.out ?_ ?_ ?_).mono ?_
            · have h1 := HN.out
              simp at h1 ⊢
              omega
            · have := HL1.out; have := HM.out; omega
            · have := HL1.out; have := HM.out; have := HR1.out; omega
            · have := HL1.out; have := HR1.out; have := hSZ.out; omega
            rintro e w3 ⟨rfl, X1, s3, p3, o3⟩
            have S3 := hide s3
            have P3 := hide p3
            have O3 := hide o3
            clear s3 p3 o3
            go_wp2_with fail
            go_meet
            case rel => exact ⟨X1, S3.out, P3.out, O3.out⟩
          · rw [decide_eq_false q]
            go_wp2_with fail
            go_meet
            case rel =>
              rw [HWC.out]
              refine ⟨L1 ++ R1, by simpa using S1.out, List.Perm.refl _, ?_⟩
              have a1 := (List.pairwise_append.1 HL.out).1
              have a2 := (List.pairwise_append.1 HR.out).1
              by_cases z : L1 = []
              · subst z; simpa using a2
              · have z2 : R1 = [] := by
                  have := HL1.out; have := HR1.out
                  have h5 : 0 < L1.length := List.length_pos_iff.2 z
                  exact List.eq_nil_of_length_eq_zero (by omega)
                subst z2; simpa using a1
        case rest =>
        as_aux_lemma =>
        obtain ⟨X1, s2, p2, o2⟩ := hcut
        have S2 := hide s2
        have X1P := hide p2
        have X1S := hide o2
        clear s2 p2 o2 S1 HWC
        go_upto_region 43 with fail
        go_cut [213] (fun v wx => v = .bool (decide (D < en ∧ en < F)) ∧ wx = wc)
        case first =>
          by_cases q1 : D < en
          · by_cases q2 : en < F
            · go_wp2_with fail
              go_meet
              case rel => exact ⟨by simp [q1, q2], rfl⟩
            · go_wp2_with fail
              go_meet
              case rel => exact ⟨by simp [q1, q2], rfl⟩
          · go_wp2_with fail
            go_meet
            case rel => exact ⟨by simp [q1], rfl⟩
        case rest =>
        as_aux_lemma =>
        obtain ⟨rfl, hwc⟩ := hcut
        have HWC := hide hwc
        clear hwc
        by_cases q : D < en ∧ en < F
        · rw [decide_eq_true q]
          have S3' : Hid (SW K b rest W wc ((A ++ X1) ++ (L2 ++ (R2 ++ B)))) := by
            show SW K b rest W wc _
            rw [HWC.out]
            simpa using S2.out
          go_wp2_with fail
          refine (IH.out K b rest W wc (A ++ X1) L2 R2 B c S3'.out (List.pairwise_append.1 HL.out).2.1 (List.pairwise_append.1 HR.out).2.1 (fun l hl r hr => HK.out l (by simp [hl]) r (by simp [hr])) (by have := HL2.out; omega) (by have := HR2.out; omega) N D en F ?_ hn ?_ ?_ ?_ ?_).mono ?_
          · have h1 := HN.out
            have h2 := X1P.out.length_eq
            simp at h1 h2 ⊢
            omega
          · have h2 := X1P.out.length_eq
            have := HL1.out; have := HR1.out; have := HM.out
            simp at h2 ⊢
            omega
          · have h2 := X1P.out.length_eq
            have := HL1.out; have := HR1.out; have := HM.out; have := HL2.out
            simp at h2 ⊢
            omega
          · have h2 := X1P.out.length_eq
            have := HL1.out; have := HR1.out; have := HM.out; have := HL2.out; have := HR2.out
            simp at h2 ⊢
            omega
          · have := HL2.out; have := HR2.out; have := hSZ.out; omega
          rintro e w3 ⟨rfl, X2, s3, p3, o3⟩
          have S3 := hide s3
          have P3 := hide p3
          have O3 := hide o3
          clear s3 p3 o3
          go_wp2
          go_end0
          refine ⟨rfl, X1 ++ X2, by simpa using S3.out, ?_, ?_⟩
          · have h1 := X1P.out.append P3.out
            refine h1.trans ?_
            simp only [List.append_assoc]
            exact List.Perm.append_left L1 (by rw [← List.append_assoc, ← List.append_assoc]; exact List.Perm.append_right R2 List.perm_append_comm)
          · exact List.pairwise_append.2 ⟨X1S.out, O3.out, fun u hu v hv => HC.out u (X1P.out.subset hu) v (P3.out.subset hv)⟩
        · rw [decide_eq_false q]
          go_wp2
          go_end0
          rw [HWC.out]
          refine ⟨rfl, X1 ++ (L2 ++ R2), by simpa using S2.out, ?_, ?_⟩
          · refine (X1P.out.append_right (L2 ++ R2)).trans ?_
            simp only [List.append_assoc]
            exact List.Perm.append_left L1 (by rw [← List.append_assoc, ← List.append_assoc]; exact List.Perm.append_right R2 List.perm_append_comm)
          · refine List.pairwise_append.2 ⟨X1S.out, ?_, fun u hu v hv => HC.out u (X1P.out.subset hu) v hv⟩
            have a1 := (List.pairwise_append.1 HL.out).2.1
            have a2 := (List.pairwise_append.1 HR.out).2.1
            by_cases z : L2 = []
            · subst z; simpa using a2
            · have z2 : R2 = [] := by
                have := HL2.out; have := HR2.out
                have h5 : 0 < L2.length := List.length_pos_iff.2 z
                exact List.eq_nil_of_length_eq_zero (by omega)
              subst z2; simpa using a1
end Go.Proofs.Ytahlbebkcoofkaa
