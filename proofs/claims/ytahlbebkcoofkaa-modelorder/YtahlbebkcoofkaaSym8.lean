/- slices.symMergeCmpFunc over pairs, where the right side is one pair. -/
import Derived.Test.YtahlbebkcoofkaaSym7
namespace Go.Proofs.Ytahlbebkcoofkaa
set_option maxRecDepth 20000
open Go.RowKit Go.Sort
set_option linter.unusedVariables false

set_option maxHeartbeats 8000000 in
set_option maxRecDepth 20000 in
theorem symMerge_last (K : Nat → Prop) (b : Nat) (rest : List Value) (W w : World) (A R B : List Tg) (x : Tg) (c : Nat) (h : SW K b rest W w (A ++ (R ++ ([x] ++ B)))) (hR : R.Pairwise lt7) (hmk : ∀ r ∈ R, r.2 < x.2) (h2 : R.length ≠ 1) (N M E F : Nat) (hN : N = (A ++ (R ++ ([x] ++ B))).length) (hn : N ≤ 1000000) (hM : M = A.length) (hE : E = A.length + R.length) (hF : F = A.length + R.length + 1) :
    Calls Try.prog 72 #[.slice (some ⟨b, 0, none⟩) N c, .int .i64 M, .int .i64 E, .int .i64 F, .func (.func 40) #[] #[]] w fun r w' => r = .returned (.tuple #[]) ∧ ∃ X, SW K b rest W w' (A ++ (X ++ B)) ∧ X.Perm (R ++ [x]) ∧ X.Pairwise lt7 := by
  have H := hide h
  have hFN : F ≤ N := by simp at hN; omega
  have hEN : E < N := by omega
  have hME : M ≤ E := by omega
  have hEF : E < F := by omega
  have hRE : Hid (R.length = E - M) := by show _ = _; omega
  have HN := hide hN
  have HM := hide hM
  have HR := hide hR
  have HK := hide hmk
  have hd0 : ((E : Int) - (M : Int) == 1) = false := by simp; omega
  have hd1 : ((F : Int) - (E : Int) == 1) = true := by simp; omega
  have eg : ∀ args w, (callFunc 40 args).run Try.prog w = .ok (.enter 40 args) w := enters_of Try.func40 (by kernel_rfl) rfl
  have hx0 : Hid ((A ++ (R ++ ([x] ++ B)))[E]? = some x) := by
    show _ = _
    rw [← List.append_assoc]
    exact get_mid (A ++ R) x B E (by simp; omega)
  have hgR : Hid (∀ t, M ≤ t → t < E → (A ++ (R ++ ([x] ++ B)))[t]? = R[t - M]?) := fun t ht ht2 => by
    rw [List.getElem?_append_right (by omega), List.getElem?_append_left (by omega), hM]
  clear h hN hM hF hR hmk hE h2
  go_enter Try.func72, Try.ntmps72
  go_wp2_with fail
  go_loopw [14, 15] (fun vi vj wr => ∃ i j : Nat, vi = .int .i64 i ∧ vj = .int .i64 j ∧ M ≤ i ∧ i ≤ j ∧ j ≤ E ∧ Hid (SW K b rest W wr (A ++ (R ++ ([x] ++ B)))) ∧ Se R x (i - M) (j - M)) (fun vi vj _ => (intOf vj - intOf vi).toNat)
  case atStart => exact ⟨M, E, rfl, rfl, by omega, hME, by omega, H, by have := hRE.out; rw [← this, Nat.sub_self]; exact Se.start R x⟩
  case round =>
    clear H
    obtain ⟨i, j, rfl, rfl, hi, hij0, hj, HS, hse⟩ := hrel
    have SE := hide hse
    clear hse
    by_cases hij : i < j
    · have hm := mid_le i j hij
      generalize hmm : (i + j) / 2 = q at hm
      have e1 : Hid (((i : Int) + (j : Int)) / 2 = (q : Int)) := by show _ = _; omega
      clear hmm
      have hqR : q - M < R.length := by have := hRE.out; omega
      obtain ⟨y, hy⟩ : ∃ y, R[q - M]? = some y := ⟨R[q - M], List.getElem?_eq_getElem hqR⟩
      have hyt : (A ++ (R ++ ([x] ++ B)))[q]? = some y := by rw [hgR.out q (by omega) (by omega)]; exact hy
      have d0 := cell_regrown (HS.out.cell0 hyt)
      have d1 := cell_regrown (HS.out.cell1 hyt)
      have d2 := cell_regrown (HS.out.cell0 hx0.out)
      have d3 := cell_regrown (HS.out.cell1 hx0.out)
      have SB : Hid (∀ d os, SW K b rest W (grow (redrawn wr d) os) (A ++ (R ++ ([x] ++ B)))) := fun d os => HS.out.below (below_regrown wr d os)
      have cB : ∀ d os, Calls Try.prog 40 #[.agg #[.slice x.1.a x.1.k.length x.1.c, .int .u64 x.1.v], .agg #[.slice y.1.a y.1.k.length y.1.c, .int .u64 y.1.v]] (grow (redrawn wr d) os) fun r w'' => r = .returned (.int .i64 (cmpK x.1.k y.1.k)) ∧ ∃ p : Regrown, w'' = grow (redrawn wr p.d) p.os := fun d os =>
        Calls.regrown_of (byKey_any x.1 y.1 _ ((SB.out d os).rd (List.mem_of_getElem? hx0.out)) ((SB.out d os).rd (List.mem_of_getElem? hyt)))
      have HY := hide hy
      have hmy := HK.out y (List.mem_of_getElem? hy)
      have hqN : q < N := by omega
      clear hyt hy hqR
      by_cases hlt : cmpK x.1.k y.1.k < 0
      · have S1 := hide (SE.out.down HR.out HY.out (lt7_of_cmp hlt))
        have hlt' : decide (cmpK x.1.k y.1.k < 0) = true := by simpa using hlt
        generalize hcv : cmpK x.1.k y.1.k = cv at cB hlt hlt'
        clear hcv hmy
        go_wp2_with fail
        rw [e1.out]
        refine wp_region_quiet_below (by kernel_rfl) (by kernel_rfl) ?_
        repeat (quiet_step (first | (go_at_call 40; exact cB _ _)))
        refine wpQuiet_nil ?_
        intro _ hw'
        obtain ⟨⟨dq, osq⟩, hw''⟩ := hw'
        subst hw''
        clear cB d0 d1 d2 d3
        go_wp2
        go_roundw
        case rel => exact ⟨i, q, rfl, rfl, hi, by omega, by omega, SB.out dq osq, S1.out⟩
        case measure => simp [intOf]; omega
      · have S1 := hide (SE.out.up HR.out HY.out (lt7_of_not hmy hlt))
        have hlt' : decide (cmpK x.1.k y.1.k < 0) = false := by simpa using hlt
        generalize hcv : cmpK x.1.k y.1.k = cv at cB hlt hlt'
        clear hcv hmy
        go_wp2_with fail
        rw [e1.out]
        refine wp_region_quiet_below (by kernel_rfl) (by kernel_rfl) ?_
        repeat (quiet_step (first | (go_at_call 40; exact cB _ _)))
        refine wpQuiet_nil ?_
        intro _ hw'
        obtain ⟨⟨dq, osq⟩, hw''⟩ := hw'
        subst hw''
        clear cB d0 d1 d2 d3
        go_wp2
        go_roundw
        case rel => exact ⟨q + 1, j, by go_num, rfl, by omega, by omega, hj, SB.out dq osq, by rw [show q + 1 - M = q - M + 1 by omega]; exact S1.out⟩
        case measure => simp [intOf]; omega
    · obtain rfl : j = i := by omega
      have hsp := hide (SE.out.split HR.out)
      obtain ⟨n, hn'⟩ : ∃ n, n = j - M := ⟨_, rfl⟩
      rw [← hn'] at hsp
      have hjn : Hid (j = M + n) := by show _ = _; omega
      have hl1 : Hid ((R.drop n).length = E - j) := by have := hRE.out; show _ = _; simp; omega
      have hl2 : Hid ((R.take n).length = n) := by have := hRE.out; show _ = _; simp; omega
      have hm0 : Hid (Mv (A ++ R.take n) (R.drop n) B (A ++ (R ++ ([x] ++ B))) x (E - j)) := ⟨R.drop n, [], by simp, hl1.out, by simp [← List.append_assoc, List.append_assoc A (R.take n)]⟩
      clear hn' SE hij hij0
      go_wp2_with fail
      go_loopw [17] (fun vk wr => ∃ (k : Nat) (ts : List Tg), vk = .int .i64 k ∧ j ≤ k ∧ k ≤ E ∧ Hid (SW K b rest W wr ts) ∧ Hid (ts.length = N) ∧ Mv (A ++ R.take n) (R.drop n) B ts x (k - j)) (fun vk _ => (intOf vk).toNat)
      case atStart => exact ⟨E, _, rfl, hj, by omega, HS, HN.out.symm, hm0.out⟩
      case round =>
        clear HS hm0
        obtain ⟨k, ts, rfl, hk0, hk1, HS, HT, hmv⟩ := hrel
        have MV := hide hmv
        clear hmv
        by_cases htn : j < k
        · obtain ⟨p, rfl⟩ : ∃ p, k = p + 1 := ⟨k - 1, by omega⟩
          have hAl : (A ++ R.take n).length = j := by have := hjn.out; have := HM.out; have := hl2.out; simp at this ⊢; omega
          have mv2 : Mv (A ++ R.take n) (R.drop n) B ts x (p - j + 1) := by rw [show p - j + 1 = p + 1 - j by omega]; exact MV.out
          obtain ⟨y, hyR, hy, hmv⟩ := mv2.left p (by omega)
          have hxk := MV.out.at (p + 1) (by omega)
          have MV2 := hide hmv
          have hkN : p + 1 < N := by omega
          have c0 := HS.out.cell0 hxk
          have c1 := HS.out.cell1 hxk
          have c2 := HS.out.cell0 hy
          have c3 := HS.out.cell1 hy
          have f0 := HS.out.frozen (p * 2)
          have f1 := HS.out.frozen (p * 2 + 1)
          have f2 := HS.out.frozen ((p + 1) * 2)
          have f3 := HS.out.frozen ((p + 1) * 2 + 1)
          have jz : (p : Int) + 1 < (N : Int) := by omega
          have jz1 : (p : Int) < (N : Int) := by omega
          have p0 : (0 : Int) ≤ (p : Int) + 1 := by omega
          have e0 : ((p : Int) + 1).toNat = p + 1 := by omega
          have hwp : IntKind.i64.wrap (p : Int) = (p : Int) := by rw [IntKind.wrap_i64]; omega
          have hd : (j : Int) < (p : Int) + 1 := by omega
          have HS3 := hide (HS.out.swap (p + 1) p x y hxk hy).drew
          clear hyR hy hmv hxk MV mv2 hAl
          go_wp2_with fail
          go_region
          generalize ((((wr.setCell ⟨b, (p + 1) * 2, none⟩ (.slice y.1.a y.1.k.length y.1.c)).setCell ⟨b, (p + 1) * 2 + 1, none⟩ (.int .u64 y.1.v)).setCell ⟨b, p * 2, none⟩ (.slice x.1.a x.1.k.length x.1.c)).setCell ⟨b, p * 2 + 1, none⟩ (.int .u64 x.1.v)).drew = wt at HS3 ⊢
          clear c0 c1 c2 c3 f0 f1 f2 f3 HS
          go_wp2
          go_roundw
          case rel => exact ⟨p, _, by go_num, by omega, by omega, HS3, by show List.length _ = N; simpa using HT.out, MV2.out⟩
          case measure => simp [intOf]
        · obtain rfl : k = j := by omega
          go_wp2
          (try simp only [Exit.inBlock, Exit.then])
          refine bodyPost_ret (results_none rfl _ _ _) rfl ?_
          obtain ⟨S1, S2, e1, l, e⟩ := MV.out.ex
          have h2 : S1 = [] := List.eq_nil_of_length_eq_zero (by omega)
          subst h2
          simp only [List.nil_append] at e1
          subst e1
          have h3 := HS.out
          rw [e] at h3
          refine ⟨rfl, R.take n ++ x :: R.drop n, ?_, ?_, hsp.out⟩
          · simpa using h3
          · have h4 : (R.take n ++ x :: R.drop n).Perm (x :: (R.take n ++ R.drop n)) := List.perm_middle
            rw [List.take_append_drop] at h4
            exact h4.trans (List.perm_append_comm (l₁ := [x]))
end Go.Proofs.Ytahlbebkcoofkaa
