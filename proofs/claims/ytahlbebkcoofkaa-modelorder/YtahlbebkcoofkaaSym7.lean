/- slices.symMergeCmpFunc over pairs, where one side is one pair. -/
import Derived.Test.YtahlbebkcoofkaaRot7
namespace Go.Proofs.Ytahlbebkcoofkaa
set_option maxRecDepth 20000
open Go.RowKit Go.Sort
set_option linter.unusedVariables false

/-- Where the search for the place of x stands. -/
structure Se (R : List Tg) (x : Tg) (i j : Nat) : Prop where
  lo : ∀ t r, R[t]? = some r → t < i → lt7 r x
  hi : ∀ t r, R[t]? = some r → j ≤ t → lt7 x r
theorem Se.start (R : List Tg) (x : Tg) : Se R x 0 R.length := ⟨fun _ _ _ h => by omega, fun t r h h1 => by have := (List.getElem?_eq_some_iff.1 h).1; omega⟩
theorem sorted_at {R : List Tg} (h : R.Pairwise lt7) {s t : Nat} {x y : Tg} (hs : R[s]? = some x) (ht : R[t]? = some y) (hst : s < t) : lt7 x y := by
  have h1 := List.getElem?_eq_some_iff.1 hs
  have h2 := List.getElem?_eq_some_iff.1 ht
  have := List.pairwise_iff_getElem.1 h s t h1.1 h2.1 hst
  rwa [h1.2, h2.2] at this
theorem Se.up {R : List Tg} {x : Tg} {i j h : Nat} {r : Tg} (s : Se R x i j) (p : R.Pairwise lt7) (hr : R[h]? = some r) (hl : lt7 r x) : Se R x (h + 1) j := by
  refine ⟨fun t u hu ht => ?_, s.hi⟩
  by_cases e : t = h
  · subst e; rw [hr] at hu; cases hu; exact hl
  · exact lt7_trans (sorted_at p hu hr (by omega)) hl
theorem Se.down {R : List Tg} {x : Tg} {i j h : Nat} {r : Tg} (s : Se R x i j) (p : R.Pairwise lt7) (hr : R[h]? = some r) (hl : lt7 x r) : Se R x i h := by
  refine ⟨s.lo, fun t u hu ht => ?_⟩
  by_cases e : t = h
  · subst e; rw [hr] at hu; cases hu; exact hl
  · exact lt7_trans hl (sorted_at p hr hu (by omega))
theorem Se.split {R : List Tg} {x : Tg} {i : Nat} (s : Se R x i i) (p : R.Pairwise lt7) : (R.take i ++ x :: R.drop i).Pairwise lt7 := by
  refine ins_sorted (by rw [List.take_append_drop]; exact p) (fun u hu => ?_) (fun u hu => ?_)
  · obtain ⟨q, hq, hqe⟩ := List.mem_take_iff_getElem.1 hu
    exact s.lo q u (by rw [List.getElem?_eq_getElem (by omega), hqe]) (by omega)
  · obtain ⟨q, hq⟩ := List.mem_iff_getElem?.1 hu
    rw [List.getElem?_drop] at hq
    exact s.hi (i + q) u hq (by omega)
/-- Where the moving of x stands. -/
structure Mv (A R1 C ts : List Tg) (x : Tg) (t : Nat) : Prop where
  ex : ∃ S1 S2 : List Tg, R1 = S1 ++ S2 ∧ S1.length = t ∧ ts = A ++ (S1 ++ x :: (S2 ++ C))
theorem Mv.at {A R1 C ts : List Tg} {x : Tg} {t : Nat} (h : Mv A R1 C ts x t) (j : Nat) (hj : j = A.length + t) : ts[j]? = some x := by
  obtain ⟨S1, S2, e1, l, e⟩ := h.ex
  rw [e, ← List.append_assoc]
  exact get_mid _ _ _ _ (by simp; omega)
theorem Mv.right {A R1 C ts : List Tg} {x : Tg} {t : Nat} (h : Mv A R1 C ts x t) (ht : t < R1.length) (j : Nat) (hj : j = A.length + t) : ∃ y, y ∈ R1 ∧ ts[j + 1]? = some y ∧ Mv A R1 C ((ts.set j y).set (j + 1) x) x (t + 1) := by
  obtain ⟨S1, S2, e1, l, e⟩ := h.ex
  cases S2 with
  | nil => simp at e1; subst e1; omega
  | cons y S2 =>
    refine ⟨y, by rw [e1]; simp, ?_, S1 ++ [y], S2, by simp [e1], by simp [l], ?_⟩
    · have e2 : ts = (A ++ (S1 ++ [x])) ++ y :: (S2 ++ C) := by rw [e]; simp
      rw [e2]; exact get_mid _ _ _ _ (by simp; omega)
    · have e2 : ts = (A ++ S1) ++ x :: ([] ++ y :: (S2 ++ C)) := by rw [e]; simp
      rw [e2, swap_far (A ++ S1) x [] y (S2 ++ C) _ _ (by simp; omega) (by simp; omega)]
      simp
theorem Mv.left {A R1 C ts : List Tg} {x : Tg} {t : Nat} (h : Mv A R1 C ts x (t + 1)) (j : Nat) (hj : j = A.length + t) : ∃ y, y ∈ R1 ∧ ts[j]? = some y ∧ Mv A R1 C ((ts.set (j + 1) y).set j x) x t := by
  obtain ⟨S1, S2, e1, l, e⟩ := h.ex
  rcases List.eq_nil_or_concat S1 with rfl | ⟨S, y, rfl⟩
  · simp at l
  · simp only [List.concat_eq_append, List.append_assoc, List.singleton_append] at e e1 l
    simp at l
    refine ⟨y, by rw [e1]; simp, ?_, S, y :: S2, by simp [e1], by omega, ?_⟩
    · have e2 : ts = (A ++ S) ++ y :: (x :: (S2 ++ C)) := by rw [e]; simp
      rw [e2]; exact get_mid _ _ _ _ (by simp; omega)
    · have e2 : ts = (A ++ S) ++ y :: x :: (S2 ++ C) := by rw [e]; simp
      rw [e2, swap_near (A ++ S) y x _ j (by simp; omega)]
      simp

set_option maxHeartbeats 8000000 in
set_option maxRecDepth 20000 in
theorem symMerge_one (K : Nat → Prop) (b : Nat) (rest : List Value) (W w : World) (A R B : List Tg) (x : Tg) (c : Nat) (h : SW K b rest W w (A ++ ([x] ++ (R ++ B)))) (hR : R.Pairwise lt7) (hmk : ∀ r ∈ R, x.2 < r.2) (N M E F : Nat) (hN : N = (A ++ ([x] ++ (R ++ B))).length) (hn : N ≤ 1000000) (hM : M = A.length) (hE : E = A.length + 1) (hF : F = A.length + 1 + R.length) :
    Calls Try.prog 72 #[.slice (some ⟨b, 0, none⟩) N c, .int .i64 M, .int .i64 E, .int .i64 F, .func (.func 40) #[] #[]] w fun r w' => r = .returned (.tuple #[]) ∧ ∃ X, SW K b rest W w' (A ++ (X ++ B)) ∧ X.Perm ([x] ++ R) ∧ X.Pairwise lt7 := by
  have H := hide h
  have hFN : F ≤ N := by simp at hN; omega
  have hMM : M < N := by omega
  have hEM : Hid (E = M + 1) := by show _ = _; omega
  have hRF : Hid (R.length = F - E) := by show _ = _; omega
  have hFF : E ≤ F := by omega
  have hME : M < E := by omega
  have HN := hide hN
  have HM := hide hM
  have HR := hide hR
  have HK := hide hmk
  have hd0 : ((E : Int) - (M : Int) == 1) = true := by simp; omega
  have eg : ∀ args w, (callFunc 40 args).run Try.prog w = .ok (.enter 40 args) w := enters_of Try.func40 (by kernel_rfl) rfl
  have hx0 : Hid ((A ++ ([x] ++ (R ++ B)))[M]? = some x) := by
    show _ = _
    exact get_mid A x (R ++ B) M hM
  have hgR : Hid (∀ t, E ≤ t → (A ++ ([x] ++ (R ++ B)))[t]? = (R ++ B)[t - E]?) := fun t ht => by
    have : A ++ ([x] ++ (R ++ B)) = (A ++ [x]) ++ (R ++ B) := by simp
    rw [this, List.getElem?_append_right (by simp; omega)]
    congr 1
    simp; omega
  clear h hN hM hF hR hmk hE
  go_enter Try.func72, Try.ntmps72
  go_wp2_with fail
  go_loopw [10, 11] (fun vi vj wr => ∃ i j : Nat, vi = .int .i64 i ∧ vj = .int .i64 j ∧ E ≤ i ∧ i ≤ j ∧ j ≤ F ∧ Hid (SW K b rest W wr (A ++ ([x] ++ (R ++ B)))) ∧ Se R x (i - E) (j - E)) (fun vi vj _ => (intOf vj - intOf vi).toNat)
  case atStart => exact ⟨E, F, rfl, rfl, by omega, hFF, by omega, H, by have := hRF.out; rw [← this, Nat.sub_self]; exact Se.start R x⟩
  case round =>
    clear H
    obtain ⟨i, j, rfl, rfl, hi, hij0, hj, HS, hse⟩ := hrel
    have SE := hide hse
    clear hse
    by_cases hij : i < j
    · have hm := mid_le i j hij
      generalize hmm : (i + j) / 2 = q at hm
      have e1 : Hid (((i : Int) + (j : Int)) / 2 = (q : Int)) := by show _ = _; omega
      clear hmm
      have hqR : q - E < R.length := by have := hRF.out; omega
      obtain ⟨y, hy⟩ : ∃ y, R[q - E]? = some y := ⟨R[q - E], List.getElem?_eq_getElem hqR⟩
      have hyt : (A ++ ([x] ++ (R ++ B)))[q]? = some y := by rw [hgR.out q (by omega), List.getElem?_append_left hqR]; exact hy
      have d0 := cell_regrown (HS.out.cell0 hyt)
      have d1 := cell_regrown (HS.out.cell1 hyt)
      have d2 := cell_regrown (HS.out.cell0 hx0.out)
      have d3 := cell_regrown (HS.out.cell1 hx0.out)
      have SB : Hid (∀ d os, SW K b rest W (grow (redrawn wr d) os) (A ++ ([x] ++ (R ++ B)))) := fun d os => HS.out.below (below_regrown wr d os)
      have cB : ∀ d os, Calls Try.prog 40 #[.agg #[.slice y.1.a y.1.k.length y.1.c, .int .u64 y.1.v], .agg #[.slice x.1.a x.1.k.length x.1.c, .int .u64 x.1.v]] (grow (redrawn wr d) os) fun r w'' => r = .returned (.int .i64 (cmpK y.1.k x.1.k)) ∧ ∃ p : Regrown, w'' = grow (redrawn wr p.d) p.os := fun d os =>
        Calls.regrown_of (byKey_any y.1 x.1 _ ((SB.out d os).rd (List.mem_of_getElem? hyt)) ((SB.out d os).rd (List.mem_of_getElem? hx0.out)))
      have HY := hide hy
      have hmy := HK.out y (List.mem_of_getElem? hy)
      have hqN : q < N := by omega
      clear hyt hy hqR
      by_cases hlt : cmpK y.1.k x.1.k < 0
      · have S1 := hide (SE.out.up HR.out HY.out (lt7_of_cmp hlt))
        have hlt' : decide (cmpK y.1.k x.1.k < 0) = true := by simpa using hlt
        generalize hcv : cmpK y.1.k x.1.k = cv at cB hlt hlt'
        clear hcv hmy
        go_wp2_with fail
        rw [e1.out]
        refine wp_region_quiet_below (by kernel_rfl) (by kernel_rfl) ?_
        repeat (quiet_step (first | (go_at_call 40; exact cB _ _)))
        refine wpQuiet_nil ?_
        intro _ hw'
        obtain ⟨⟨dq, osq⟩, hw''⟩ := hw'
        subst hw''
        clear cB d0 d1 d2 d3
        go_wp2
        go_roundw
        case rel => exact ⟨q + 1, j, by go_num, rfl, by omega, by omega, hj, SB.out dq osq, by rw [show q + 1 - E = q - E + 1 by omega]; exact S1.out⟩
        case measure => simp [intOf]; omega
      · have S1 := hide (SE.out.down HR.out HY.out (lt7_of_not hmy hlt))
        have hlt' : decide (cmpK y.1.k x.1.k < 0) = false := by simpa using hlt
        generalize hcv : cmpK y.1.k x.1.k = cv at cB hlt hlt'
        clear hcv hmy
        go_wp2_with fail
        rw [e1.out]
        refine wp_region_quiet_below (by kernel_rfl) (by kernel_rfl) ?_
        repeat (quiet_step (first | (go_at_call 40; exact cB _ _)))
        refine wpQuiet_nil ?_
        intro _ hw'
        obtain ⟨⟨dq, osq⟩, hw''⟩ := hw'
        subst hw''
        clear cB d0 d1 d2 d3
        go_wp2
        go_roundw
        case rel => exact ⟨i, q, rfl, rfl, hi, by omega, by omega, SB.out dq osq, S1.out⟩
        case measure => simp [intOf]; omega
    · obtain rfl : j = i := by omega
      have hsp := hide (SE.out.split HR.out)
      obtain ⟨n, hn'⟩ : ∃ n, n = j - E := ⟨_, rfl⟩
      rw [← hn'] at hsp
      have hj1 : Hid ((j : Int) - 1 = ((M + n : Nat) : Int)) := by have := hEM.out; show _ = _; omega
      have hl1 : Hid ((R.take n).length = n) := by have := hRF.out; show _ = _; simp; omega
      have hnb : M + n < N := by have := hEM.out; omega
      have hm0 : Hid (Mv A (R.take n) (R.drop n ++ B) (A ++ ([x] ++ (R ++ B))) x 0) := ⟨[], R.take n, rfl, rfl, by simp [← List.append_assoc]⟩
      clear hn' SE hij hij0
      go_wp2_with fail
      go_loopw [13] (fun vk wr => ∃ (k : Nat) (ts : List Tg), vk = .int .i64 k ∧ M ≤ k ∧ k ≤ M + n ∧ Hid (SW K b rest W wr ts) ∧ Hid (ts.length = N) ∧ Mv A (R.take n) (R.drop n ++ B) ts x (k - M)) (fun vk _ => (M + n - intOf vk).toNat)
      case atStart => exact ⟨M, _, rfl, by omega, by omega, HS, HN.out.symm, by rw [Nat.sub_self]; exact hm0.out⟩
      case round =>
        clear HS hm0
        obtain ⟨k, ts, rfl, hk0, hk1, HS, HT, hmv⟩ := hrel
        have MV := hide hmv
        clear hmv
        by_cases htn : k < M + n
        · have hd : (k : Int) < (j : Int) - 1 := by have := hj1.out; omega
          obtain ⟨y, hyR, hy, hmv⟩ := MV.out.right (by have := hl1.out; omega) k (by have := HM.out; omega)
          have hxk := MV.out.at k (by have := HM.out; omega)
          have MV2 := hide hmv
          have hkN : k + 1 < N := by omega
          have c0 := HS.out.cell0 hxk
          have c1 := HS.out.cell1 hxk
          have c2 := HS.out.cell0 hy
          have c3 := HS.out.cell1 hy
          have f0 := HS.out.frozen (k * 2)
          have f1 := HS.out.frozen (k * 2 + 1)
          have f2 := HS.out.frozen ((k + 1) * 2)
          have f3 := HS.out.frozen ((k + 1) * 2 + 1)
          have jz : (k : Int) + 1 < (N : Int) := by omega
          have p0 : (0 : Int) ≤ (k : Int) + 1 := by omega
          have e0 : ((k : Int) + 1).toNat = k + 1 := by omega
          have HS3 := hide (HS.out.swap k (k + 1) x y hxk hy).drew
          clear hyR hy hmv hxk MV
          go_wp2_with fail
          go_region
          generalize ((((wr.setCell ⟨b, k * 2, none⟩ (.slice y.1.a y.1.k.length y.1.c)).setCell ⟨b, k * 2 + 1, none⟩ (.int .u64 y.1.v)).setCell ⟨b, (k + 1) * 2, none⟩ (.slice x.1.a x.1.k.length x.1.c)).setCell ⟨b, (k + 1) * 2 + 1, none⟩ (.int .u64 x.1.v)).drew = wt at HS3 ⊢
          clear c0 c1 c2 c3 f0 f1 f2 f3 HS
          go_wp2
          go_roundw
          case rel => exact ⟨k + 1, _, by go_num, by omega, by omega, HS3, by show List.length _ = N; simpa using HT.out, by rw [show k + 1 - M = k - M + 1 by omega]; exact MV2.out⟩
          case measure => simp [intOf]; omega
        · have hd : ¬ (k : Int) < (j : Int) - 1 := by have := hj1.out; omega
          have hd' : decide ((k : Int) < (j : Int) - 1) = false := by simpa using hd
          go_wp2
          (try simp only [Exit.inBlock, Exit.then])
          refine bodyPost_ret (results_none rfl _ _ _) rfl ?_
          obtain ⟨S1, S2, e1, l, e⟩ := MV.out.ex
          have h1 := hl1.out
          have h2 : S2 = [] := List.eq_nil_of_length_eq_zero (by have := congrArg List.length e1; simp only [List.length_append] at this; omega)
          subst h2
          simp only [List.append_nil] at e1
          subst e1
          have h3 := HS.out
          rw [e] at h3
          refine ⟨rfl, R.take n ++ x :: R.drop n, ?_, ?_, hsp.out⟩
          · simpa using h3
          · have h4 : (R.take n ++ x :: R.drop n).Perm (x :: (R.take n ++ R.drop n)) := List.perm_middle
            rw [List.take_append_drop] at h4
            exact h4
end Go.Proofs.Ytahlbebkcoofkaa
