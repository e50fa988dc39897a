/- Longest. -/
import Derived.Test.YtahlbebkcoofkaaLg8
import Derived.Deep.DeepCutAuto
import Derived.Deep.CutBlock
import Derived.Deep.LoopGhost
namespace Go.Proofs.Ytahlbebkcoofkaa
set_option maxRecDepth 20000
open Go.RowKit Go.Sort
set_option linter.unusedVariables false

theorem cmpK_pre (p u v : List Int) : cmpK (p ++ u) (p ++ v) = cmpK u v := by
  induction p with
  | nil => rfl
  | cons z p ih => rw [List.cons_append, List.cons_append, cmpK_cons, if_pos rfl, ih]
theorem cmpK_take {q : List Int} {n : Nat} (h : n < q.length) : cmpK (q.take n) q < 0 := by
  conv => lhs; arg 2; rw [← List.take_append_drop n q]
  have := cmpK_pre (q.take n) [] (q.drop n)
  rw [List.append_nil] at this
  rw [this, cmpK_nil, if_neg]
  · omega
  · intro h9
    have := congrArg List.length h9
    simp at this
    omega
theorem Ln.miss {k : List Int} {ps : List KV} {n low high : Nat} {l : Int} (h : Ln k ps n low high l) (hu : Ups ps) (hlh : low < high) {p0 : KV} (hp : ps[low]? = some p0) (he : p0.1.length ≠ n) : L1 k ps n low high l := by
  have hc0 : n ≤ common k p0.1 := (h.rg low p0 hp).1 (by omega)
  have hl0 : n < p0.1.length := by have := common_le k p0.1; omega
  have nokey : ∀ (i : Nat) (p : KV), ps[i]? = some p → n ≤ common k p.1 → p.1.length ≠ n := by
    intro i p hpi hc hl
    have e1 := same_key hc hl
    have hi := (h.rg i p hpi).2 hc
    have h1 : cmpK p.1 p0.1 < 0 := by
      rw [e1, ← common_take hc0]
      exact cmpK_take hl0
    rcases Nat.lt_or_ge low i with h2 | h2
    · have := ups_get hu hp hpi h2
      have := cmpK_swap p0.1 p.1
      omega
    · have : i = low := by omega
      subst this
      rw [hp] at hpi; cases hpi
      exact he hl
  refine ⟨h.lh, fun i p hpi => ?_, fun i p hpi hb hl => ?_, ?_⟩
  · have r := h.rg i p hpi
    constructor
    · intro h1
      have h3 := r.1 h1
      refine ⟨h3, ?_⟩
      have := common_le k p.1
      have := nokey i p hpi h3
      omega
    · rintro ⟨h1, _⟩
      exact r.2 h1
  · rcases Nat.lt_or_ge p.1.length n with h1 | h1
    · exact h.up i p hpi hb h1
    · exact absurd (by omega) (nokey i p hpi (by rw [beg_len hb]; exact h1))
  · rcases h.wh with h1 | ⟨j, q, h1, h2, h3, h4⟩
    · exact .inl h1
    · exact .inr ⟨j, q, h1, h2, h3, by omega⟩
theorem L1.done {k : List Int} {ps : List KV} {n low high : Nat} {l : Int} (h : L1 k ps n low high l) (hn : n = k.length) : selM l ps = longM k ps := by
  have h' : Ln k ps (n + 1) low low l := by
    refine ⟨by have := h.lh; omega, fun i p hp => ?_, h.up, h.wh⟩
    have := common_le k p.1
    omega
  exact h'.empty (Nat.le_refl _)
theorem L1.narrow {k : List Int} {ps : List KV} {n low high : Nat} {l : Int} (h : L1 k ps n low high l) (hk : n < k.length) (f t : Nat) (hf : f ≤ high - low) (ht : t ≤ high - low)
    (h1 : ∀ (i : Nat) (p : KV), ps[low + i]? = some p → i < high - low → i < f → p.1.getD n 0 < k.getD n 0) (h2 : ∀ (i : Nat) (p : KV), ps[low + i]? = some p → i < high - low → f ≤ i → k.getD n 0 ≤ p.1.getD n 0)
    (h3 : ∀ (i : Nat) (p : KV), ps[low + i]? = some p → i < high - low → i < t → p.1.getD n 0 ≤ k.getD n 0) (h4 : ∀ (i : Nat) (p : KV), ps[low + i]? = some p → i < high - low → t ≤ i → k.getD n 0 < p.1.getD n 0) : Ln k ps (n + 1) (low + f) (low + t) l := by
  have hlh := h.lh
  have hft : f ≤ t := by
    rcases Nat.lt_or_ge t f with h5 | h5
    · exfalso
      obtain ⟨p, hp⟩ : ∃ p, ps[low + t]? = some p := ⟨ps[low + t]'(by omega), List.getElem?_eq_getElem (by omega)⟩
      have := h1 t p hp (by omega) h5
      have := h4 t p hp (by omega) (Nat.le_refl _)
      omega
    · exact h5
  refine ⟨by omega, fun i p hp => ?_, h.up, h.wh⟩
  constructor
  · rintro ⟨a, b⟩
    have hin := (h.rg i p hp).1 (by omega)
    have hp' : ps[low + (i - low)]? = some p := by rw [show low + (i - low) = i by omega]; exact hp
    have x1 := h2 (i - low) p hp' (by omega) (by omega)
    have x2 := h3 (i - low) p hp' (by omega) (by omega)
    exact (common_succ hin.1 hk hin.2).2 (by omega)
  · intro hc
    have hle := common_le k p.1
    have hin := (h.rg i p hp).2 ⟨by omega, by omega⟩
    have hp' : ps[low + (i - low)]? = some p := by rw [show low + (i - low) = i by omega]; exact hp
    have e := (common_succ (show n ≤ common k p.1 by omega) hk (by omega)).1 hc
    refine ⟨?_, ?_⟩
    · rcases Nat.lt_or_ge (i - low) f with h5 | h5
      · have := h1 (i - low) p hp' (by omega) h5
        omega
      · omega
    · rcases Nat.lt_or_ge (i - low) t with h5 | h5
      · omega
      · have := h4 (i - low) p hp' (by omega) h5
        omega
theorem L1.parts {k : List Int} {ps : List KV} {n low high : Nat} {l : Int} (h : L1 k ps n low high l) (hu : Ups ps) (b : Int) : ∃ f, f ≤ high - low ∧ (∀ (i : Nat) (p : KV), ps[low + i]? = some p → i < high - low → i < f → p.1.getD n 0 < b) ∧ (∀ (i : Nat) (p : KV), ps[low + i]? = some p → i < high - low → f ≤ i → b ≤ p.1.getD n 0) := by
  have hlh := h.lh
  obtain ⟨f, h1, h2, h3⟩ := part_exists (fun i => ((ps[low + i]?).map (fun p => p.1.getD n 0)).getD 0) b (high - low) (fun i j hij hj => by
    obtain ⟨p, hp⟩ : ∃ p, ps[low + i]? = some p := ⟨ps[low + i]'(by omega), List.getElem?_eq_getElem (by omega)⟩
    obtain ⟨q, hq⟩ : ∃ p, ps[low + j]? = some p := ⟨ps[low + j]'(by omega), List.getElem?_eq_getElem (by omega)⟩
    simp only [hp, hq, Option.map_some, Option.getD_some]
    have r1 := (h.rg _ p hp).1 (by omega)
    have r2 := (h.rg _ q hq).1 (by omega)
    exact byte_le r1.1 r2.1 r1.2 r2.2 (ups_get hu hp hq (by omega)))
  refine ⟨f, h1, fun i p hp hi hf => ?_, fun i p hp hi hf => ?_⟩
  · have := h2 i hf
    simpa [hp] using this
  · have := h3 i hf hi
    simpa [hp] using this

set_option maxHeartbeats 4000000 in
set_option maxRecDepth 20000 in
theorem longest_any {g : Nat} {ps : List KV} {K : Nat → Prop} (ka : Option Addr) (kc : Nat) (k : List Int) (w : World) (h : Md g ps K w) (ht : Rd w ka k) (hkl : k.length ≤ 1000000) :
    Calls Try.prog 33 #[.pointer (some ⟨g, 0, none⟩), .slice ka k.length kc] w fun r w' => Ans w w' (longM k ps) r := by
  have hl2 := MdF.small h
  have f0 : Below w.heap.size w (w.alloc (boxP none 0 0 0)) := (Below.refl _ w).alloc (Nat.le_refl _) _
  have x0 : Blk (w.alloc (boxP none 0 0 0)) w.heap.size 54 [.slice none 0 0, .int .u64 0] := Blk.new w _ _ _ rfl
  have hm := (Md.lies g ps).below h f0
  have ht0 := ht.below f0 (Nat.le_refl _)
  unfold boxP at f0 x0 hm ht0
  generalize hw0 : (w.alloc (.cells #[.slice none 0 0, .int .u64 0] 54 (0, 0))) = w0 at f0 x0 hm ht0
  have U := hide (len_any w0 hm)
  have HM := hide hm
  have HT := hide ht0
  have F0 := hide f0
  have X0 := hide x0
  have HU : Hid (Ups ps) := by obtain ⟨F, v, es, h'⟩ := hm; exact h'.up
  clear hm ht0 f0 x0 h ht
  go_enter Try.func33, Try.ntmps33
  go_wp2_with fail
  refine U.out.mono ?_
  rintro r w1 ⟨rfl, hw⟩
  subst hw
  clear hw0
  go_wp2_with fail
  go_loopw [6, 7, 8, 9] (fun vl vlo vhi vn wr => ∃ (l : Int) (lo hi n : Nat), vl = .int .i64 l ∧ vlo = .int .i64 lo ∧ vhi = .int .i64 hi ∧ vn = .int .i64 n ∧ lo ≤ hi ∧ hi ≤ ps.length ∧ n ≤ k.length + 1 ∧ (lo < hi → n ≤ k.length) ∧ -1 ≤ l ∧ l ≤ 1000000 ∧ Hid (Below w1.heap.size w1 wr) ∧ Hid (Ln k ps n lo hi l)) (fun _ _ _ vn _ => (k.length + 2 - intOf vn).toNat)
  case atStart => exact ⟨-1, 0, ps.length, 0, rfl, rfl, rfl, rfl, by omega, by omega, by omega, by omega, by omega, by omega, Below.refl _ _, Ln.start k ps⟩
  case round =>
    obtain ⟨l, lo, hi, n, rfl, rfl, rfl, rfl, hlo, hhi, hn, hnl, hl0, hl1, F, LN⟩ := hrel
    by_cases hlh : lo < hi
    · have hnk := hnl hlh
      clear hnl hn
      obtain ⟨p0, hp0⟩ : ∃ p, ps[lo]? = some p := ⟨ps[lo]'(by omega), List.getElem?_eq_getElem (by omega)⟩
      obtain ⟨Ft, v, es, h'⟩ := (Md.lies g ps).below HM.out F.out
      obtain ⟨b, c, e, rfl, he, hke, hil, c0, c1⟩ := h'.cells hp0
      have d0 := h'.hd.cell 0
      simp only [List.getElem?_cons_zero] at d0
      have hle := h'.len
      have hek : e.k = p0.1 := congrArg Prod.fst hke
      have hkle := (h'.ks e (List.mem_of_getElem? he)).2.1
      have hcap : es.length ≤ c ∧ c ≤ 9223372036854775807 := by
        rcases h'.row.2 with ⟨e9, h⟩ | ⟨q, cap, cur, e9, _, _, h1, h2, _⟩
        · omega
        · simp only [Value.slice.injEq] at e9; unfold maxLen at h2; omega
      obtain ⟨a', c', e9, hrp⟩ := h'.rp
      simp only [Value.slice.injEq] at e9
      obtain ⟨rfl, -, rfl⟩ := e9
      have HRP := hide hrp
      have hln := h'.ln
      have HKV := hide h'.kv
      have HP0 := hide hp0
      have hit : Hid (p0.1.length = n → L1 k ps n (lo + 1) hi lo) := fun he => LN.out.hit HU.out hlh HP0.out he
      have mis : Hid (p0.1.length ≠ n → L1 k ps n lo hi l) := fun he => LN.out.miss HU.out hlh HP0.out he
      rw [hle] at hhi
      rw [hek] at c0 hkle
      have HKN : Hid (∀ e ∈ es, e.k.length ≤ 65535) := fun e he => (h'.ks e he).2.1
      clear h' hp0 he hke hek hrp hle c1 LN
      generalize hl9 : p0.1.length = pl at c0 hit mis hkle
      clear hl9
      go_upto_if 29 with fail
      go_cut [6, 7] (fun vl vlo wx => ∃ (l' : Int) (lo' : Nat), vl = .int .i64 l' ∧ vlo = .int .i64 lo' ∧ lo' ≤ hi ∧ -1 ≤ l' ∧ l' ≤ 1000000 ∧ wx = wr ∧ Hid (L1 k ps n lo' hi l'))
      case first =>
        by_cases hpl : pl = n
        · have hd : ((pl : Int) == (n : Int)) = true := by simp; omega
          go_wp2_with fail
          go_meet
          case rel => exact ⟨lo, lo + 1, rfl, by go_num, by omega, by omega, by omega, rfl, hit.out hpl⟩
        · have hd : ((pl : Int) == (n : Int)) = false := by simp; omega
          go_wp2_with fail
          go_meet
          case rel => exact ⟨l, lo, rfl, rfl, by omega, by omega, by omega, rfl, mis.out hpl⟩
      case rest =>
      obtain ⟨l', lo', rfl, rfl, hlo', hl0', hl1', hwc, H1⟩ := hcut
      subst hwc
      clear hit mis c0 hl0 hl1 hlh hlo
      by_cases hnk2 : n = k.length
      · have hd : ((n : Int) == (k.length : Int)) = true := by simp; omega
        have HDONE : Hid (selM l' ps = longM k ps) := H1.out.done hnk2
        clear d0
        have S1 := select_any l' wc ((Md.lies g ps).below HM.out F.out) (by omega) (by omega)
        have F1 := hide F.out
        clear F
        go_wp2_with fail
        refine S1.mono ?_
        rintro r w2 ⟨a, c, rfl, o, hb, f⟩
        have f2 := F1.out.trans (f.mono F1.out.size)
        have x2 := X0.out.below f2 X0.out.lt
        have k0 := x2.cell 0
        have k1 := x2.cell 1
        have k2 := x2.frozen 0
        have k3 := x2.frozen 1
        simp only [List.getElem?_cons_zero, List.getElem?_cons_succ] at k0 k1
        have X2 := hide x2
        have O := hide o
        have HB := hide hb
        have F2 := hide (F0.out.trans (f2.mono F0.out.size))
        have FS : Hid (w.heap.size < wc.heap.size) := by have := F1.out.size; have := X0.out.lt; show _ < _; omega
        obtain ⟨kk, hkk⟩ : ∃ kk, keyO (selM l' ps) = kk := ⟨_, rfl⟩
        obtain ⟨vv, hvv⟩ : ∃ vv, valO (selM l' ps) = vv := ⟨_, rfl⟩
        obtain ⟨bb, hbb⟩ : ∃ bb, Option.isSome (selM l' ps) = bb := ⟨_, rfl⟩
        rw [hkk] at O HB ⊢
        rw [hvv, hbb]
        have HKK := hide hkk
        have HVV := hide hvv
        have HBB := hide hbb
        clear x2 o hb f f2 S1 hkk hvv hbb
        go_wp2_with fail
        have hbx := X2.out.pair (x' := .slice a kk.length c) (y' := .int .u64 vv)
        refine bodyPost_ret (results_pair2 rfl _ _ w.heap.size _ _ rfl hbx) rfl ?_
        rw [← HDONE.out]
        exact ans_box _ _ HKK.out HVV.out HBB.out O.out HB.out F2.out FS.out
      · have hd : ((n : Int) == (k.length : Int)) = false := by simp; omega
        have hnk3 : n < k.length := by omega
        have hkb := HT.out.1.getD n
        obtain ⟨kb, koff, rfl, hkc⟩ : ∃ kb koff, ka = some ⟨kb, koff, none⟩ ∧ wc.cell? ⟨kb, koff + n, none⟩ = some (.int .u8 (k.getD n 0)) := by
          rcases (HT.out.below F.out (Nat.le_refl _)).2.2 with h0 | ⟨kb, koff, e1, hc⟩
          · subst h0; simp at hnk3
          · exact ⟨kb, koff, e1, hc n hnk3⟩
        obtain ⟨f, hf1, hf2, hf3⟩ := H1.out.parts HU.out (k.getD n 0)
        obtain ⟨t, ht1, ht2, ht3⟩ := H1.out.parts HU.out (k.getD n 0 + 1)
        have LN2 : Hid (Ln k ps (n + 1) (lo' + f) (lo' + t) l') := H1.out.narrow hnk3 f t hf1 ht1 hf2 hf3 (fun i p hp hi hit => by have := ht2 i p hp hi hit; omega) (fun i p hp hi hit => by have := ht3 i p hp hi hit; omega)
        have hft := LN2.out.lh
        have hsub : ((es.drop lo').take (hi - lo')).length = hi - lo' := by simp; omega
        have hget : ∀ (i : Nat) (e : Ent), ((es.drop lo').take (hi - lo'))[i]? = some e → ps[lo' + i]? = some e.kv ∧ i < hi - lo' := fun i e he => by
          have hil := (List.getElem?_eq_some_iff.1 he).1
          rw [hsub] at hil
          rw [List.getElem?_take, if_pos hil, List.getElem?_drop] at he
          exact ⟨by rw [← HKV.out]; simp [he], hil⟩
        have W := fun (a2 : Option Addr) (c2 : Nat) (w' : World) (f' : Below wc.heap.size wc w') (h9 : Rp w' a2 ((es.drop lo').take (hi - lo'))) => with_any ((es.drop lo').take (hi - lo')) a2 c2 n (k.getD n 0) f t w' h9
          (fun e he => by
            obtain ⟨i, hi9⟩ := List.mem_iff_getElem?.1 he
            have hg := hget i e hi9
            exact ((H1.out.rg _ _ hg.1).1 (by omega)).2) (by omega) hkb (by omega) (by omega)
          (fun i e he h9 => hf2 i _ (hget i e he).1 (hget i e he).2 h9) (fun i e he h9 => hf3 i _ (hget i e he).1 (hget i e he).2 h9)
          (fun i e he h9 => by have := ht2 i _ (hget i e he).1 (hget i e he).2 h9; show e.kv.1.getD n 0 ≤ _; omega) (fun i e he h9 => by have := ht3 i _ (hget i e he).1 (hget i e he).2 h9; show _ < e.kv.1.getD n 0; omega)
        rw [hsub] at W
        have HW := hide W
        have FB : Hid (∀ d os, Below w1.heap.size w1 (grow (redrawn wc d) os)) := fun d os => F.out.trans ((below_regrown wc d os).mono F.out.size)
        have d1 := cell_regrown d0
        have d2 := cell_regrown hkc
        clear hf2 hf3 ht2 ht3 hget W hsub H1 d0 hkc
        generalize k.getD n 0 = kbt at *
        by_cases hcl : lo' = c
        · obtain rfl : hi = lo' := by omega
          have hes : es.length = hi := by omega
          have hft0 : f = 0 ∧ t = 0 := by omega
          obtain ⟨rfl, rfl⟩ := hft0
          have cW : ∀ d os, Calls Try.prog 60 #[.slice (some ⟨b, 0, none⟩) 0 0, .int .i64 (n : Int), .int .u8 kbt] (grow (redrawn wc d) os) fun r w'' => r = .returned (.tuple #[.int .i64 0, .int .i64 0]) ∧ ∃ p : Regrown, w'' = grow (redrawn wc p.d) p.os := fun d os => by
            have := HW.out (some ⟨b, 0, none⟩) 0 _ (below_regrown wc d os) (by
              have : es.drop hi = [] := by simp; omega
              rw [this]; simpa using Rp.nil _ _)
            rw [Nat.sub_self] at this
            exact Calls.regrown_of this
          rw [hes] at d1
          subst hcl
          have hib : hi ≤ ps.length := hft.2
          clear hes hcap hln hhi hil hft HRP HKV HW hlo' hf1 ht1
          go_wp2_with fail
          refine wp_region_quiet_below (by kernel_rfl) (by kernel_rfl) ?_
          repeat (quiet_step (first | (go_at_call 60; exact cW _ _)))
          refine wpQuiet_nil ?_
          intro _ hw'
          obtain ⟨⟨dq, osq⟩, hw''⟩ := hw'
          subst hw''
          clear cW d1 d2
          go_wp2
          go_roundw
          case rel => exact ⟨l', hi, hi, n + 1, rfl, by go_num, by go_num, by go_num, by omega, hib, by omega, by omega, by omega, by omega, FB.out dq osq, LN2⟩
          case measure => simp [intOf]; omega
        · have cW : ∀ d os, Calls Try.prog 60 #[.slice (some ⟨b, lo' * 2, none⟩) (hi - lo') (c - lo'), .int .i64 (n : Int), .int .u8 kbt] (grow (redrawn wc d) os) fun r w'' => r = .returned (.tuple #[.int .i64 (f : Int), .int .i64 (t : Int)]) ∧ ∃ p : Regrown, w'' = grow (redrawn wc p.d) p.os := fun d os =>
            Calls.regrown_of (HW.out _ _ _ (below_regrown wc d os) (by
              have := ((HRP.out.drop lo').take (hi - lo')).below (below_regrown wc d os) (Nat.le_refl _)
              rwa [Nat.zero_add] at this))
          have q1 : ¬ c = lo' := by omega
          have q2 : hi ≤ c := by omega
          have q3 : (hi : Int) ≤ (c : Int) := by omega
          go_wp2_with fail
          refine wp_region_quiet_below (by kernel_rfl) (by kernel_rfl) ?_
          repeat (quiet_step (first | (go_at_call 60; exact cW _ _)))
          refine wpQuiet_nil ?_
          intro _ hw'
          obtain ⟨⟨dq, osq⟩, hw''⟩ := hw'
          subst hw''
          clear cW d1 d2
          go_wp2
          go_roundw
          case rel => exact ⟨l', lo' + f, lo' + t, n + 1, rfl, by go_num, by go_num, by go_num, hft.1, hft.2, by omega, by omega, by omega, by omega, FB.out dq osq, LN2⟩
          case measure => simp [intOf]; omega
    · have HDONE : Hid (selM l ps = longM k ps) := LN.out.empty (by omega)
      have S1 := select_any l wr ((Md.lies g ps).below HM.out F.out) (by omega) (by omega)
      have F1 := hide F.out
      clear F
      go_wp2_with fail
      refine S1.mono ?_
      rintro r w2 ⟨a, c, rfl, o, hb, f⟩
      have f2 := F1.out.trans (f.mono F1.out.size)
      have x2 := X0.out.below f2 X0.out.lt
      have k0 := x2.cell 0
      have k1 := x2.cell 1
      have k2 := x2.frozen 0
      have k3 := x2.frozen 1
      simp only [List.getElem?_cons_zero, List.getElem?_cons_succ] at k0 k1
      have X2 := hide x2
      have O := hide o
      have HB := hide hb
      have F2 := hide (F0.out.trans (f2.mono F0.out.size))
      have FS : Hid (w.heap.size < wr.heap.size) := by have := F1.out.size; have := X0.out.lt; show _ < _; omega
      obtain ⟨kk, hkk⟩ : ∃ kk, keyO (selM l ps) = kk := ⟨_, rfl⟩
      obtain ⟨vv, hvv⟩ : ∃ vv, valO (selM l ps) = vv := ⟨_, rfl⟩
      obtain ⟨bb, hbb⟩ : ∃ bb, Option.isSome (selM l ps) = bb := ⟨_, rfl⟩
      rw [hkk] at O HB ⊢
      rw [hvv, hbb]
      have HKK := hide hkk
      have HVV := hide hvv
      have HBB := hide hbb
      clear x2 o hb f f2 S1 hkk hvv hbb
      go_wp2_with fail
      have hbx := X2.out.pair (x' := .slice a kk.length c) (y' := .int .u64 vv)
      refine bodyPost_ret (results_pair2 rfl _ _ w.heap.size _ _ rfl hbx) rfl ?_
      rw [← HDONE.out]
      exact ans_box _ _ HKK.out HVV.out HBB.out O.out HB.out F2.out FS.out
end Go.Proofs.Ytahlbebkcoofkaa
