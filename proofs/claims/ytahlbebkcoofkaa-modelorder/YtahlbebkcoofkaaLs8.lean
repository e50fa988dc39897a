/- All, Copy, From, Rises. -/
import Derived.Test.YtahlbebkcoofkaaLs7
import Derived.Deep.DeepCutAuto
import Derived.Deep.CutBlock
namespace Go.Proofs.Ytahlbebkcoofkaa
set_option maxRecDepth 20000
open Go.RowKit Go.Sort
set_option linter.unusedVariables false

/-- A list of pairs that is answered. -/
def LAns (w w' : World) (ps : List KV) (r : Ending) : Prop := ∃ a c fs, r = .returned (.slice a fs.length c) ∧ Lst w.heap.size w' (.slice a fs.length c) fs ∧ fs.map Ent.kv = ps ∧ Below w.heap.size w w'
theorem copies_l (es : List Ent) (a : Option Addr) (c : Nat) (w : World) (h : Rp w a es) (hk : ∀ e ∈ es, e.k.length ≤ 1000000) :
    Calls Try.prog 57 #[.slice a es.length c] w fun r w' => LAns w w' (es.map Ent.kv) r := by
  refine (copies_any es a c w h hk).mono ?_
  rintro r w' ⟨v, fs, rfl, l, k, f⟩
  obtain ⟨a', c', rfl, _⟩ := l.rp
  exact ⟨a', c', fs, rfl, l, k, f⟩
theorem LAns.later {w w1 w' : World} {ps : List KV} {r : Ending} (h : LAns w1 w' ps r) (f : Below w.heap.size w w1) : LAns w w' ps r := by
  obtain ⟨a, c, fs, e, l, k, f2⟩ := h
  exact ⟨a, c, fs, e, l.down f.size, k, f.trans (f2.mono f.size)⟩

set_option maxHeartbeats 400000 in
theorem all_any {g : Nat} {ps : List KV} {K : Nat → Prop} (w : World) (h : Md g ps K w) : Calls Try.prog 22 #[.pointer (some ⟨g, 0, none⟩)] w fun r w' => LAns w w' ps r := by
  obtain ⟨F, v, es, h⟩ := h
  obtain ⟨a, c, rfl, hr⟩ := h.rp
  have R := hide (rising_any g a es.length c w h.hd)
  have C := hide (copies_l es a c w hr (fun e he => by have := (h.ks e he).2.1; omega))
  rw [h.kv] at C
  clear h hr
  go_enter Try.func22, Try.ntmps22
  go_wp2_with fail
  refine R.out.mono ?_
  rintro e w1 ⟨rfl, hw⟩
  subst hw
  go_wp2_with fail
  refine C.out.mono ?_
  rintro e w2 ⟨a', c', fs, rfl, l, k, f⟩
  have L := hide l
  have HK := hide k
  have F2 := hide f
  clear l k f
  go_wp2
  go_ret
  exact ⟨a', c', fs, rfl, L.out, HK.out, F2.out⟩
set_option maxHeartbeats 400000 in
theorem all_nil (w : World) : Calls Try.prog 22 #[.pointer none] w fun r w' => LAns w w' [] r := by
  have R := hide (rising_nil w)
  have C := hide (copies_l [] none 0 w ⟨by simp, by simp, .inl rfl⟩ (by simp))
  go_enter Try.func22, Try.ntmps22
  go_wp2_with fail
  refine R.out.mono ?_
  rintro e w1 ⟨rfl, hw⟩
  subst hw
  go_wp2_with fail
  refine C.out.mono ?_
  rintro e w2 ⟨a', c', fs, rfl, l, k, f⟩
  have L := hide l
  have HK := hide k
  have F2 := hide f
  clear l k f
  go_wp2
  go_ret
  exact ⟨a', c', fs, rfl, L.out, HK.out, F2.out⟩
set_option maxHeartbeats 400000 in
theorem copy_nil (w : World) : Calls Try.prog 23 #[.pointer none] w fun r w' => r = .returned (.pointer none) ∧ w' = w := by
  go_enter Try.func23, Try.ntmps23
  go_wp2
  go_ret
  exact ⟨rfl, rfl⟩
/-- A list of one's own makes a map. -/
theorem lst_map {B : Nat} {w w' : World} {v : Value} {fs : List Ent} {ps : List KV} {g : Nat} (l : Lst B w v fs) (hg : Blk w' g 70 [v]) (hB : B ≤ g) (f : Below w.heap.size w w') (hk : fs.map Ent.kv = ps) (hu : Ups ps) (hl : ∀ e ∈ fs, e.k.length ≤ 65535) (hBw : B ≤ w.heap.size) : Md g ps (fun k => k < B) w' := by
  have l' := l.below f
  refine ⟨fun k => B ≤ k ∧ k < w'.heap.size, v, fs, ⟨fun k hk => ⟨by omega, hk.2⟩, fun k hk => by have := f.size; omega, ⟨hB, hg.lt⟩, hg, ?_, fun k hk => l'.row.lt k hk, fun e he => ?_, hk, hu, l.ln⟩⟩
  · refine ⟨l'.row.1, ?_⟩
    rcases l'.row.2 with h | ⟨g, cap, cur, h1, h2, h3⟩
    · exact .inl h
    · exact .inr ⟨g, cap, cur, h1, by omega, h3⟩
  · obtain ⟨b, h1, h2, h3, h4, h5, h6, h7⟩ := l'.own.ks e he
    refine ⟨⟨l'.own.rd he, .inr ⟨b, 0, h1, ⟨h2, h3.lt⟩, fun e => blk_apart hg h3 (by decide) e.symm, owns_apart l'.row h3 (by decide)⟩⟩, hl e he, h7⟩
set_option maxHeartbeats 400000 in
theorem copy_any {g : Nat} {ps : List KV} {K : Nat → Prop} (w : World) (h : Md g ps K w) : Calls Try.prog 23 #[.pointer (some ⟨g, 0, none⟩)] w fun r w' => ∃ g', r = .returned (.pointer (some ⟨g', 0, none⟩)) ∧ Md g' ps (fun k => k < w.heap.size) w' ∧ Below w.heap.size w w' := by
  obtain ⟨F, v, es, h⟩ := h
  obtain ⟨a, c, rfl, hr⟩ := h.rp
  have d0 := h.hd.cell 0
  simp only [List.getElem?_cons_zero] at d0
  have C := hide (copies_l es a c w hr (fun e he => by have := (h.ks e he).2.1; omega))
  rw [h.kv] at C
  have HU := hide h.up
  have HL : Hid (∀ p ∈ ps, p.1.length ≤ 65535) := by
    intro p hp
    rw [← h.kv] at hp
    obtain ⟨e, he, rfl⟩ := List.mem_map.1 hp
    exact (h.ks e he).2.1
  clear h hr
  go_enter Try.func23, Try.ntmps23
  go_wp2_with fail
  refine C.out.mono ?_
  rintro e w2 ⟨a', c', fs, rfl, l, k, f⟩
  have L := hide l
  have HK := hide k
  have F2 := hide f
  clear l k f
  go_wp2
  go_ret
  refine ⟨w2.heap.size, rfl, lst_map L.out (Blk.new w2 _ _ _ rfl) F2.out.size ((Below.refl _ w2).alloc (Nat.le_refl _) _) HK.out HU.out (fun e he => ?_) F2.out.size, F2.out.alloc F2.out.size _⟩
  have h1 := HL.out e.kv (by rw [← HK.out]; exact List.mem_map_of_mem he)
  exact h1

/-- From a place on. -/
theorem Rp.drop {w : World} {b off : Nat} {es : List Ent} (h : Rp w (some ⟨b, off, none⟩) es) (n : Nat) : Rp w (some ⟨b, off + n * 2, none⟩) (es.drop n) := by
  refine ⟨by have := h.1; simp; omega, fun e he => h.2.1 e (List.mem_of_mem_drop he), ?_⟩
  by_cases h0 : es.length ≤ n
  · exact .inl (by simp [h0])
  · rcases h.2.2 with h3 | ⟨b', off', ea, hc⟩
    · subst h3; simp at h0
    · simp only [Option.some.injEq, Addr.mk.injEq] at ea
      obtain ⟨rfl, rfl, -⟩ := ea
      refine .inr ⟨b, off + n * 2, rfl, fun i e he => ?_⟩
      rw [List.getElem?_drop] at he
      have := hc (n + i) e he
      rwa [show off + (n + i) * 2 = off + n * 2 + i * 2 by omega] at this
theorem Rp.take {w : World} {a : Option Addr} {es : List Ent} (h : Rp w a es) (n : Nat) : Rp w a (es.take n) := by
  refine ⟨by have := h.1; simp; omega, fun e he => h.2.1 e (List.mem_of_mem_take he), ?_⟩
  rcases h.2.2 with h3 | ⟨b, off, ea, hc⟩
  · exact .inl (by simp [h3])
  · refine .inr ⟨b, off, ea, fun i e he => hc i e ?_⟩
    rw [List.getElem?_take] at he
    split at he
    · exact he
    · cases he
theorem Rp.nil (w : World) (a : Option Addr) : Rp w a [] := ⟨by simp, by simp, .inl rfl⟩

def risesB : List KV → Bool
  | [] => true
  | [_] => true
  | p :: q :: ps => decide (cmpK p.1 q.1 < 0) && risesB (q :: ps)
theorem risesB_iff : ∀ ps : List KV, risesB ps = true ↔ ∀ (i : Nat) (p q : KV), ps[i]? = some p → ps[i + 1]? = some q → cmpK p.1 q.1 < 0
  | [] => by simp [risesB]
  | [p] => by
    simp only [risesB, true_iff]
    intro i a b h1 h2
    simp at h2
  | p :: q :: ps => by
    have ih := risesB_iff (q :: ps)
    simp only [risesB, Bool.and_eq_true, decide_eq_true_eq, ih]
    constructor
    · rintro ⟨h1, h2⟩ i a b ha hb
      cases i with
      | zero => simp at ha hb; subst ha hb; exact h1
      | succ i => exact h2 i a b (by simpa using ha) (by simpa using hb)
    · intro h
      exact ⟨h 0 p q (by simp) (by simp), fun i a b ha hb => h (i + 1) a b (by simpa using ha) (by simpa using hb)⟩
theorem risesB_of_ups {ps : List KV} (h : Ups ps) : risesB ps = true := (risesB_iff ps).2 (fun i p q hp hq => ups_get h hp hq (by omega))
theorem risesB_false {ps : List KV} {i : Nat} {p q : KV} (hp : ps[i]? = some p) (hq : ps[i + 1]? = some q) (h : ¬ cmpK p.1 q.1 < 0) : risesB ps = false := by
  cases hr : risesB ps with
  | false => rfl
  | true => exact absurd ((risesB_iff ps).1 hr i p q hp hq) h

set_option maxHeartbeats 1000000 in
theorem rises_any (es : List Ent) (a : Option Addr) (c : Nat) (w : World) (h : Rp w a es) :
    Calls Try.prog 12 #[.slice a es.length c] w fun r w' => r = .returned (.bool (risesB (es.map Ent.kv))) ∧ Below w.heap.size w w' := by
  have hn := h.1
  have H := hide h
  clear h
  go_enter Try.func12, Try.ntmps12
  go_wp2_with fail
  go_loopw [3] (fun vi wr => ∃ i : Nat, vi = .int .i64 ((i : Int) + 1) ∧ i ≤ es.length ∧ Hid (Below w.heap.size w wr) ∧ Hid (∀ (j : Nat) (p q : KV), (es.map Ent.kv)[j]? = some p → (es.map Ent.kv)[j + 1]? = some q → j < i → cmpK p.1 q.1 < 0)) (fun vi _ => (es.length + 1 - intOf vi).toNat)
  case atStart => exact ⟨0, rfl, by omega, Below.refl _ _, fun j p q _ _ hj => by omega⟩
  case round =>
    obtain ⟨i, rfl, hi, F, HA⟩ := hrel
    by_cases hin : i + 1 < es.length
    · obtain ⟨e, he⟩ : ∃ e, es[i]? = some e := ⟨es[i], List.getElem?_eq_getElem (by omega)⟩
      obtain ⟨f, hf⟩ : ∃ e, es[i + 1]? = some e := ⟨es[i + 1], List.getElem?_eq_getElem hin⟩
      obtain ⟨b, off, rfl, c0, c1⟩ := (H.out.below F.out (Nat.le_refl _)).cells he
      obtain ⟨b', off', ea, c2, c3⟩ := (H.out.below F.out (Nat.le_refl _)).cells hf
      simp only [Option.some.injEq, Addr.mk.injEq] at ea
      obtain ⟨rfl, rfl, -⟩ := ea
      have d0 := cell_regrown c0
      have d1 := cell_regrown c1
      have d2 := cell_regrown c2
      have d3 := cell_regrown c3
      have hme := List.mem_of_getElem? he
      have hmf := List.mem_of_getElem? hf
      have cB : ∀ d os, Calls Try.prog 40 #[.agg #[.slice e.a e.k.length e.c, .int .u64 e.v], .agg #[.slice f.a f.k.length f.c, .int .u64 f.v]] (grow (redrawn wr d) os) fun r w'' => r = .returned (.int .i64 (cmpK e.k f.k)) ∧ ∃ p : Regrown, w'' = grow (redrawn wr p.d) p.os := fun d os =>
        Calls.regrown_of (byKey_any e f _ (((H.out.2.1 e hme).1.below F.out (Nat.le_refl _)).below (below_regrown wr d os) (Nat.le_refl _)) (((H.out.2.1 f hmf).1.below F.out (Nat.le_refl _)).below (below_regrown wr d os) (Nat.le_refl _)))
      have HE : Hid ((es.map Ent.kv)[i]? = some e.kv) := by show _ = _; simp [he]
      have HF : Hid ((es.map Ent.kv)[i + 1]? = some f.kv) := by show _ = _; simp [hf]
      have z0 : i < es.length := by omega
      have z1 : (i : Int) + 1 < (es.length : Int) := by omega
      have z2 : (0 : Int) ≤ (i : Int) + 1 := by omega
      have z3 : ((i : Int) + 1).toNat = i + 1 := by omega
      have hwp : IntKind.i64.wrap (i : Int) = (i : Int) := by rw [IntKind.wrap_i64]; omega
      have FB : Hid (∀ d os, Below w.heap.size w (grow (redrawn wr d) os)) := fun d os => F.out.trans ((below_regrown wr d os).mono F.out.size)
      clear he hf c0 c1 c2 c3 hme hmf
      by_cases hlt : cmpK e.k f.k < 0
      · have hlt' : decide (0 ≤ cmpK e.k f.k) = false := by simpa using hlt
        have HL := hide hlt
        generalize hcv : cmpK e.k f.k = cv at cB hlt hlt'
        clear hcv
        go_wp2_with fail
        refine wp_region_quiet_below (by kernel_rfl) (by kernel_rfl) ?_
        repeat (quiet_step (first | (go_at_call 40; exact cB _ _)))
        refine wpQuiet_nil ?_
        intro _ hw'
        obtain ⟨⟨dq, osq⟩, hw''⟩ := hw'
        subst hw''
        clear cB d0 d1 d2 d3
        go_wp2
        go_roundw
        case rel =>
          refine ⟨i + 1, by go_num, by omega, FB.out dq osq, fun j p q hp hq hj => ?_⟩
          by_cases e2 : j = i
          · subst e2
            rw [HE.out] at hp
            rw [HF.out] at hq
            cases hp
            cases hq
            exact HL.out
          · exact HA.out j p q hp hq (by omega)
        case measure => simp [intOf]; omega
      · have hlt' : decide (0 ≤ cmpK e.k f.k) = true := by simp; omega
        have HR := hide (risesB_false HE.out HF.out hlt)
        generalize hcv : cmpK e.k f.k = cv at cB hlt hlt'
        clear hcv
        go_wp2_with fail
        refine wp_region_quiet_below (by kernel_rfl) (by kernel_rfl) ?_
        repeat (quiet_step (first | (go_at_call 40; exact cB _ _)))
        refine wpQuiet_nil ?_
        intro _ hw'
        obtain ⟨⟨dq, osq⟩, hw''⟩ := hw'
        subst hw''
        clear cB d0 d1 d2 d3
        go_wp2
        go_ret
        exact ⟨ret_bool HR.out.symm, FB.out dq osq⟩
    · have z1 : ¬ (i : Int) + 1 < (es.length : Int) := by omega
      have HR : Hid (risesB (es.map Ent.kv) = true) := (risesB_iff _).2 (fun j p q hp hq => HA.out j p q hp hq (by
        have := (List.getElem?_eq_some_iff.1 hq).1
        simp at this
        omega))
      go_wp2
      go_ret
      exact ⟨ret_bool HR.out.symm, F.out⟩

set_option maxHeartbeats 2000000 in
theorem from_any {g : Nat} {ps : List KV} {K : Nat → Prop} (ka : Option Addr) (kc : Nat) (k : List Int) (n : Int) (w : World) (h : Md g ps K w) (ht : Rd w ka k) (h0 : -9223372036854775808 ≤ n) (h1 : n ≤ 9223372036854775807) :
    Calls Try.prog 31 #[.pointer (some ⟨g, 0, none⟩), .slice ka k.length kc, .int .i64 n] w fun r w' => LAns w w' (fromM k n ps) r := by
  have R := hide (rank_any ka kc k w h ht)
  have hrl := rank_le k ps
  obtain ⟨F, v, es, h'⟩ := h
  obtain ⟨a, c, rfl, hr⟩ := h'.rp
  have R0 := hide (rising_any g a es.length c w h'.hd)
  have hln := h'.ln
  have hle := h'.len
  have hcap : es.length ≤ c ∧ c ≤ 9223372036854775807 := by
    rcases h'.row.2 with ⟨e, h⟩ | ⟨q, cap, cur, e, _, _, h1, h2, _⟩
    · simp only [Value.slice.injEq] at e; omega
    · simp only [Value.slice.injEq] at e; unfold maxLen at h2; omega
  have hform : (es.length = 0 ∧ c = 0) ∨ ∃ q, a = some ⟨q, 0, none⟩ := by
    rcases h'.row.2 with ⟨e, h⟩ | ⟨q, cap, cur, e, _⟩
    · simp only [Value.slice.injEq] at e; exact .inl ⟨by omega, e.2.2⟩
    · simp only [Value.slice.injEq] at e; exact .inr ⟨q, e.1⟩
  have HR := hide hr
  have HKV := hide h'.kv
  have HKL : Hid (∀ e ∈ es, e.k.length ≤ 1000000) := fun e he => by have := (h'.ks e he).2.1; omega
  unfold fromM
  generalize rankM k ps = rk at R hrl ⊢
  clear h' hr ht
  obtain ⟨m, hm⟩ : ∃ m : Nat, m = min n.toNat (es.length - rk) := ⟨_, rfl⟩
  obtain ⟨z, hz⟩ : ∃ z : Int, z = min n ((es.length - rk : Nat) : Int) := ⟨_, rfl⟩
  have hfin : Hid ((ps.drop rk).take n.toNat = ((es.drop rk).take m).map Ent.kv) := by
    show _ = _
    rw [← HKV.out, ← List.map_drop, ← List.map_take, hm, ← List.length_drop, List.take_eq_take_min]
  have hmr : Hid (((es.drop rk).take m).length = m) := by show _ = _; simp; omega
  have hmb : m ≤ es.length - rk := by omega
  have hmin : ∀ ts t w, (Builtin.min_ ts t #[.int .i64 n, .int .i64 ((es.length - rk : Nat) : Int)]).run Try.prog w = .ok (.int .i64 z) w := fun ts t w => by
    rw [run_min_int2]
    congr 2
    split <;> omega
  have hmax : ∀ ts t w, (Builtin.max_ ts t #[.int .i64 0, .int .i64 z]).run Try.prog w = .ok (.int .i64 (m : Int)) w := fun ts t w => by
    rw [run_max_int2]
    congr 2
    split <;> omega
  rw [hle] at hrl
  clear hle HKV hm hz
  by_cases hrc : rk = c
  · obtain rfl : rk = es.length := by omega
    subst hrc
    have hm0 : m = 0 := by omega
    subst hm0
    have HES : Hid (es.drop es.length = []) := by show _ = _; simp
    have hmin' : ∀ ts t w, (Builtin.min_ ts t #[.int .i64 n, .int .i64 0]).run Try.prog w = .ok (.int .i64 z) w := fun ts t w => by
      have := hmin ts t w
      rwa [Nat.sub_self] at this
    have hmax' : ∀ ts t w, (Builtin.max_ ts t #[.int .i64 0, .int .i64 z]).run Try.prog w = .ok (.int .i64 0) w := hmax
    have N0 := hide hform
    obtain ⟨q, hq⟩ : ∃ q, q = es.length := ⟨_, rfl⟩
    rw [← hq] at R0 R hln ⊢
    have HQ := hide hq
    clear hmb hrl hcap hmin hmax hform hq
    go_enter Try.func31, Try.ntmps31
    go_wp2_with fail
    refine R0.out.mono ?_
    rintro e w1 ⟨rfl, hw⟩
    subst hw
    go_wp2_with fail
    refine R.out.mono ?_
    rintro e w2 ⟨rfl, f2⟩
    have F2 := hide f2
    have C := copies_l [] a 0 w2 (Rp.nil w2 a) (by simp)
    have HC := hide C
    clear C f2
    go_wp2_with fail
    refine HC.out.mono ?_
    rintro e w3 ⟨a', c', fs, rfl, l, kk, f⟩
    have LL := hide l
    have HK := hide kk
    have F3 := hide f
    clear l kk f
    go_wp2
    go_ret
    rw [HQ.out, hfin.out]
    refine LAns.later ⟨a', c', fs, rfl, LL.out, ?_, F3.out⟩ F2.out
    rw [HK.out]
    simp
  · have hrc' : rk < c := by omega
    obtain ⟨b, off, rfl⟩ : ∃ b off, a = some ⟨b, off, none⟩ := by
      rcases hform with ⟨e, h⟩ | h
      · omega
      · exact ⟨_, 0, h.choose_spec⟩
    go_enter Try.func31, Try.ntmps31
    go_wp2_with fail
    refine R0.out.mono ?_
    rintro e w1 ⟨rfl, hw⟩
    subst hw
    go_wp2_with fail
    refine R.out.mono ?_
    rintro e w2 ⟨rfl, f2⟩
    have F2 := hide f2
    have hr2 := (HR.out.below f2 (Nat.le_refl _))
    have C := copies_l ((es.drop rk).take m) (some ⟨b, off + rk * 2, none⟩) (c - rk) w2 ((hr2.drop rk).take m) (fun e he => HKL.out e (List.mem_of_mem_drop (List.mem_of_mem_take he)))
    rw [hmr.out] at C
    have HC := hide C
    clear C hr2 f2
    go_wp2_with fail
    refine HC.out.mono ?_
    rintro e w3 ⟨a', c', fs, rfl, l, kk, f⟩
    have LL := hide l
    have HK := hide kk
    have F3 := hide f
    clear l kk f
    go_wp2
    go_ret
    rw [hfin.out]
    exact LAns.later ⟨a', c', fs, rfl, LL.out, HK.out, F3.out⟩ F2.out
end Go.Proofs.Ytahlbebkcoofkaa
