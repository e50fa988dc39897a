/- Keys narrowed by one byte; what Longest comes to. -/
import Derived.Test.YtahlbebkcoofkaaLg7
namespace Go.Proofs.Ytahlbebkcoofkaa
set_option maxRecDepth 20000
open Go.RowKit Go.Sort
set_option linter.unusedVariables false

set_option maxHeartbeats 1000000 in
theorem with_any (es : List Ent) (a : Option Addr) (c n : Nat) (bt : Int) (f t : Nat) (w : World) (h : Rp w a es) (hkn : ∀ e ∈ es, n < e.k.length) (hn9 : n ≤ 1000000) (hbt : 0 ≤ bt ∧ bt ≤ 255) (hf : f ≤ es.length) (ht : t ≤ es.length)
    (h1 : ∀ i e, es[i]? = some e → i < f → e.k.getD n 0 < bt) (h2 : ∀ i e, es[i]? = some e → f ≤ i → bt ≤ e.k.getD n 0) (h3 : ∀ i e, es[i]? = some e → i < t → e.k.getD n 0 ≤ bt) (h4 : ∀ i e, es[i]? = some e → t ≤ i → bt < e.k.getD n 0) :
    Calls Try.prog 60 #[.slice a es.length c, .int .i64 (n : Int), .int .u8 bt] w fun r w' => r = .returned (.tuple #[.int .i64 (f : Int), .int .i64 (t : Int)]) ∧ Below w.heap.size w w' := by
  have f0 : Below w.heap.size w (w.alloc (.cells #[.int .i64 (n : Int)] 3 (0, 0))) := (Below.refl _ w).alloc (Nat.le_refl _) _
  have x0 : Blk (w.alloc (.cells #[.int .i64 (n : Int)] 3 (0, 0))) w.heap.size 3 [.int .i64 (n : Int)] := Blk.new w _ _ _ rfl
  have C1 := hide (search_int es a c n w.heap.size bt f _ (h.below f0 (Nat.le_refl _)) hkn x0 hn9 (by omega) hf (fun i e he hi => by have := h1 i e he hi; omega) (fun i e he hi => by have := h2 i e he hi; omega))
  have C2 := hide (fun w' (f' : Below (w.alloc (.cells #[.int .i64 (n : Int)] 3 (0, 0))).heap.size (w.alloc (.cells #[.int .i64 (n : Int)] 3 (0, 0))) w') => search_int es a c n w.heap.size (bt + 1) t w' ((h.below f0 (Nat.le_refl _)).below f' (Nat.le_refl _)) hkn (x0.below f' x0.lt) hn9 (by omega) ht (fun i e he hi => by have := h3 i e he hi; omega) (fun i e he hi => by have := h4 i e he hi; omega))
  have F0 := hide f0
  generalize decide ((es[f]?).map (fun e => e.k.getD n 0) = some bt) = b1 at C1
  generalize decide ((es[t]?).map (fun e => e.k.getD n 0) = some (bt + 1)) = b2 at C2
  clear h hkn f0 x0 h1 h2 h3 h4
  go_enter Try.func60, Try.ntmps60
  go_wp2_with fail
  refine C1.out.mono ?_
  rintro r w1 ⟨rfl, f1⟩
  have D := C2.out w1 f1
  have F1 := hide f1
  clear f1
  go_wp2_with fail
  refine D.mono ?_
  rintro r w2 ⟨rfl, f2⟩
  have F2 := hide (F0.out.trans ((F1.out.trans (f2.mono F1.out.size)).mono (by simp)))
  clear f2 D
  go_wp2
  go_ret2
  exact ⟨rfl, F2.out⟩

/-- Where the search for the longest beginning stands: n bytes are alike; the keys that begin with them; the last beginning that was met. -/
structure Ln (k : List Int) (ps : List KV) (n low high : Nat) (l : Int) : Prop where
  lh : low ≤ high ∧ high ≤ ps.length
  rg : ∀ (i : Nat) (p : KV), ps[i]? = some p → ((low ≤ i ∧ i < high) ↔ n ≤ common k p.1)
  up : ∀ (i : Nat) (p : KV), ps[i]? = some p → beg k p = true → p.1.length < n → (i : Int) ≤ l
  wh : l = -1 ∨ ∃ (j : Nat) (p : KV), l = (j : Int) ∧ ps[j]? = some p ∧ beg k p = true ∧ p.1.length < n
theorem Ln.start (k : List Int) (ps : List KV) : Ln k ps 0 0 ps.length (-1) :=
  ⟨by omega, fun i p hp => by have := (List.getElem?_eq_some_iff.1 hp).1; omega, fun _ _ _ _ h => by omega, .inl rfl⟩
theorem longM_some {k : List Int} {ps : List KV} {j : Nat} {p : KV} (hj : ps[j]? = some p) (hb : beg k p = true) (hu : ∀ (i : Nat) (q : KV), ps[i]? = some q → beg k q = true → i ≤ j) : longM k ps = some p := by
  unfold longM
  have hl := (List.getElem?_eq_some_iff.1 hj).1
  have he := (List.getElem?_eq_some_iff.1 hj).2
  have e : ps = ps.take j ++ p :: ps.drop (j + 1) := by rw [← he, ← List.drop_eq_getElem_cons hl, List.take_append_drop]
  have h1 : (ps.drop (j + 1)).filter (beg k) = [] := by
    rw [List.filter_eq_nil_iff]
    intro q hq hbq
    obtain ⟨i, hi, eq⟩ := mem_dropI hq
    have := hu i q eq hbq
    omega
  rw [e, List.filter_append, List.filter_cons_of_pos hb, h1]
  simp
theorem longM_none {k : List Int} {ps : List KV} (hu : ∀ (i : Nat) (q : KV), ps[i]? = some q → beg k q = false) : longM k ps = none := by
  unfold longM
  have h1 : ps.filter (beg k) = [] := by
    rw [List.filter_eq_nil_iff]
    intro q hq hbq
    obtain ⟨i, eq⟩ := List.mem_iff_getElem?.1 hq
    rw [hu i q eq] at hbq
    cases hbq
  rw [h1]; rfl
theorem beg_len {k : List Int} {p : KV} (h : beg k p = true) : common k p.1 = p.1.length := by unfold beg at h; simpa using h
/-- All beginnings have been met. -/
theorem Ln.done {k : List Int} {ps : List KV} {n low high : Nat} {l : Int} (h : Ln k ps n low high l) (hd : ∀ (i : Nat) (p : KV), ps[i]? = some p → beg k p = true → p.1.length < n) : selM l ps = longM k ps := by
  rcases h.wh with h1 | ⟨j, p, h1, hj, hb, _⟩
  · rw [h1]
    rw [longM_none]
    · rfl
    · intro i q hq
      cases hb : beg k q with
      | false => rfl
      | true => have := h.up i q hq hb (hd i q hq hb); omega
  · rw [h1, longM_some hj hb (fun i q hq hbq => by have := h.up i q hq hbq (hd i q hq hbq); omega)]
    unfold selM
    rw [if_neg (by omega)]
    simpa using hj
theorem Ln.empty {k : List Int} {ps : List KV} {n low high : Nat} {l : Int} (h : Ln k ps n low high l) (he : high ≤ low) : selM l ps = longM k ps :=
  h.done (fun i p hp hb => by
    rcases Nat.lt_or_ge p.1.length n with h1 | h1
    · exact h1
    · have := (h.rg i p hp).2 (by rw [beg_len hb]; exact h1)
      omega)
theorem common_take {k q : List Int} {n : Nat} (h : n ≤ common k q) : q.take n = k.take n := by
  have h1 := common_le k q
  refine getD_eq_of _ _ (by simp; omega) (fun i hi => ?_)
  have hi' : i < n := by have : (q.take n).length = min n q.length := by simp
                         omega
  have := common_eq k q i (by omega)
  simp only [List.getD_eq_getElem?_getD, List.getElem?_take, if_pos hi'] at this ⊢
  exact this.symm
theorem common_succ {k q : List Int} {n : Nat} (h : n ≤ common k q) (hk : n < k.length) (hq : n < q.length) : n + 1 ≤ common k q ↔ q.getD n 0 = k.getD n 0 := by
  constructor
  · intro h1; exact (common_eq k q n (by omega)).symm
  · intro h1
    rcases Nat.lt_or_ge n (common k q) with h2 | h2
    · exact h2
    · have e : common k q = n := by omega
      have := common_ne k q (by omega) (by omega)
      rw [e] at this
      exact absurd h1.symm this
/-- Keys with the same first bytes stand by the next one. -/
theorem byte_le {k a b : List Int} {n : Nat} (ha : n ≤ common k a) (hb : n ≤ common k b) (la : n < a.length) (lb : n < b.length) (h : cmpK a b < 0) : a.getD n 0 ≤ b.getD n 0 := by
  have e1 := common_take ha
  have e2 := common_take hb
  have sa : a = k.take n ++ a.getD n 0 :: a.drop (n + 1) := by
    conv => lhs; rw [← List.take_append_drop n a, e1, List.drop_eq_getElem_cons la]
    simp [List.getD_eq_getElem?_getD, la]
  have sb : b = k.take n ++ b.getD n 0 :: b.drop (n + 1) := by
    conv => lhs; rw [← List.take_append_drop n b, e2, List.drop_eq_getElem_cons lb]
    simp [List.getD_eq_getElem?_getD, lb]
  generalize a.getD n 0 = x at sa ⊢
  generalize b.getD n 0 = y at sb ⊢
  have key : ∀ (p u v : List Int), cmpK (p ++ u) (p ++ v) = cmpK u v := by
    intro p
    induction p with
    | nil => intro u v; rfl
    | cons z p ih => intro u v; rw [List.cons_append, List.cons_append, cmpK_cons, if_pos rfl, ih]
  rw [sa, sb, key, cmpK_cons] at h
  by_cases hxy : x = y
  · omega
  · rw [if_neg hxy] at h
    split at h <;> omega
theorem part_exists (g : Nat → Int) (b : Int) : ∀ N : Nat, (∀ i j, i < j → j < N → g i ≤ g j) → ∃ f, f ≤ N ∧ (∀ i, i < f → g i < b) ∧ (∀ i, f ≤ i → i < N → b ≤ g i)
  | 0, _ => ⟨0, by omega, by omega, by omega⟩
  | N + 1, hm => by
    obtain ⟨f, h1, h2, h3⟩ := part_exists g b N (fun i j hi hj => hm i j hi (by omega))
    by_cases hf : f = N
    · by_cases hb : g N < b
      · exact ⟨N + 1, by omega, fun i hi => by
          by_cases e : i = N
          · rw [e]; exact hb
          · exact h2 i (by omega), fun i hi hi2 => by omega⟩
      · exact ⟨f, by omega, h2, fun i hi hi2 => by
          have : i = N := by omega
          rw [this]; omega⟩
    · refine ⟨f, by omega, h2, fun i hi hi2 => ?_⟩
      by_cases e : i = N
      · have a1 := h3 f (by omega) (by omega)
        have a2 := hm f N (by omega) (by omega)
        rw [e]; omega
      · exact h3 i hi (by omega)
/-- Behind the first look: of the keys those that are longer. -/
structure L1 (k : List Int) (ps : List KV) (n low high : Nat) (l : Int) : Prop where
  lh : low ≤ high ∧ high ≤ ps.length
  rg : ∀ (i : Nat) (p : KV), ps[i]? = some p → ((low ≤ i ∧ i < high) ↔ (n ≤ common k p.1 ∧ n < p.1.length))
  up : ∀ (i : Nat) (p : KV), ps[i]? = some p → beg k p = true → p.1.length < n + 1 → (i : Int) ≤ l
  wh : l = -1 ∨ ∃ (j : Nat) (p : KV), l = (j : Int) ∧ ps[j]? = some p ∧ beg k p = true ∧ p.1.length < n + 1
theorem same_key {k q : List Int} {n : Nat} (h : n ≤ common k q) (hl : q.length = n) : q = k.take n := by
  have := common_take h
  rw [List.take_of_length_le (by omega)] at this
  exact this
theorem Ln.hit {k : List Int} {ps : List KV} {n low high : Nat} {l : Int} (h : Ln k ps n low high l) (hu : Ups ps) (hlh : low < high) {p0 : KV} (hp : ps[low]? = some p0) (he : p0.1.length = n) : L1 k ps n (low + 1) high low := by
  have hc0 : n ≤ common k p0.1 := (h.rg low p0 hp).1 (by omega)
  have hb0 : beg k p0 = true := by unfold beg; have := common_le k p0.1; simp; omega
  have e0 := same_key hc0 he
  refine ⟨by have := h.lh; omega, fun i p hpi => ?_, fun i p hpi hb hl => ?_, .inr ⟨low, p0, rfl, hp, hb0, by omega⟩⟩
  · have r := h.rg i p hpi
    constructor
    · rintro ⟨h1, h2⟩
      have h3 := r.1 (by omega)
      refine ⟨h3, ?_⟩
      have := common_le k p.1
      rcases Nat.lt_or_ge n p.1.length with h4 | h4
      · exact h4
      · exfalso
        have e1 := same_key h3 (by omega)
        have := ups_get hu hp hpi (by omega)
        rw [e0, e1, (cmpK_zero _ _).2 rfl] at this
        omega
    · rintro ⟨h1, h2⟩
      have h3 := r.2 h1
      refine ⟨?_, h3.2⟩
      rcases Nat.lt_or_ge low i with h4 | h4
      · omega
      · exfalso
        have : i = low := by omega
        subst this
        rw [hp] at hpi; cases hpi
        omega
  · rcases Nat.lt_or_ge p.1.length n with h1 | h1
    · have h2 := h.up i p hpi hb h1
      rcases h.wh with h3 | ⟨j, q, h3, hj, hbq, hlq⟩
      · omega
      · rcases Nat.lt_or_ge j low with h5 | h5
        · omega
        · exfalso
          have h6 : j < high := by
            rcases Nat.lt_or_ge j high with h7 | h7
            · exact h7
            · exfalso
              have := ups_get hu hp hj (by omega)
              have e1 : q.1 = k.take q.1.length := same_key (by rw [beg_len hbq]; exact Nat.le_refl _) rfl
              have e2 : cmpK q.1 p0.1 < 0 := by
                rw [e0, e1]
                have hk : (k.take n) = (k.take q.1.length) ++ (k.drop q.1.length).take (n - q.1.length) := by
                  rw [← List.take_add]; congr 1; omega
                rw [hk]
                have key : ∀ (p u v : List Int), cmpK (p ++ u) (p ++ v) = cmpK u v := by
                  intro p
                  induction p with
                  | nil => intro u v; rfl
                  | cons z p ih => intro u v; rw [List.cons_append, List.cons_append, cmpK_cons, if_pos rfl, ih]
                have := key (k.take q.1.length) [] ((k.drop q.1.length).take (n - q.1.length))
                rw [List.append_nil] at this
                rw [this, cmpK_nil, if_neg]
                · omega
                · intro h9
                  have h10 := congrArg List.length h9
                  have h11 := common_le k p0.1
                  simp at h10
                  omega
              have := cmpK_swap p0.1 q.1
              omega
          have := (h.rg j q hj).1 (by omega)
          have := common_le k q.1
          omega
    · have hl2 : p.1.length = n := by omega
      have h3 : n ≤ common k p.1 := by rw [beg_len hb]; omega
      have e1 := same_key h3 hl2
      have := rank_at hu hpi
      have h4 := rank_at hu hp
      rw [e1, ← e0, h4] at this
      omega
end Go.Proofs.Ytahlbebkcoofkaa
