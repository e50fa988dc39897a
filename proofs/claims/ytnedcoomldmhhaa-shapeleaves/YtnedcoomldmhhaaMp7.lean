/- Plain theory of ordered maps: lists of keys and numbers by rising keys. No program here. -/
import Derived.Test.YtnedcoomldmhhaaKey7
namespace Go.Proofs.Ytnedcoomldmhhaa
set_option maxRecDepth 20000
set_option linter.unusedVariables false

abbrev KV := List Int × Int
/-- Each key stands behind the one before it. -/
def Ups (ps : List KV) : Prop := ps.Pairwise (fun p q => cmpK p.1 q.1 < 0)
/-- How many keys stand ahead of k. -/
def rankM (k : List Int) : List KV → Nat
  | [] => 0
  | p :: ps => if cmpK p.1 k < 0 then rankM k ps + 1 else 0
theorem rank_le (k : List Int) : ∀ ps : List KV, rankM k ps ≤ ps.length
  | [] => Nat.le_refl _
  | p :: ps => by
    have := rank_le k ps
    simp only [rankM]
    split <;> simp <;> omega
theorem rank_lo (k : List Int) : ∀ (ps : List KV) (i : Nat) (p : KV), ps[i]? = some p → i < rankM k ps → cmpK p.1 k < 0
  | [], i, p, h, _ => by simp at h
  | q :: ps, i, p, h, hi => by
    simp only [rankM] at hi
    split at hi
    · rename_i hq
      cases i with
      | zero => simp at h; subst h; exact hq
      | succ i => exact rank_lo k ps i p (by simpa using h) (by omega)
    · omega
theorem cmpK_le_lt {a b c : List Int} (h1 : cmpK a b < 0) (h2 : cmpK b c ≤ 0) : cmpK a c < 0 := by
  have h3 := cmpK_trans a b c (by omega) h2
  rcases cmpK_range a c with h | h | h
  · omega
  · have e := (cmpK_zero a c).1 h
    subst e
    have := cmpK_swap a b
    omega
  · omega
theorem cmpK_lt_le {a b c : List Int} (h1 : cmpK a b ≤ 0) (h2 : cmpK b c < 0) : cmpK a c < 0 := by
  have h3 := cmpK_trans a b c h1 (by omega)
  rcases cmpK_range a c with h | h | h
  · omega
  · have e := (cmpK_zero a c).1 h
    subst e
    have := cmpK_swap a b
    omega
  · omega
theorem rank_hi (k : List Int) : ∀ (ps : List KV), Ups ps → ∀ (i : Nat) (p : KV), ps[i]? = some p → rankM k ps ≤ i → 0 ≤ cmpK p.1 k
  | [], _, i, p, h, _ => by simp at h
  | q :: ps, hu, i, p, h, hi => by
    have hu' := List.pairwise_cons.1 hu
    simp only [rankM] at hi
    split at hi
    · cases i with
      | zero => omega
      | succ i => exact rank_hi k ps hu'.2 i p (by simpa using h) (by omega)
    · rename_i hq
      cases i with
      | zero => simp at h; subst h; omega
      | succ i =>
        have hm : p ∈ ps := List.mem_of_getElem? (by simpa using h)
        have h1 := hu'.1 p hm
        rcases Int.lt_or_le (cmpK p.1 k) 0 with h2 | h2
        · exact absurd (cmpK_le_lt h1 (by omega)) hq
        · exact h2
theorem rank_of (k : List Int) (ps : List KV) (n : Nat) (hn : n ≤ ps.length) (hl : ∀ i p, ps[i]? = some p → i < n → cmpK p.1 k < 0) (hr : ∀ p, ps[n]? = some p → 0 ≤ cmpK p.1 k) : rankM k ps = n := by
  induction ps generalizing n with
  | nil => simp at hn; subst hn; rfl
  | cons q ps ih =>
    cases n with
    | zero => have := hr q (by simp); simp only [rankM]; rw [if_neg (by omega)]
    | succ n =>
      have h1 := hl 0 q (by simp) (by omega)
      simp only [rankM]
      rw [if_pos h1, ih n (by simpa using hn) (fun i p h hi => hl (i + 1) p (by simpa using h) (by omega)) (fun p h => hr p (by simpa using h))]
/-- Is k there? -/
def isIn (k : List Int) (ps : List KV) : Bool := decide ((ps[rankM k ps]?).map Prod.fst = some k)
theorem isIn_true {k : List Int} {ps : List KV} (h : isIn k ps = true) : ∃ v, ps[rankM k ps]? = some (k, v) := by
  unfold isIn at h
  simp only [decide_eq_true_eq, Option.map_eq_some_iff] at h
  obtain ⟨p, hp, e⟩ := h
  exact ⟨p.2, by rw [hp, ← e]⟩
theorem isIn_lt {k : List Int} {ps : List KV} (h : isIn k ps = true) : rankM k ps < ps.length := by
  obtain ⟨v, hv⟩ := isIn_true h
  exact (List.getElem?_eq_some_iff.1 hv).1
def keyO : Option KV → List Int
  | none => []
  | some p => p.1
def valO : Option KV → Int
  | none => 0
  | some p => p.2
/-- The pair of k. -/
def findM (k : List Int) (ps : List KV) : Option KV := if isIn k ps then ps[rankM k ps]? else none
theorem findM_isSome (k : List Int) (ps : List KV) : (findM k ps).isSome = isIn k ps := by
  unfold findM
  cases h : isIn k ps with
  | false => rfl
  | true =>
    obtain ⟨v, hv⟩ := isIn_true h
    rw [if_pos rfl, hv]; rfl
def putM (k : List Int) (v : Int) (ps : List KV) : List KV := ps.take (rankM k ps) ++ (k, v) :: ps.drop (if isIn k ps then rankM k ps + 1 else rankM k ps)
def dropM (k : List Int) (ps : List KV) : List KV := if isIn k ps then ps.take (rankM k ps) ++ ps.drop (rankM k ps + 1) else ps
def selM (i : Int) (ps : List KV) : Option KV := if i < 0 then none else ps[i.toNat]?
def floorM (k : List Int) (ps : List KV) : Option KV := selM (if isIn k ps then (rankM k ps : Int) else (rankM k ps : Int) - 1) ps
def ceilM (k : List Int) (ps : List KV) : Option KV := selM (rankM k ps) ps
def fromM (k : List Int) (n : Int) (ps : List KV) : List KV := (ps.drop (rankM k ps)).take n.toNat
/-- Is p's key a beginning of k? -/
def beg (k : List Int) (p : KV) : Bool := decide (common k p.1 = p.1.length)
def longM (k : List Int) (ps : List KV) : Option KV := (ps.filter (beg k)).getLast?

theorem ups_get {ps : List KV} (h : Ups ps) {i j : Nat} {p q : KV} (hi : ps[i]? = some p) (hj : ps[j]? = some q) (hij : i < j) : cmpK p.1 q.1 < 0 := by
  have h1 := List.getElem?_eq_some_iff.1 hi
  have h2 := List.getElem?_eq_some_iff.1 hj
  have := List.pairwise_iff_getElem.1 h i j h1.1 h2.1 hij
  rwa [h1.2, h2.2] at this
theorem rank_at {ps : List KV} (h : Ups ps) {i : Nat} {p : KV} (hi : ps[i]? = some p) : rankM p.1 ps = i := by
  refine rank_of _ _ _ (Nat.le_of_lt (List.getElem?_eq_some_iff.1 hi).1) (fun j q hq hj => ups_get h hq hi hj) (fun q hq => ?_)
  rw [hi] at hq; cases hq
  rw [(cmpK_zero _ _).2 rfl]; omega
theorem isIn_at {ps : List KV} (h : Ups ps) {i : Nat} {p : KV} (hi : ps[i]? = some p) : isIn p.1 ps = true := by
  unfold isIn; rw [rank_at h hi, hi]; simp
theorem isIn_iff {ps : List KV} (h : Ups ps) (k : List Int) : isIn k ps = true ↔ ∃ v, (k, v) ∈ ps := by
  constructor
  · intro hi
    obtain ⟨v, hv⟩ := isIn_true hi
    exact ⟨v, List.mem_of_getElem? hv⟩
  · rintro ⟨v, hv⟩
    obtain ⟨i, hi⟩ := List.mem_iff_getElem?.1 hv
    exact isIn_at h hi
theorem rank_gt {ps : List KV} (h : Ups ps) {k : List Int} (hk : isIn k ps = false) {i : Nat} {p : KV} (hi : ps[i]? = some p) (hr : rankM k ps ≤ i) : 0 < cmpK p.1 k := by
  have h1 := rank_hi k ps h i p hi hr
  rcases cmpK_range p.1 k with h2 | h2 | h2
  · omega
  · exfalso
    have e := (cmpK_zero _ _).1 h2
    have := isIn_at h hi
    rw [e] at this
    rw [this] at hk
    cases hk
  · omega
theorem mem_takeI {α : Type} {l : List α} {n : Nat} {x : α} (h : x ∈ l.take n) : ∃ i, i < n ∧ l[i]? = some x := by
  obtain ⟨q, hq, e⟩ := List.mem_take_iff_getElem.1 h
  exact ⟨q, by omega, by rw [List.getElem?_eq_getElem (by omega), e]⟩
theorem mem_dropI {α : Type} {l : List α} {n : Nat} {x : α} (h : x ∈ l.drop n) : ∃ i, n ≤ i ∧ l[i]? = some x := by
  obtain ⟨q, e⟩ := List.mem_iff_getElem?.1 h
  rw [List.getElem?_drop] at e
  exact ⟨n + q, by omega, e⟩
theorem putM_ups {ps : List KV} (h : Ups ps) (k : List Int) (v : Int) : Ups (putM k v ps) := by
  unfold putM Ups
  refine List.pairwise_append.2 ⟨h.sublist (List.take_sublist _ _), List.pairwise_cons.2 ⟨fun q hq => ?_, h.sublist (List.drop_sublist _ _)⟩, fun p hp q hq => ?_⟩
  · obtain ⟨i, hi, e⟩ := mem_dropI hq
    rw [show cmpK (k, v).1 q.1 = - cmpK q.1 k from cmpK_swap q.1 k]
    cases hk : isIn k ps with
    | false =>
      rw [hk] at hi
      have := rank_gt h hk e (by simpa using hi)
      omega
    | true =>
      rw [hk] at hi
      simp at hi
      obtain ⟨u, hu⟩ := isIn_true hk
      have h1 := ups_get h hu e (by omega)
      rw [show cmpK (k, u).1 q.1 = - cmpK q.1 k from cmpK_swap q.1 k] at h1
      omega
  · obtain ⟨i, hi, e⟩ := mem_takeI hp
    have h1 := rank_lo k ps i p e hi
    rcases List.mem_cons.1 hq with rfl | hq
    · exact h1
    · obtain ⟨j, hj, e2⟩ := mem_dropI hq
      exact ups_get h e e2 (by split at hj <;> omega)
theorem dropM_ups {ps : List KV} (h : Ups ps) (k : List Int) : Ups (dropM k ps) := by
  unfold dropM
  split
  · refine List.pairwise_append.2 ⟨h.sublist (List.take_sublist _ _), h.sublist (List.drop_sublist _ _), fun p hp q hq => ?_⟩
    obtain ⟨i, hi, e⟩ := mem_takeI hp
    obtain ⟨j, hj, e2⟩ := mem_dropI hq
    exact ups_get h e e2 (by omega)
  · exact h
end Go.Proofs.Ytnedcoomldmhhaa
