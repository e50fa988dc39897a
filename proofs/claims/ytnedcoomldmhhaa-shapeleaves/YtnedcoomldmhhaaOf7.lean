/- Plain theory: a map out of pairs, one put behind the other; the same by a stable sort. No program here. -/
import Derived.Test.YtnedcoomldmhhaaMp7
import Derived.Test.YtnedcoomldmhhaaSrt7
namespace Go.Proofs.Ytnedcoomldmhhaa
set_option maxRecDepth 20000
set_option linter.unusedVariables false

def ofM (ps : List KV) : List KV := ps.foldl (fun m p => putM p.1 p.2 m) []
theorem snoc_ind {α : Type} {P : List α → Prop} (h0 : P []) (h1 : ∀ l a, P l → P (l ++ [a])) (l : List α) : P l := by
  have h : ∀ l : List α, P l.reverse := fun l => by
    induction l with
    | nil => exact h0
    | cons a l ih => rw [List.reverse_cons]; exact h1 _ _ ih
  have := h l.reverse
  rwa [List.reverse_reverse] at this
theorem ofM_snoc (ps : List KV) (p : KV) : ofM (ps ++ [p]) = putM p.1 p.2 (ofM ps) := by simp [ofM]
theorem ups_nil : Ups [] := List.Pairwise.nil
theorem foldl_ups : ∀ (ps m : List KV), Ups m → Ups (ps.foldl (fun m p => putM p.1 p.2 m) m)
  | [], m, h => h
  | p :: ps, m, h => foldl_ups ps _ (putM_ups h p.1 p.2)
theorem ofM_ups (ps : List KV) : Ups (ofM ps) := foldl_ups ps [] ups_nil
/-- The last value of a key. -/
def lastV (k : List Int) : List KV → Option Int
  | [] => none
  | p :: ps => match lastV k ps with
    | some v => some v
    | none => if p.1 = k then some p.2 else none
theorem lastV_append (k : List Int) : ∀ (ps qs : List KV), lastV k (ps ++ qs) = match lastV k qs with | some v => some v | none => lastV k ps
  | [], qs => by simp only [List.nil_append, lastV]; cases lastV k qs <;> rfl
  | p :: ps, qs => by
    simp only [List.cons_append, lastV, lastV_append k ps qs]
    cases lastV k qs <;> rfl
theorem lastV_snoc (k : List Int) (ps : List KV) (p : KV) : lastV k (ps ++ [p]) = if p.1 = k then some p.2 else lastV k ps := by
  rw [lastV_append]
  simp only [lastV]
  split <;> rename_i h <;> split at h <;> simp_all
theorem lastV_none {k : List Int} {ps : List KV} (h : ∀ p ∈ ps, p.1 ≠ k) : lastV k ps = none := by
  induction ps with
  | nil => rfl
  | cons p ps ih =>
    simp only [lastV]
    rw [ih (fun q hq => h q (by simp [hq]))]
    simp only
    rw [if_neg (h p (by simp))]
theorem lastV_mem {k : List Int} {ps : List KV} {v : Int} (h : lastV k ps = some v) : (k, v) ∈ ps := by
  induction ps with
  | nil => simp [lastV] at h
  | cons p ps ih =>
    simp only [lastV] at h
    split at h
    · rename_i u hu
      cases h
      exact List.mem_cons_of_mem _ (ih hu)
    · split at h
      · rename_i hk
        cases h
        subst hk
        simp
      · cases h
theorem lastV_filter (k : List Int) (ps : List KV) : lastV k (ps.filter (fun p => p.1 == k)) = lastV k ps := by
  induction ps with
  | nil => rfl
  | cons p ps ih =>
    by_cases hk : p.1 = k
    · rw [List.filter_cons_of_pos (by simpa using hk)]
      simp only [lastV, ih]
    · rw [List.filter_cons_of_neg (by simpa using hk), ih]
      simp only [lastV]
      cases h : lastV k ps with
      | some v => rfl
      | none => simp [hk]
theorem mem_putM {m : List KV} (h : Ups m) (k0 : List Int) (v0 : Int) (k : List Int) (v : Int) : (k, v) ∈ putM k0 v0 m ↔ if k0 = k then v = v0 else (k, v) ∈ m := by
  have key : ∀ i p, m[i]? = some p → p.1 = k0 → isIn k0 m = true ∧ i = rankM k0 m := by
    intro i p hp hk
    subst hk
    exact ⟨isIn_at h hp, (rank_at h hp).symm⟩
  unfold putM
  simp only [List.mem_append, List.mem_cons]
  constructor
  · rintro (h1 | h1 | h1)
    · obtain ⟨i, hi, e⟩ := mem_takeI h1
      rw [if_neg]
      · exact List.mem_of_getElem? e
      · rintro rfl
        have := (key i _ e rfl).2
        omega
    · cases h1; rw [if_pos rfl]
    · obtain ⟨i, hi, e⟩ := mem_dropI h1
      rw [if_neg]
      · exact List.mem_of_getElem? e
      · rintro rfl
        have := key i _ e rfl
        rw [this.1] at hi
        simp at hi
        omega
  · intro h1
    by_cases hk : k0 = k
    · rw [if_pos hk] at h1
      right; left
      rw [h1, hk]
    · rw [if_neg hk] at h1
      obtain ⟨i, e⟩ := List.mem_iff_getElem?.1 h1
      by_cases hi : i < rankM k0 m
      · left
        exact List.mem_iff_getElem?.2 ⟨i, by rw [List.getElem?_take, if_pos hi, e]⟩
      · right; right
        by_cases hii : isIn k0 m = true
        · rw [if_pos hii]
          have hne : i ≠ rankM k0 m := by
            intro he
            obtain ⟨u, hu⟩ := isIn_true hii
            rw [he, hu] at e
            cases e
            exact hk rfl
          exact List.mem_iff_getElem?.2 ⟨i - (rankM k0 m + 1), by rw [List.getElem?_drop, show rankM k0 m + 1 + (i - (rankM k0 m + 1)) = i by omega, e]⟩
        · rw [if_neg hii]
          exact List.mem_iff_getElem?.2 ⟨i - rankM k0 m, by rw [List.getElem?_drop, show rankM k0 m + (i - rankM k0 m) = i by omega, e]⟩
theorem mem_ofM (ps : List KV) (k : List Int) (v : Int) : (k, v) ∈ ofM ps ↔ lastV k ps = some v := by
  refine snoc_ind (P := fun ps => (k, v) ∈ ofM ps ↔ lastV k ps = some v) ?_ (fun ps p ih => ?_) ps
  · simp [ofM, lastV]
  · rw [ofM_snoc, mem_putM (ofM_ups ps), lastV_snoc, ih]
    by_cases hk : p.1 = k
    · rw [if_pos hk, if_pos hk]
      constructor
      · rintro rfl; rfl
      · intro h; cases h; rfl
    · rw [if_neg hk, if_neg hk]
/-- Lists that rise and have the same pairs are the same. -/
theorem ups_ext : ∀ (a b : List KV), Ups a → Ups b → (∀ k v, (k, v) ∈ a ↔ (k, v) ∈ b) → a = b
  | [], [], _, _, _ => rfl
  | [], q :: b, _, _, h => by have := (h q.1 q.2).2 (by simp); simp at this
  | p :: a, [], _, _, h => by have := (h p.1 p.2).1 (by simp); simp at this
  | p :: a, q :: b, ha, hb, h => by
    have ha' := List.pairwise_cons.1 ha
    have hb' := List.pairwise_cons.1 hb
    have ir : ∀ x : List Int, ¬ cmpK x x < 0 := fun x => by rw [(cmpK_zero x x).2 rfl]; omega
    have e : p = q := by
      have h1 := (h p.1 p.2).1 (by simp)
      have h2 := (h q.1 q.2).2 (by simp)
      rcases List.mem_cons.1 h1 with h1 | h1
      · exact h1
      · rcases List.mem_cons.1 h2 with h2 | h2
        · exact h2.symm
        · have a1 := hb'.1 _ h1
          have a2 := ha'.1 _ h2
          exact absurd (cmpK_lt_trans a1 a2) (ir _)
    subst e
    have : a = b := ups_ext a b ha'.2 hb'.2 (fun k v => by
      constructor
      · intro hm
        rcases List.mem_cons.1 ((h k v).1 (List.mem_cons_of_mem _ hm)) with h1 | h1
        · exfalso
          have := ha'.1 _ hm
          rw [h1] at this
          exact ir _ this
        · exact h1
      · intro hm
        rcases List.mem_cons.1 ((h k v).2 (List.mem_cons_of_mem _ hm)) with h1 | h1
        · exfalso
          have := hb'.1 _ hm
          rw [h1] at this
          exact ir _ this
        · exact h1)
    rw [this]
/-- Of those that stand together with one key, the last ones. -/
def lastsK : List KV → List KV
  | [] => []
  | [p] => [p]
  | p :: q :: ps => if p.1 = q.1 then lastsK (q :: ps) else p :: lastsK (q :: ps)
def Weak (ps : List KV) : Prop := ps.Pairwise (fun p q => cmpK p.1 q.1 ≤ 0)
theorem mem_lastsK : ∀ (ps : List KV), Weak ps → ∀ k v, (k, v) ∈ lastsK ps ↔ lastV k ps = some v
  | [], _, k, v => by simp [lastsK, lastV]
  | [p], _, k, v => by
    simp only [lastsK, lastV, List.mem_singleton]
    constructor
    · rintro rfl; simp
    · intro h
      split at h
      · rename_i hk; cases h; rw [← hk]
      · cases h
  | p :: q :: ps, hw, k, v => by
    have hw' := List.pairwise_cons.1 hw
    have ih := mem_lastsK (q :: ps) hw'.2 k v
    have e : lastV k (p :: q :: ps) = match lastV k (q :: ps) with | some v => some v | none => if p.1 = k then some p.2 else none := rfl
    rw [e]
    by_cases hpq : p.1 = q.1
    · simp only [lastsK]
      rw [if_pos hpq, ih]
      cases hl : lastV k (q :: ps) with
      | some u => rfl
      | none =>
        have hk : p.1 ≠ k := by
          intro hk
          have e2 : lastV k (q :: ps) = match lastV k ps with | some v => some v | none => if q.1 = k then some q.2 else none := rfl
          rw [e2, if_pos (hpq ▸ hk)] at hl
          cases hz : lastV k ps <;> rw [hz] at hl <;> cases hl
        simp [hk]
    · simp only [lastsK]
      rw [if_neg hpq, List.mem_cons, ih]
      have hno : lastV p.1 (q :: ps) = none := by
        refine lastV_none (fun r hr he => ?_)
        have h1 : cmpK p.1 q.1 < 0 := by
          have := hw'.1 q (by simp)
          rcases cmpK_range p.1 q.1 with h | h | h
          · omega
          · exact absurd ((cmpK_zero _ _).1 h) hpq
          · omega
        have h2 : cmpK q.1 r.1 ≤ 0 := by
          rcases List.mem_cons.1 hr with rfl | hr
          · rw [(cmpK_zero _ _).2 rfl]; omega
          · exact (List.pairwise_cons.1 hw'.2).1 r hr
        have h3 := cmpK_le_lt h1 h2
        rw [he, (cmpK_zero _ _).2 rfl] at h3
        omega
      cases hl : lastV k (q :: ps) with
      | some u =>
        simp only
        constructor
        · rintro (h | h)
          · cases h; rw [hl] at hno; cases hno
          · exact h
        · intro h; exact .inr h
      | none =>
        simp only
        constructor
        · rintro (h | h)
          · cases h; rw [if_pos rfl]
          · cases h
        · intro h
          split at h
          · rename_i hk; cases h; left; rw [← hk]
          · cases h
theorem lastsK_ups : ∀ (ps : List KV), Weak ps → Ups (lastsK ps)
  | [], _ => ups_nil
  | [p], _ => List.pairwise_singleton _ _
  | p :: q :: ps, hw => by
    have hw' := List.pairwise_cons.1 hw
    have ih := lastsK_ups (q :: ps) hw'.2
    simp only [lastsK]
    split
    · exact ih
    · rename_i hpq
      refine List.pairwise_cons.2 ⟨fun r hr => ?_, ih⟩
      have h1 : cmpK p.1 q.1 < 0 := by
        have := hw'.1 q (by simp)
        rcases cmpK_range p.1 q.1 with h | h | h
        · omega
        · exact absurd ((cmpK_zero _ _).1 h) hpq
        · omega
      have hm := lastV_mem ((mem_lastsK (q :: ps) hw'.2 r.1 r.2).1 hr)
      have h2 : cmpK q.1 r.1 ≤ 0 := by
        rcases List.mem_cons.1 hm with h | h
        · have : q.1 = r.1 := by rw [← h]
          rw [this, (cmpK_zero _ _).2 rfl]; omega
        · exact (List.pairwise_cons.1 hw'.2).1 _ h
      exact cmpK_le_lt h1 h2
/-- Marks part whatever two stand in order: a list has but one order by its marks. -/
theorem marks_eq : ∀ (a b : List Tg), a.Perm b → a.Pairwise (fun x y => x.2 < y.2) → b.Pairwise (fun x y => x.2 < y.2) → a = b
  | [], b, p, _, _ => by have := p.length_eq; exact (List.eq_nil_of_length_eq_zero (by simpa using this.symm)).symm
  | x :: a, [], p, _, _ => by have := p.length_eq; simp at this
  | x :: a, y :: b, p, ha, hb => by
    have ha' := List.pairwise_cons.1 ha
    have hb' := List.pairwise_cons.1 hb
    have e : x = y := by
      rcases List.mem_cons.1 (p.subset (List.mem_cons_self)) with h | h
      · exact h
      · rcases List.mem_cons.1 (p.symm.subset (List.mem_cons_self)) with h2 | h2
        · exact h2.symm
        · have a1 := hb'.1 _ h
          have a2 := ha'.1 _ h2
          omega
    subst e
    rw [marks_eq a b (List.Perm.cons_inv p) ha'.2 hb'.2]
theorem zip_marks (es : List Ent) (n : Nat) : (es.zipIdx n).Pairwise (fun x y : Tg => x.2 < y.2) := by
  induction es generalizing n with
  | nil => simp
  | cons e es ih =>
    rw [List.zipIdx_cons]
    refine List.pairwise_cons.2 ⟨fun y hy => ?_, ih (n + 1)⟩
    have := List.mem_zipIdx hy
    simp only
    omega
/-- What the sort makes of pairs, and the last of each key out of it. -/
theorem new_pure (es : List Ent) (X : List Tg) (p : X.Perm es.zipIdx) (s : X.Pairwise lt7) : lastsK (X.map (fun t => t.1.kv)) = ofM (es.map Ent.kv) := by
  have hw : Weak (X.map (fun t => t.1.kv)) := by
    unfold Weak
    rw [List.pairwise_map]
    refine s.imp ?_
    intro x y h
    rcases h with h | ⟨h, _⟩
    · show cmpK x.1.k y.1.k ≤ 0; omega
    · show cmpK x.1.k y.1.k ≤ 0
      rw [h, (cmpK_zero _ _).2 rfl]; omega
  refine ups_ext _ _ (lastsK_ups _ hw) (ofM_ups _) (fun k v => ?_)
  rw [mem_lastsK _ hw, mem_ofM, ← lastV_filter k (X.map _), ← lastV_filter k (es.map _), List.filter_map, List.filter_map]
  have e1 : es.map Ent.kv = (es.zipIdx).map (fun t : Tg => t.1.kv) := by
    rw [show (fun t : Tg => t.1.kv) = Ent.kv ∘ Prod.fst from rfl, ← List.map_map, List.zipIdx_map_fst]
  have h1 : X.filter ((fun p : KV => p.1 == k) ∘ fun t => t.1.kv) = es.zipIdx.filter ((fun p : KV => p.1 == k) ∘ fun t => t.1.kv) := by
    refine marks_eq _ _ (p.filter _) ?_ ((zip_marks es 0).filter _)
    rw [List.pairwise_filter]
    refine s.imp ?_
    intro x y h hx hy
    simp only [Function.comp, beq_iff_eq] at hx hy
    rcases h with h | ⟨_, h⟩
    · exfalso
      have e : x.1.k = y.1.k := hx.trans hy.symm
      rw [e, (cmpK_zero _ _).2 rfl] at h
      omega
    · exact h
  have h2 : (es.filter ((fun p : KV => p.1 == k) ∘ Ent.kv)).map Ent.kv = (es.zipIdx.filter ((fun p : KV => p.1 == k) ∘ fun t : Tg => t.1.kv)).map (fun t => t.1.kv) := by
    rw [← List.filter_map, ← List.filter_map, ← e1]
  rw [h1, h2]
theorem ofM_len (ps : List KV) : (ofM ps).length ≤ ps.length := by
  refine snoc_ind (P := fun ps => (ofM ps).length ≤ ps.length) ?_ (fun ps p ih => ?_) ps
  · simp [ofM]
  · rw [ofM_snoc]
    have := rank_le p.1 (ofM ps)
    simp only [putM, List.length_append, List.length_take, List.length_cons, List.length_drop, List.length_nil]
    split <;> omega
theorem ofM_keys {ps : List KV} {p : KV} (h : p ∈ ofM ps) : p ∈ ps := lastV_mem ((mem_ofM ps p.1 p.2).1 h)
end Go.Proofs.Ytnedcoomldmhhaa
