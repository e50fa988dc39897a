/- Plain theory: the bytes of a mask in their order, their ranks, their neighbours; those that are not there. No walk here. -/
import Derived.Test.YtmogjhljmljpfaaDoorAll9
namespace Go.Proofs.YtmogjhljmljpfaaDoor
set_option maxRecDepth 20000
open Go.RowKit

theorem bitsOf_map : ∀ n x, bitsOf n x = (List.range n).map fun i => (x.testBit i).toNat
  | 0, _ => rfl
  | n + 1, x => by
    rw [bitsOf, bitsOf_map n (x / 2), List.range_succ_eq_map, List.map_cons, List.map_map]
    congr 1
    · rw [Nat.testBit_zero]
      by_cases h : x % 2 = 1
      · simp [h]
      · have : x % 2 = 0 := by omega
        simp [this]
    · apply List.map_congr_left
      intro i _
      simp [Function.comp, Nat.testBit_succ]
theorem sum_toNat (p : Nat → Bool) (l : List Nat) : (l.map fun i => (p i).toNat).sum = (l.filter p).length := by
  induction l with
  | nil => rfl
  | cons a l ih =>
    simp only [List.map_cons, List.sum_cons, ih, List.filter_cons]
    cases p a
    · simp
    · simp; omega
theorem pop_len (x : Nat) : pop x = (bl64 x).length := by
  unfold pop bl64
  rw [bitsOf_map, sum_toNat]
theorem popTo_len (m : List Nat) : ∀ k, k ≤ m.length → popTo m k = (upTo m k).length
  | 0, _ => rfl
  | k + 1, h => by
    rw [popTo_succ m k (by omega), upTo_succ, List.length_append, List.length_map, popTo_len m k (by omega), pop_len]
theorem cnt_len (m : List Nat) (hm : Ok m) : cnt m = (elems m).length := by
  unfold cnt
  rw [popTo_len m 4 (by rw [hm.len]; omega), upTo_all]

theorem elems_mem (m : List Nat) (b : Nat) : b ∈ elems m ↔ b < 256 ∧ inM m b = true := by simp [elems]
theorem elems_sorted (m : List Nat) : (elems m).Pairwise (· < ·) := List.pairwise_lt_range.filter _
theorem elems_lt (m : List Nat) (i j : Nat) (hij : i < j) (hj : j < (elems m).length) : (elems m).getD i 0 < (elems m).getD j 0 := by
  have := (List.pairwise_iff_getElem.1 (elems_sorted m)) i j (by omega) hj hij
  simpa [hj, show i < (elems m).length by omega] using this
theorem elems_at (m : List Nat) (i : Nat) (h : i < (elems m).length) : (elems m).getD i 0 < 256 ∧ inM m ((elems m).getD i 0) = true := by
  have : (elems m).getD i 0 ∈ elems m := by
    rw [List.getD_eq_getElem?_getD, List.getElem?_eq_getElem h]
    exact List.getElem_mem _
  exact (elems_mem m _).1 this
theorem elems_ix (m : List Nat) (b : Nat) (hb : b < 256) (h : inM m b = true) : ∃ i, i < (elems m).length ∧ (elems m).getD i 0 = b := by
  obtain ⟨i, hi, e⟩ := List.mem_iff_getElem.1 ((elems_mem m b).2 ⟨hb, h⟩)
  exact ⟨i, hi, by simp [hi, e]⟩
theorem elems_len (m : List Nat) : (elems m).length ≤ 256 := upTo_len m 4

/-- What Next tells from the j-th on; what Prev tells below the j-th. -/
def stepUp (m : List Nat) (j : Nat) : Int := if j < (elems m).length then ((elems m).getD j 0 : Int) else -1
def stepDown (m : List Nat) (j : Nat) : Int := if 0 < j then ((elems m).getD (j - 1) 0 : Int) else -1

theorem nxt_from (m : List Nat) (n : Int) (j : Nat) (hj : j ≤ (elems m).length) (hlo : ∀ i, i < j → ((elems m).getD i 0 : Int) < n) (hhi : j < (elems m).length → n ≤ ((elems m).getD j 0 : Int)) : nxt m n = stepUp m j := by
  unfold stepUp nxt
  by_cases h : j < (elems m).length
  · rw [if_pos h]
    obtain ⟨h1, h2⟩ := elems_at m j h
    refine firstUp_hit _ 256 _ h1 (by rw [h2, Bool.true_and]; exact decide_eq_true (hhi h)) fun i hi => ?_
    cases hb : inM m i with
    | false => rfl
    | true =>
      obtain ⟨l, hl, e⟩ := elems_ix m i (by omega) hb
      have : l < j := by
        rcases Nat.lt_trichotomy l j with h | h | h
        · exact h
        · subst h; omega
        · have := elems_lt m j l h hl; omega
      have := hlo l this
      simp
      omega
  · rw [if_neg h]
    refine firstUp_miss _ 256 fun i hi => ?_
    cases hb : inM m i with
    | false => rfl
    | true =>
      obtain ⟨l, hl, e⟩ := elems_ix m i hi hb
      have := hlo l (by omega)
      simp
      omega
theorem nxt_start (m : List Nat) (n : Int) (hn : n ≤ 0) : nxt m n = stepUp m 0 := nxt_from m n 0 (by omega) (fun i hi => by omega) (fun _ => by omega)
theorem nxt_step (m : List Nat) (j : Nat) (hj : j < (elems m).length) : nxt m (((elems m).getD j 0 : Int) + 1) = stepUp m (j + 1) :=
  nxt_from m _ (j + 1) (by omega) (fun i hi => by
    by_cases e : i = j
    · subst e; omega
    · have := elems_lt m i j (by omega) hj; omega) (fun h => by have := elems_lt m j (j + 1) (by omega) h; omega)
theorem prv_from (m : List Nat) (n : Int) (j : Nat) (hj : j ≤ (elems m).length) (hlo : 0 < j → ((elems m).getD (j - 1) 0 : Int) ≤ n) (hhi : ∀ i, j ≤ i → i < (elems m).length → n < ((elems m).getD i 0 : Int)) : prv m n = stepDown m j := by
  unfold stepDown prv
  by_cases h : 0 < j
  · rw [if_pos h]
    obtain ⟨h1, h2⟩ := elems_at m (j - 1) (by omega)
    refine lastIn_hit _ 256 _ h1 (by rw [h2, Bool.true_and]; exact decide_eq_true (hlo h)) fun i hi h256 => ?_
    cases hb : inM m i with
    | false => rfl
    | true =>
      obtain ⟨l, hl, e⟩ := elems_ix m i h256 hb
      have : j ≤ l := by
        rcases Nat.lt_or_ge l j with h | h
        · by_cases e2 : l = j - 1
          · subst e2; omega
          · have := elems_lt m l (j - 1) (by omega) (by omega); omega
        · exact h
      have := hhi l this hl
      simp
      omega
  · rw [if_neg h]
    refine lastIn_miss _ 256 fun i hi => ?_
    cases hb : inM m i with
    | false => rfl
    | true =>
      obtain ⟨l, hl, e⟩ := elems_ix m i hi hb
      have := hhi l (by omega) hl
      simp
      omega
theorem prv_start (m : List Nat) (n : Int) (hn : 255 ≤ n) : prv m n = stepDown m (elems m).length :=
  prv_from m n _ (Nat.le_refl _) (fun h => by have := (elems_at m ((elems m).length - 1) (by omega)).1; omega) (fun i h1 h2 => by omega)
theorem prv_step (m : List Nat) (j : Nat) (hj : j < (elems m).length) : prv m (((elems m).getD j 0 : Int) - 1) = stepDown m j :=
  prv_from m _ j (by omega) (fun h => by have := elems_lt m (j - 1) j (by omega) hj; omega) (fun i h1 h2 => by
    by_cases e : i = j
    · subst e; omega
    · have := elems_lt m j i (by omega) h2; omega)

theorem elems_bl (m : List Nat) (hm : Ok m) (n : Int) : elems (bl m n) = (elems m).filter fun (b : Nat) => decide ((b : Int) < n) := by
  unfold elems
  rw [List.filter_filter]
  apply List.filter_congr
  intro b hb
  rw [inM_bl m hm n b (by simpa using hb), Bool.and_comm]
theorem rank_at (m : List Nat) (hm : Ok m) (j : Nat) (hj : j < (elems m).length) : cnt (bl m (max ((elems m).getD j 0 : Int) 0)) = j := by
  rw [show max ((elems m).getD j 0 : Int) 0 = ((elems m).getD j 0 : Int) by omega, cnt_len _ (bl_ok m hm _), elems_bl m hm]
  obtain ⟨t, ht⟩ : ∃ t, t = (elems m).getD j 0 := ⟨_, rfl⟩
  rw [← ht]
  have h1 : ((elems m).take j).filter (fun (b : Nat) => decide ((b : Int) < (t : Int))) = (elems m).take j := by
    rw [List.filter_eq_self]
    intro b hb
    obtain ⟨i, hi, e⟩ := List.mem_iff_getElem.1 hb
    simp only [List.length_take] at hi
    have := elems_lt m i j (by omega) hj
    have e2 : (elems m).getD i 0 = b := by
      rw [← e]; simp [show i < (elems m).length by omega]
    exact decide_eq_true (by omega)
  have h2 : ((elems m).drop j).filter (fun (b : Nat) => decide ((b : Int) < (t : Int))) = [] := by
    rw [List.filter_eq_nil_iff]
    intro b hb
    obtain ⟨i, hi, e⟩ := List.mem_iff_getElem.1 hb
    simp only [List.length_drop] at hi
    have e2 : (elems m).getD (j + i) 0 = b := by
      rw [← e]; simp [show j + i < (elems m).length by omega]
    have : t ≤ b := by
      by_cases h0 : i = 0
      · subst h0; rw [Nat.add_zero] at e2; omega
      · have := elems_lt m j (j + i) (by omega) (by omega)
        omega
    simp
    omega
  have e : (elems m).filter (fun (b : Nat) => decide ((b : Int) < (t : Int))) = (elems m).take j := by
    conv => lhs; rw [← List.take_append_drop j (elems m), List.filter_append]
    rw [h1, h2, List.append_nil]
  rw [e, List.length_take]
  omega
theorem bl_all (m : List Nat) (hm : Ok m) (n : Int) (hn : 256 ≤ n) : bl m n = m :=
  mask_ext _ _ (bl_ok m hm n) hm fun b hb => by
    rw [inM_bl m hm n b hb]
    have : (b : Int) < n := by omega
    simp [this]

/-- Those that are not there. -/
def others (m : List Nat) : List Nat := m.map fun x => 18446744073709551615 - x
theorem others_getD (m : List Nat) (i : Nat) (h : i < m.length) : (others m).getD i 0 = 18446744073709551615 - m.getD i 0 := by simp [others, h]
theorem others_ok (m : List Nat) (hm : Ok m) : Ok (others m) := by
  refine ⟨by simp [others, hm.len], fun i => ?_⟩
  by_cases h : i < m.length
  · rw [others_getD m i h]; omega
  · rw [List.getD_eq_getElem?_getD, List.getElem?_eq_none (by simpa [others] using h)]; decide
theorem inM_others (m : List Nat) (hm : Ok m) (b : Nat) (hb : b < 256) : inM (others m) b = !inM m b := by
  unfold inM
  rw [others_getD _ _ (by rw [hm.len]; omega), testBit_not _ _ (hm.lt _) (Nat.mod_lt _ (by decide))]
theorem split_len (p : Nat → Bool) (l : List Nat) : (l.filter p).length + (l.filter fun b => !p b).length = l.length := by
  induction l with
  | nil => rfl
  | cons a l ih =>
    simp only [List.filter_cons]
    cases p a <;> simp <;> omega
theorem cnt_others (m : List Nat) (hm : Ok m) : cnt m + cnt (others m) = 256 := by
  rw [cnt_len m hm, cnt_len _ (others_ok m hm)]
  have e : elems (others m) = (List.range 256).filter fun b => !inM m b := by
    apply List.filter_congr
    intro b hb
    exact inM_others m hm b (by simpa using hb)
  rw [e]
  have := split_len (inM m) (List.range 256)
  simpa [elems] using this
theorem below_len (n : Nat) (h : n ≤ 256) : ((List.range 256).filter fun (b : Nat) => decide ((b : Int) < (n : Int))).length = n := by
  have e : List.range 256 = List.range n ++ (List.range (256 - n)).map (n + ·) := by
    rw [← List.range_add]; congr 1; omega
  rw [e, List.filter_append]
  have h1 : (List.range n).filter (fun (b : Nat) => decide ((b : Int) < (n : Int))) = List.range n := by
    rw [List.filter_eq_self]; intro b hb; simp at hb ⊢; omega
  have h2 : ((List.range (256 - n)).map (n + ·)).filter (fun (b : Nat) => decide ((b : Int) < (n : Int))) = [] := by
    rw [List.filter_eq_nil_iff]
    intro b hb
    obtain ⟨i, _, rfl⟩ := List.mem_map.1 hb
    simp
    omega
  rw [h1, h2]
  simp
theorem rank_others (m : List Nat) (hm : Ok m) (n : Nat) (hn : n ≤ 256) : cnt (bl m (max (n : Int) 0)) + cnt (bl (others m) (max (n : Int) 0)) = n := by
  rw [show max (n : Int) 0 = n by omega, cnt_len _ (bl_ok m hm _), cnt_len _ (bl_ok _ (others_ok m hm) _), elems_bl m hm, elems_bl _ (others_ok m hm)]
  have e : elems (others m) = (List.range 256).filter fun b => !inM m b := by
    apply List.filter_congr
    intro b hb
    exact inM_others m hm b (by simpa using hb)
  rw [e]
  unfold elems
  rw [List.filter_filter, List.filter_filter]
  have := split_len (inM m) ((List.range 256).filter fun (b : Nat) => decide ((b : Int) < (n : Int)))
  rw [List.filter_filter, List.filter_filter, below_len n hn] at this
  have c1 : (fun (a : Nat) => inM m a && decide ((a : Int) < (n : Int))) = (fun (a : Nat) => decide ((a : Int) < (n : Int)) && inM m a) := funext fun a => Bool.and_comm _ _
  have c2 : (fun (a : Nat) => (!inM m a) && decide ((a : Int) < (n : Int))) = (fun (a : Nat) => decide ((a : Int) < (n : Int)) && !inM m a) := funext fun a => Bool.and_comm _ _
  rw [c1, c2] at this
  exact this

end Go.Proofs.YtmogjhljmljpfaaDoor
