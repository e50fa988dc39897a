/- Plain theory for ModelBegins and ModelOrder; two lists of pairs made one. -/
import Derived.Test.YtahlbebkcoofkaaLawLast7
namespace Go.Proofs.Ytahlbebkcoofkaa
set_option maxRecDepth 20000
open Go.RowKit Go.Sort
set_option linter.unusedVariables false

theorem rank_nil (ps : List KV) : rankM [] ps = 0 := by
  cases ps with
  | nil => rfl
  | cons p ps =>
    simp only [rankM]
    rw [if_neg]
    rw [cmpK_nil']
    split <;> omega
theorem from_ahead (M : List KV) (r : Nat) : fromM [] (r : Int) M = M.take r := by
  unfold fromM
  rw [rank_nil, List.drop_zero, Int.toNat_natCast]
theorem from_behind (M : List KV) (k : List Int) (n : Nat) (h : M.length ≤ n) : fromM k (n : Int) M = M.drop (rankM k M) := by
  unfold fromM
  rw [Int.toNat_natCast, List.take_of_length_le (by simp; omega)]
/-- The longest of k's beginnings (of fewer than i bytes) that is there. -/
def pnM (k : List Int) (M : List KV) : Nat → Int
  | 0 => -1
  | i + 1 => if isIn (k.take i) M then (i : Int) else pnM k M i
theorem pnM_spec (k : List Int) (M : List KV) : ∀ i, (pnM k M i = -1 ∧ ∀ j, j < i → isIn (k.take j) M = false) ∨ ∃ j, j < i ∧ pnM k M i = (j : Int) ∧ isIn (k.take j) M = true ∧ ∀ l, j < l → l < i → isIn (k.take l) M = false
  | 0 => .inl ⟨rfl, fun j hj => by omega⟩
  | i + 1 => by
    simp only [pnM]
    cases hi : isIn (k.take i) M with
    | true => exact .inr ⟨i, by omega, by simp, hi, fun l h1 h2 => by omega⟩
    | false =>
      rcases pnM_spec k M i with ⟨h1, h2⟩ | ⟨j, h1, h2, h3, h4⟩
      · refine .inl ⟨by simpa using h1, fun j hj => ?_⟩
        by_cases e : j = i
        · rw [e]; exact hi
        · exact h2 j (by omega)
      · refine .inr ⟨j, by omega, by simpa using h2, h3, fun l h5 h6 => ?_⟩
        by_cases e : l = i
        · rw [e]; exact hi
        · exact h4 l h5 (by omega)
theorem common_self_take (k : List Int) (j : Nat) : common k (k.take j) = (k.take j).length := by
  have := common_append (k.take j) (k.drop j) []
  rw [List.take_append_drop, List.append_nil] at this
  rw [this]
  cases k.drop j <;> simp [common]
theorem beg_key {k : List Int} {q : KV} (h : beg k q = true) : q.1 = k.take q.1.length ∧ q.1.length ≤ k.length := by
  have h1 := beg_len h
  have h2 := common_le k q.1
  exact ⟨same_key (by omega) rfl, by omega⟩
theorem long_pn {M : List KV} (hu : Ups M) (k : List Int) : (pnM k M (k.length + 1) = -1 ∧ longM k M = none) ∨ ∃ (j : Nat) (v : Int), j ≤ k.length ∧ pnM k M (k.length + 1) = (j : Int) ∧ longM k M = some (k.take j, v) := by
  rcases pnM_spec k M (k.length + 1) with ⟨h1, h2⟩ | ⟨j, h1, h2, h3, h4⟩
  · refine .inl ⟨h1, longM_none (fun i q hq => ?_)⟩
    cases hb : beg k q with
    | false => rfl
    | true =>
      exfalso
      have hk := beg_key hb
      have h5 := h2 q.1.length (by omega)
      rw [← hk.1] at h5
      have := isIn_at hu hq
      rw [h5] at this
      cases this
  · obtain ⟨v, hv⟩ := isIn_true h3
    refine .inr ⟨j, v, by omega, h2, longM_some hv ?_ (fun i q hq hb => ?_)⟩
    · unfold beg
      simp [common_self_take]
    · have hk := beg_key hb
      have hq2 := isIn_at hu hq
      have hlj : q.1.length ≤ j := by
        rcases Nat.lt_or_ge j q.1.length with h5 | h5
        · have := h4 q.1.length h5 (by omega)
          rw [← hk.1, hq2] at this
          cases this
        · exact h5
      rcases Nat.lt_or_ge (rankM (k.take j) M) i with h5 | h5
      · exfalso
        have h6 := ups_get hu hv hq h5
        have h7 : cmpK q.1 (k.take j) ≤ 0 := by
          rcases Nat.lt_or_eq_of_le hlj with h8 | h8
          · have h9 := cmpK_take (q := k.take j) (n := q.1.length) (by simp; omega)
            rw [List.take_take, Nat.min_eq_left (by omega), ← hk.1] at h9
            omega
          · rw [hk.1, h8, (cmpK_zero _ _).2 rfl]; omega
        have h8 := cmpK_swap (k.take j) q.1
        have h6' : cmpK (k.take j) q.1 < 0 := h6
        omega
      · exact h5
/-- Two lists of pairs, one behind the other. -/
theorem lst_append {B : Nat} {w : World} {a b : Option Addr} {c d : Nat} {fs hs : List Ent} (l : Lst B w (.slice a fs.length c) fs) (m : Lst B w (.slice b hs.length d) hs) (hB : B ≤ w.heap.size) (hn : fs.length + hs.length ≤ 1000000) :
    ∃ a' c' w', (Builtin.append_ #[22, 22] 22 #[.slice a fs.length c, .slice b hs.length d]).run Try.prog w = .ok (.slice a' (fs ++ hs).length c') w' ∧ Rp w' a' (fs ++ hs) ∧ Below B w w' ∧ (∀ k, k < w.heap.size → (Value.slice a fs.length c).ownBlock ≠ some k → w'.heap[k]? = w.heap[k]?) ∧ w.heap.size ≤ w'.heap.size := by
  obtain ⟨v', w', r, o, g, ho, _, _⟩ := append_pairs w 22 22 B _ fs.length _ l.row _ hs.length _ (m.rps.src Try.underlying22 d) (by omega) hB
  obtain ⟨a', c', rfl⟩ := owns_slice' o
  rw [← flat_append, ← List.length_append] at o
  rw [← List.length_append] at r
  have ok : ∀ e ∈ fs ++ hs, Ok w' e := by
    have one : ∀ e, (∃ bk, e.a = some ⟨bk, 0, none⟩ ∧ B ≤ bk ∧ Blk w bk 5 (u8s e.k) ∧ e.c = e.k.length ∧ IsBytes e.k ∧ e.k.length ≤ 1000000 ∧ 0 ≤ e.v ∧ e.v ≤ 18446744073709551615) → Ok w' e := by
      rintro e ⟨bk, h1, h2, h3, h4, h5, h6, h7⟩
      have h8 : Blk w' bk 5 (u8s e.k) := (g.block bk h3.lt (fun e9 => owns_apart l.row h3 (by decide) e9.symm)).trans h3
      exact ⟨by rw [h1]; exact blk_rd h8 h5 (by unfold maxLen; omega), h7⟩
    intro e he
    rcases List.mem_append.1 he with he | he
    · exact one e (l.own.ks e he)
    · exact one e (m.own.ks e he)
  obtain ⟨a2, c2, e2, hr⟩ := owns_rp o ok (by simp; omega)
  simp only [Value.slice.injEq] at e2
  obtain ⟨rfl, -, rfl⟩ := e2
  refine ⟨a', c', w', r, hr, (Below.refl _ w).grown g hB (fun k hk => (l.row.lt k hk).1), fun k hk hne => g.block k hk (fun e => hne e.symm), g.size⟩
end Go.Proofs.Ytahlbebkcoofkaa
