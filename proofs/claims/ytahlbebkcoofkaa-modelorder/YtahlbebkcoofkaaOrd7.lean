/- ModelOrder, plainly: floors, ceilings and ranks of what is there; the list in pieces. -/
import Derived.Test.YtahlbebkcoofkaaBeg7
namespace Go.Proofs.Ytahlbebkcoofkaa
set_option maxRecDepth 20000
open Go.Sort
set_option linter.unusedVariables false

theorem sel_at {M : List KV} {i : Nat} {p : KV} (h : M[i]? = some p) : selM (i : Int) M = some p := by
  unfold selM
  rw [if_neg (by omega)]
  simpa using h
theorem floor_at {M : List KV} (hu : Ups M) {i : Nat} {p : KV} (h : M[i]? = some p) : floorM p.1 M = some p := by
  unfold floorM
  rw [isIn_at hu h, if_pos rfl, rank_at hu h]
  exact sel_at h
theorem ceil_at {M : List KV} (hu : Ups M) {i : Nat} {p : KV} (h : M[i]? = some p) : ceilM p.1 M = some p := by
  unfold ceilM
  rw [rank_at hu h]
  exact sel_at h
theorem cmp_snoc : ∀ k : List Int, cmpK k (k ++ [0]) < 0
  | [] => by rw [List.nil_append, cmpK_nil]; simp
  | x :: k => by rw [List.cons_append, cmpK_cons, if_pos rfl]; exact cmp_snoc k
theorem snoc_le : ∀ k q : List Int, IsBytes q → cmpK k q < 0 → cmpK (k ++ [0]) q ≤ 0
  | [], [], _, h => by simp [cmpK_nil] at h
  | [], y :: q, hq, _ => by
    have hy := hq y (by simp)
    rw [List.nil_append, cmpK_cons]
    by_cases h : (0 : Int) = y
    · rw [if_pos h, cmpK_nil]; split <;> omega
    · rw [if_neg h, if_pos (by omega)]; omega
  | x :: k, [], _, h => by rw [cmpK_nil'] at h; simp at h
  | x :: k, y :: q, hq, h => by
    rw [cmpK_cons] at h
    rw [List.cons_append, cmpK_cons]
    by_cases hxy : x = y
    · rw [if_pos hxy] at h ⊢
      exact snoc_le k q (fun z hz => hq z (by simp [hz])) h
    · rw [if_neg hxy] at h ⊢
      split at h
      · rename_i hlt; rw [if_pos hlt]; omega
      · omega
/-- Right behind a key that is there. -/
theorem rank_snoc {M : List KV} (hu : Ups M) (hb : ∀ p ∈ M, IsBytes p.1) {i : Nat} {p : KV} (h : M[i]? = some p) : rankM (p.1 ++ [0]) M = i + 1 := by
  have hi := (List.getElem?_eq_some_iff.1 h).1
  refine rank_of _ _ _ (by omega) (fun j q hq hj => ?_) (fun q hq => ?_)
  · by_cases e : j = i
    · subst e; rw [h] at hq; cases hq; exact cmp_snoc _
    · have h1 := ups_get hu hq h (by omega)
      have h2 := cmp_snoc p.1
      exact cmpK_le_lt h1 (by omega)
  · have h1 := ups_get hu h hq (by omega)
    have h2 := snoc_le p.1 q.1 (hb q (List.mem_of_getElem? hq)) h1
    have h3 := cmpK_swap (p.1 ++ [0]) q.1
    omega
/-- A piece more. -/
theorem from_piece (M : List KV) (k : List Int) (c m : Nat) (hr : rankM k M = c) : fromM k (m : Int) M = (M.drop c).take m := by
  unfold fromM; rw [hr]; simp
theorem piece_more (M : List KV) (c m : Nat) : M.take c ++ (M.drop c).take m = M.take (c + m) := by
  rw [List.take_add]
theorem drop_front {M : List KV} (hu : Ups M) {i : Nat} {p : KV} (hp : M[i]? = some p) : isIn p.1 (M.drop i) = true ∧ valO (findM p.1 (M.drop i)) = p.2 ∧ dropM p.1 (M.drop i) = M.drop (i + 1) := by
  have hi := (List.getElem?_eq_some_iff.1 hp).1
  have hud : Ups (M.drop i) := List.Pairwise.sublist (List.drop_sublist i M) hu
  have h0 : (M.drop i)[0]? = some p := by simpa using hp
  have hr := rank_at hud h0
  have hin := isIn_at hud h0
  refine ⟨hin, ?_, ?_⟩
  · unfold findM; rw [hin, hr, if_pos rfl, h0]; rfl
  · unfold dropM; rw [hin, hr, if_pos rfl]; simp [List.drop_drop]
end Go.Proofs.Ytahlbebkcoofkaa
