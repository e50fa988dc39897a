/- One cell, twice one cell: what is laid for them; plain: which of them are trees; awake. -/
import Derived.Test.YtnedcoomldmhhaaKt12
import Derived.Lib.SlBytesConst
namespace Go.Proofs.Ytnedcoomldmhhaa
set_option maxRecDepth 20000
open Go.RowKit Go.Sort
set_option linter.unusedVariables false
set_option linter.unusedSimpArgs false

theorem rc_lit1 (w : World) (c : Cel) (e : TypeId) (cs : Array Value) (hcs : cs = c.fields.toArray) (h : Cok w c) : Rc (w.alloc (.cells cs e (0, 0))) (some ⟨w.heap.size, 0, none⟩) [c] := by
  have b := Blk.new w e c.fields cs hcs
  refine ⟨by simp, fun x hx => ?_, .inr ⟨_, _, rfl, fun i x hx j hj => ?_⟩⟩
  · simp at hx; subst hx
    exact h.below ((Below.refl _ w).alloc (Nat.le_refl _) _) (Nat.le_refl _)
  · rcases i with _ | i
    · simp at hx; subst hx
      rw [b.cell]; simp
    · simp at hx
theorem rc_lit2 (w : World) (c : Cel) (e : TypeId) (cs : Array Value) (hcs : cs = (c.fields ++ c.fields).toArray) (h : Cok w c) : Rc (w.alloc (.cells cs e (0, 0))) (some ⟨w.heap.size, 0, none⟩) [c, c] := by
  have b := Blk.new w e (c.fields ++ c.fields) cs hcs
  refine ⟨by simp, fun x hx => ?_, .inr ⟨_, _, rfl, fun i x hx j hj => ?_⟩⟩
  · simp at hx; subst hx
    exact h.below ((Below.refl _ w).alloc (Nat.le_refl _) _) (Nat.le_refl _)
  · have hl : c.fields.length = 9 := rfl
    rcases i with _ | _ | i
    · simp at hx; subst hx
      rw [b.cell, show 0 + 0 * 9 + j = j by omega, List.getElem?_append_left (by omega)]
    · simp at hx; subst hx
      rw [b.cell, show 0 + (0 + 1) * 9 + j = 9 + j by omega, List.getElem?_append_right (by omega)]
      simp [hl]
    · simp at hx
/-- A leaf by its kind. -/
def leafC (kind : Int) (k : List Int) (v : Int) : PC :=
  if kind = 3 then ⟨3, 0, 1, 0, 0, false, v, [], []⟩ else if kind = 11 then ⟨11, 0, 1, 1, 0, false, 0, [], [(k, v)]⟩ else ⟨kind, 0, 1, 0, 0, false, v, k, []⟩
def leafTag (kind : Int) : Int := if kind = 1 then 1 else if kind = 3 then 2 else if kind = 5 then 3 else if kind = 11 then 4 else 0
theorem common_nil (k : List Int) : common k [] = 0 := by cases k <;> rfl
theorem leaf_ok (kind t : Int) (k : List Int) (v : Int) (hk : 1 ≤ kind ∧ kind ≤ 11) (ht : 1 ≤ t ∧ t ≤ 4) : cellOk t (leafC kind k v) = decide (t = leafTag kind) := by
  have h1 : kind = 1 ∨ kind = 2 ∨ kind = 3 ∨ kind = 4 ∨ kind = 5 ∨ kind = 6 ∨ kind = 7 ∨ kind = 8 ∨ kind = 9 ∨ kind = 10 ∨ kind = 11 := by omega
  have h2 : t = 1 ∨ t = 2 ∨ t = 3 ∨ t = 4 := by omega
  rcases h1 with rfl | rfl | rfl | rfl | rfl | rfl | rfl | rfl | rfl | rfl | rfl <;> rcases h2 with rfl | rfl | rfl | rfl <;> simp [cellOk, leafC, leafTag, tagOf, bareP, fitsK, ownK]
theorem look_leaf (kind t : Int) (k : List Int) (v : Int) (hk : 1 ≤ kind ∧ kind ≤ 11) (ht : 1 ≤ t ∧ t ≤ 4) (hl : k.length ≤ 60) : lookP t [leafC kind k v] = if t = leafTag kind then some [⟨-1, 0, -1, 1⟩] else none := by
  have h := leaf_ok kind t k v hk ht
  by_cases he : t = leafTag kind
  · rw [if_pos he]
    have h1 : kind = 1 ∨ kind = 3 ∨ kind = 5 ∨ kind = 11 := by unfold leafTag at he; omega
    rw [decide_eq_true he] at h
    unfold lookP
    rw [if_neg (by simp [h])]
    have hl2 : k.length ≤ 65535 := by omega
    rcases h1 with rfl | rfl | rfl | rfl
    · simp [leafTag] at he; subst he
      simp [layP, layN, stepL, firstP, pushP, cAt, leafC, belowK, countedP, cnN, cnStep, ownK, sAt, placedP, partsP, ptN, ptStep, hl2]
    · simp [leafTag] at he; subst he
      simp [layP, layN, stepL, firstP, pushP, cAt, leafC, belowK, countedP, cnN, cnStep, ownK, sAt, placedP, spellsP, spN, spStep, hl2]
    · simp [leafTag] at he; subst he
      simp [layP, layN, stepL, firstP, pushP, cAt, leafC, belowK, countedP, cnN, cnStep, ownK, sAt, placedP, branchesP, allB, goesP, hl2]
    · simp [leafTag] at he; subst he
      simp [layP, layN, stepL, firstP, pushP, cAt, leafC, belowK, countedP, cnN, cnStep, ownK, sAt, placedP, shelvesP, shelfOne, allB, goesP, hl2, holdsP, mayAll, mayOne, common_nil, risesB]
  · rw [if_neg he]
    rw [decide_eq_false he] at h
    unfold lookP
    rw [if_pos (by simp [h])]
theorem look_twice (kind t : Int) (k : List Int) (v : Int) (hk : 1 ≤ kind ∧ kind ≤ 11) (ht : 1 ≤ t ∧ t ≤ 4) : lookP t [leafC kind k v, leafC kind k v] = none := by
  have h := leaf_ok kind t k v hk ht
  by_cases he : t = leafTag kind
  · have h1 : kind = 1 ∨ kind = 3 ∨ kind = 5 ∨ kind = 11 := by unfold leafTag at he; omega
    rw [decide_eq_true he] at h
    unfold lookP
    rw [if_neg (by simp [h])]
    rcases h1 with rfl | rfl | rfl | rfl
    · simp [layP, layN, stepL, firstP, pushP, cAt, leafC, belowK]
    · simp [leafTag] at he; subst he
      simp [layP, layN, stepL, firstP, pushP, cAt, leafC, belowK, countedP, cnN, cnStep, ownK, sAt, placedP, spellsP, spN, spStep]
    · simp [layP, layN, stepL, firstP, pushP, cAt, leafC, belowK]
    · simp [layP, layN, stepL, firstP, pushP, cAt, leafC, belowK]
  · rw [decide_eq_false he] at h
    unfold lookP
    rw [if_pos (by simp [h])]
end Go.Proofs.Ytnedcoomldmhhaa
