/- Plain: what is laid out hangs together. -/
import Derived.Test.YtnedcoomldmhhaaTr12
namespace Go.Proofs.Ytnedcoomldmhhaa
set_option maxRecDepth 20000
open Go.RowKit Go.Sort
set_option linter.unusedVariables false
set_option linter.unusedSimpArgs false

structure LInv3 (cs : List PC) (k : Nat) (s : LS) : Prop where
  last : ∀ o, o < k → s.last o = -1 ∨ (sAt s.spots (s.last o).toNat).over = o
  before : ∀ j, j < k → (sAt s.spots j).before = -1 ∨ (0 ≤ (sAt s.spots j).over ∧ (sAt s.spots (sAt s.spots j).before.toNat).over = (sAt s.spots j).over)
theorem LInv3.step {cs : List PC} {k : Nat} {s t : LS} (h : LInv cs k s) (g : LInv3 cs k s) (hs : stepL cs s k = some t) : LInv3 cs (k + 1) t := by
  unfold stepL at hs
  split at hs
  · rename_i o rest ho
    cases hs
    have ho1 := h.op o (by simp [ho])
    have hol := h.last o ho1.1
    refine ⟨fun p hp => ?_, fun j hj => ?_⟩
    · show (if p = o then (k : Int) else if p = k then -1 else s.last p) = -1 ∨ (sAt _ (if p = o then (k : Int) else if p = k then -1 else s.last p).toNat).over = _
      by_cases hpo : p = o
      · rw [if_pos hpo]
        right
        rw [Int.toNat_natCast, sAt_app, h.len, if_neg (by omega), if_pos rfl]
        simp [underP, hpo]
      · rw [if_neg hpo]
        by_cases hpk : p = k
        · rw [if_pos hpk]; exact .inl rfl
        · rw [if_neg hpk]
          rcases g.last p (by omega) with g1 | g1
          · exact .inl g1
          · right
            have := h.last p (by omega)
            by_cases h9 : s.last p = -1
            · rw [h9] at g1 ⊢
              rw [sAt_app, h.len]
              have hk0 : (-1 : Int).toNat < k := by
                have : (-1 : Int).toNat = 0 := rfl
                omega
              rw [if_pos hk0]; exact g1
            · rw [sAt_app, h.len, if_pos (by omega)]; exact g1
    · simp only [sAt_app, h.len]
      by_cases hjk : j < k
      · rw [if_pos hjk]
        rcases g.before j hjk with g1 | ⟨g0, g1⟩
        · exact .inl g1
        · right
          have hb := (h.spot j hjk).2.2.2
          refine ⟨g0, ?_⟩
          by_cases h9 : (sAt s.spots j).before = -1
          · rw [h9] at g1 ⊢
            have hk0 : (-1 : Int).toNat < k := by
              have : (-1 : Int).toNat = 0 := rfl
              omega
            rw [if_pos hk0]; exact g1
          · rw [if_pos (by omega)]; exact g1
      · rw [if_neg hjk, if_pos (by omega)]
        simp only [underP]
        rcases g.last o ho1.1 with g1 | g1
        · exact .inl g1
        · by_cases h9 : s.last o = -1
          · exact .inl h9
          · right
            have hlt : (s.last o).toNat < k := by omega
            refine ⟨by omega, ?_⟩
            simp only [hlt, ↓reduceIte]
            exact g1
  · rename_i ho
    split at hs
    · cases hs
      refine ⟨fun p hp => ?_, fun j hj => ?_⟩
      · show (if p = k then -1 else s.last p) = -1 ∨ (sAt _ (if p = k then -1 else s.last p).toNat).over = _
        by_cases hpk : p = k
        · rw [if_pos hpk]; exact .inl rfl
        · rw [if_neg hpk]
          by_cases h9 : s.last p = -1
          · exact .inl h9
          · right
            have := h.last p (by omega)
            rw [sAt_app, h.len, if_pos (by omega)]
            exact (g.last p (by omega)).resolve_left h9
      · simp only [sAt_app, h.len]
        by_cases hjk : j < k
        · rw [if_pos hjk]
          by_cases h9 : (sAt s.spots j).before = -1
          · exact .inl h9
          · right
            have hb := (h.spot j hjk).2.2.2
            obtain ⟨g0, g1⟩ := (g.before j hjk).resolve_left h9
            rw [if_pos (by omega)]
            exact ⟨g0, g1⟩
        · rw [if_neg hjk, if_pos (by omega)]
          exact .inl rfl
    · cases hs
theorem LInv3.of {cs : List PC} : ∀ {k : Nat} {s : LS}, layN cs k = some s → LInv3 cs k s
  | 0, s, h => by
    simp only [layN, Option.some.injEq] at h
    subst h
    exact ⟨fun o h => by omega, fun j h => by omega⟩
  | k + 1, s, h => by
    simp only [layN] at h
    cases h1 : layN cs k with
    | none => rw [h1] at h; simp at h
    | some t =>
      rw [h1] at h
      exact LInv3.step (LInv.of h1) (LInv3.of h1) h
theorem Lok.of {cs : List PC} {ss : List Sp} (h : layP cs = some ss) : Lok cs ss ∧ ss.length = cs.length := by
  unfold layP at h
  cases h1 : layN cs cs.length with
  | none => rw [h1] at h; simp at h
  | some s =>
    rw [h1] at h
    simp only [Option.bind_some] at h
    split at h
    · simp at h
      subst h
      have i1 := LInv.of h1
      have i3 := LInv3.of h1
      refine ⟨⟨fun j hj => (i1.spot j hj).2.2.1, fun j hj => ?_, fun j hj => (i1.spot j hj).1, fun j hj => (i1.spot j hj).2.1⟩, i1.len⟩
      have h4 := (i1.spot j hj).2.2.2
      rcases i3.before j hj with g | ⟨g0, g1⟩
      · exact .inl g
      · by_cases h9 : (sAt s.spots j).before = -1
        · exact .inl h9
        · exact .inr ⟨g0, by omega, by omega, g1⟩
    · simp at h
end Go.Proofs.Ytnedcoomldmhhaa
