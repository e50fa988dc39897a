/- Plain: how cells are laid out, step by step. -/
import Derived.Test.YtnedcoomldmhhaaCl12
namespace Go.Proofs.Ytnedcoomldmhhaa
set_option maxRecDepth 20000
open Go.RowKit Go.Sort
set_option linter.unusedVariables false
set_option linter.unusedSimpArgs false

theorem flatG {α β : Type} (f : α → List β) (k : Nat) : ∀ (l : List α), (∀ a ∈ l, (f a).length = k) → ∀ i j, j < k → (l.flatMap f)[i * k + j]? = (l[i]?).bind (fun a => (f a)[j]?)
  | [], _, i, j, _ => by simp
  | a :: l, h, 0, j, hj => by
    have := h a (by simp)
    rw [List.flatMap_cons, List.getElem?_append_left (by omega)]
    simp
  | a :: l, h, i + 1, j, hj => by
    have h1 := h a (by simp)
    have e : (i + 1) * k + j = (f a).length + (i * k + j) := by rw [h1, Nat.add_mul, Nat.one_mul]; omega
    rw [List.flatMap_cons, e, List.getElem?_append_right (by omega), Nat.add_sub_cancel_left]
    simpa using flatG f k l (fun b hb => h b (by simp [hb])) i j hj
theorem flatL {α β : Type} (f : α → List β) (k : Nat) : ∀ (l : List α), (∀ a ∈ l, (f a).length = k) → (l.flatMap f).length = l.length * k
  | [], _ => by simp
  | a :: l, h => by
    rw [List.flatMap_cons, List.length_append, h a (by simp), flatL f k l (fun b hb => h b (by simp [hb])), List.length_cons, Nat.add_mul]; omega

structure Sp where
  over : Int
  nth : Int
  before : Int
  deep : Int
def Sp.vals (s : Sp) : List Value := [.int .i64 s.over, .int .i64 s.nth, .int .i64 s.before, .int .i64 s.deep]
def sp0 : Sp := ⟨0, 0, 0, 0⟩
def pc0 : PC := ⟨0, 0, 0, 0, 0, false, 0, [], []⟩
def cAt (cs : List PC) (i : Nat) : PC := cs.getD i pc0
def sAt (ss : List Sp) (i : Nat) : Sp := ss.getD i sp0
theorem Sp.vals_length (s : Sp) : s.vals.length = 4 := rfl

/-- Four stores at a spot's place. -/
theorem set4 (ss : List Sp) (i : Nat) (s : Sp) (h : i < ss.length) :
    ((((ss.flatMap Sp.vals).set (i * 4) (.int .i64 s.over)).set (i * 4 + 1) (.int .i64 s.nth)).set (i * 4 + 2) (.int .i64 s.before)).set (i * 4 + 3) (.int .i64 s.deep) = (ss.set i s).flatMap Sp.vals := by
  have l4 : ∀ ss : List Sp, (ss.flatMap Sp.vals).length = ss.length * 4 := fun ss => flatL Sp.vals 4 ss (fun a _ => rfl)
  refine List.ext_getElem? fun p => ?_
  have e : p = p / 4 * 4 + p % 4 := by omega
  have hm : p % 4 < 4 := by omega
  generalize hq : p / 4 = q at *
  generalize hr : p % 4 = r at *
  subst e
  rw [flatG Sp.vals 4 _ (fun a _ => rfl) q r hm]
  simp only [List.getElem?_set, List.length_set, l4]
  by_cases hqi : i = q
  · subst hqi
    rw [flatG Sp.vals 4 _ (fun a _ => rfl) i r hm]
    have hr4 : r = 0 ∨ r = 1 ∨ r = 2 ∨ r = 3 := by omega
    rcases hr4 with rfl | rfl | rfl | rfl
    · first | (simp [Sp.vals, h]; done) | (simp [Sp.vals, h]; omega)
    · first | (simp [Sp.vals, h]; done) | (simp [Sp.vals, h]; omega)
    · first | (simp [Sp.vals, h]; done) | (simp [Sp.vals, h]; omega)
    · first | (simp [Sp.vals, h]; done) | (simp [Sp.vals, h]; omega)
  · rw [flatG Sp.vals 4 _ (fun a _ => rfl) q r hm]
    rw [if_neg (by omega), if_neg (by omega), if_neg (by omega), if_neg (by omega)]
    simp [hqi]

def underP (ss : List Sp) (o : Nat) (b : Int) : Sp := ⟨o, if b = -1 then 0 else (sAt ss b.toNat).nth + 1, b, (sAt ss o).deep + 1⟩
def firstP (cs : List PC) (i : Nat) : Bool := i = 0 ∨ (i = 1 ∧ (cAt cs 0).kind = 3)
structure LS where
  spots : List Sp
  op : List Nat
  last : Nat → Int
def pushP (cs : List PC) (i : Nat) (op : List Nat) : List Nat := if 0 < belowK (cAt cs i) then i :: op else op
def stepL (cs : List PC) (s : LS) (i : Nat) : Option LS :=
  match s.op with
  | o :: rest => some ⟨s.spots ++ [underP s.spots o (s.last o)], pushP cs i (if (underP s.spots o (s.last o)).nth + 1 = belowK (cAt cs o) then rest else o :: rest), fun j => if j = o then i else if j = i then -1 else s.last j⟩
  | [] => if firstP cs i then some ⟨s.spots ++ [⟨-1, 0, -1, 1⟩], pushP cs i [], fun j => if j = i then -1 else s.last j⟩ else none
def layN (cs : List PC) : Nat → Option LS
  | 0 => some ⟨[], [], fun _ => 0⟩
  | k + 1 => (layN cs k).bind fun s => stepL cs s k

/-- What holds of what is laid out so far. -/
structure LInv (cs : List PC) (k : Nat) (s : LS) : Prop where
  len : s.spots.length = k
  op : ∀ o ∈ s.op, o < k ∧ 0 < belowK (cAt cs o)
  last : ∀ o, o < k → s.last o = -1 ∨ (o < s.last o ∧ s.last o < k)
  spot : ∀ j, j < k → (0 ≤ (sAt s.spots j).nth ∧ (sAt s.spots j).nth ≤ j) ∧ (1 ≤ (sAt s.spots j).deep ∧ (sAt s.spots j).deep ≤ j + 1) ∧
    ((sAt s.spots j).over = -1 ∧ firstP cs j = true ∨ (0 ≤ (sAt s.spots j).over ∧ (sAt s.spots j).over < j ∧ 0 < belowK (cAt cs (sAt s.spots j).over.toNat))) ∧ ((sAt s.spots j).before = -1 ∨ ((sAt s.spots j).over < (sAt s.spots j).before ∧ (sAt s.spots j).before < j))
  oplen : s.op.length ≤ k
theorem sAt_app (ss : List Sp) (s : Sp) (j : Nat) : sAt (ss ++ [s]) j = if j < ss.length then sAt ss j else if j = ss.length then s else sp0 := by
  unfold sAt
  simp only [List.getD_eq_getElem?_getD]
  by_cases h : j < ss.length
  · rw [if_pos h, List.getElem?_append_left h]
  · rw [if_neg h, List.getElem?_append_right (by omega)]
    by_cases h2 : j = ss.length
    · simp [h2]
    · rw [if_neg h2, List.getElem?_eq_none (by simp; omega)]; rfl
theorem pushP_mem {cs : List PC} {i : Nat} {op : List Nat} {o : Nat} (h : o ∈ pushP cs i op) : (o = i ∧ 0 < belowK (cAt cs i)) ∨ o ∈ op := by
  unfold pushP at h
  split at h
  · rcases List.mem_cons.1 h with h | h
    · exact .inl ⟨h, by assumption⟩
    · exact .inr h
  · exact .inr h
theorem pushP_len (cs : List PC) (i : Nat) (op : List Nat) : (pushP cs i op).length ≤ op.length + 1 := by unfold pushP; split <;> simp
theorem LInv.zero (cs : List PC) : LInv cs 0 ⟨[], [], fun _ => 0⟩ := ⟨rfl, by simp, fun o h => by omega, fun j h => by omega, Nat.le_refl _⟩
theorem LInv.step {cs : List PC} {k : Nat} {s t : LS} (h : LInv cs k s) (hs : stepL cs s k = some t) : LInv cs (k + 1) t := by
  unfold stepL at hs
  split at hs
  · rename_i o rest ho
    cases hs
    have ho1 := h.op o (by simp [ho])
    have hol := h.last o ho1.1
    have hso := h.spot o ho1.1
    refine ⟨by simp [h.len], fun p hp => ?_, fun p hp => ?_, fun j hj => ?_, ?_⟩
    · rcases pushP_mem hp with ⟨rfl, hp⟩ | hp
      · exact ⟨by omega, hp⟩
      · have : p ∈ s.op := by
          rw [ho]
          split at hp
          · exact List.mem_cons_of_mem _ hp
          · exact hp
        have := h.op p this
        exact ⟨by omega, this.2⟩
    · show (if p = o then (k : Int) else if p = k then -1 else s.last p) = -1 ∨ _ < (if p = o then (k : Int) else if p = k then -1 else s.last p) ∧ (if p = o then (k : Int) else if p = k then -1 else s.last p) < _
      by_cases hpo : p = o
      · rw [if_pos hpo]; omega
      · rw [if_neg hpo]
        by_cases hpk : p = k
        · rw [if_pos hpk]; omega
        · rw [if_neg hpk]
          have := h.last p (by omega)
          omega
    · simp only [sAt_app, h.len]
      by_cases hjk : j < k
      · rw [if_pos hjk]; exact h.spot j hjk
      · rw [if_neg hjk, if_pos (by omega)]
        simp only [underP]
        refine ⟨?_, by omega, .inr ⟨by omega, by omega, ?_⟩, ?_⟩
        · split
          · omega
          · rename_i hne
            have hb : (s.last o).toNat < k := by omega
            have := (h.spot _ hb).1
            omega
        · simpa using ho1.2
        · omega
    · have := pushP_len cs k (if (underP s.spots o (s.last o)).nth + 1 = belowK (cAt cs o) then rest else o :: rest)
      have hl := h.oplen
      rw [ho] at hl
      have : (if (underP s.spots o (s.last o)).nth + 1 = belowK (cAt cs o) then rest else o :: rest).length ≤ k := by
        split
        · simp at hl; omega
        · exact hl
      show (pushP cs k _).length ≤ _
      omega
  · rename_i ho
    split at hs
    · rename_i hf
      cases hs
      refine ⟨by simp [h.len], fun p hp => ?_, fun p hp => ?_, fun j hj => ?_, ?_⟩
      · rcases pushP_mem hp with ⟨rfl, hp⟩ | hp
        · exact ⟨by omega, hp⟩
        · simp at hp
      · show (if p = k then -1 else s.last p) = -1 ∨ _ < (if p = k then -1 else s.last p) ∧ (if p = k then -1 else s.last p) < _
        by_cases hpk : p = k
        · rw [if_pos hpk]; omega
        · rw [if_neg hpk]
          have := h.last p (by omega)
          omega
      · simp only [sAt_app, h.len]
        by_cases hjk : j < k
        · rw [if_pos hjk]; exact h.spot j hjk
        · rw [if_neg hjk, if_pos (by omega)]
          have : j = k := by omega
          subst this
          refine ⟨by simp, by simp; omega, .inl ⟨rfl, hf⟩, .inl rfl⟩
      · have := pushP_len cs k []
        simp at this
        show (pushP cs k _).length ≤ _
        omega
    · cases hs
theorem LInv.of {cs : List PC} : ∀ {k : Nat} {s : LS}, layN cs k = some s → LInv cs k s
  | 0, s, h => by
    simp only [layN, Option.some.injEq] at h
    subst h
    exact .zero cs
  | k + 1, s, h => by
    simp only [layN] at h
    cases h1 : layN cs k with
    | none => rw [h1] at h; simp at h
    | some t =>
      rw [h1] at h
      exact (LInv.of h1).step h
/-- All of it: just those of a tree, or none. -/
def layP (cs : List PC) : Option (List Sp) := (layN cs cs.length).bind fun s => if s.op = [] then some s.spots else none
end Go.Proofs.Ytnedcoomldmhhaa
