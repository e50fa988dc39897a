/- slices.stableCmpFunc and SortStableFunc over pairs by keys. -/
import Derived.Test.YtnedcoomldmhhaaSym9
namespace Go.Proofs.Ytnedcoomldmhhaa
set_option maxRecDepth 20000
open Go.RowKit Go.Sort
set_option linter.unusedVariables false
set_option linter.unusedSimpArgs false

/-- All marks of the one lie ahead of all of the other. -/
def MK (X Y : List Tg) : Prop := ∀ x ∈ X, ∀ y ∈ Y, x.2 < y.2
theorem MK.perm {X Y X' Y' : List Tg} (h : MK X Y) (p : X'.Perm X) (q : Y'.Perm Y) : MK X' Y' := fun x hx y hy => h x (p.subset hx) y (q.subset hy)
/-- Blocks, the first ones twice as long, the last one shorter than one. -/
structure Bk (ts : List Tg) (bs : Nat) (Ds Bs : List (List Tg)) (l : List Tg) : Prop where
  fd : ∀ X ∈ Ds, X.length = 2 * bs ∧ X.Pairwise lt7
  fb : ∀ X ∈ Bs, X.length = bs ∧ X.Pairwise lt7
  ll : l.length < bs
  ls : l.Pairwise lt7
  mz : (Ds ++ (Bs ++ [l])).Pairwise MK
  pm : (Ds ++ (Bs ++ [l])).flatten.Perm ts
theorem flat_len {Ds : List (List Tg)} {n : Nat} (h : ∀ X ∈ Ds, X.length = n) : Ds.flatten.length = Ds.length * n := by
  induction Ds with
  | nil => simp
  | cons X Ds ih => simp [h X (by simp), ih (fun Y hY => h Y (by simp [hY])), Nat.add_mul]; omega
theorem pw_merge {Ds T : List (List Tg)} {X Y Z : List Tg} (m : (Ds ++ (X :: Y :: T)).Pairwise MK) (p : Z.Perm (X ++ Y)) : (Ds ++ (Z :: T)).Pairwise MK := by
  obtain ⟨m1, m2, m3⟩ := List.pairwise_append.1 m
  obtain ⟨m4, m5⟩ := List.pairwise_cons.1 m2
  obtain ⟨m6, m7⟩ := List.pairwise_cons.1 m5
  refine List.pairwise_append.2 ⟨m1, List.pairwise_cons.2 ⟨fun U hU z hz u hu => ?_, m7⟩, fun A hA U hU => ?_⟩
  · rcases List.mem_append.1 (p.subset hz) with h | h
    · exact m4 U (by simp [hU]) z h u hu
    · exact m6 U hU z h u hu
  · rcases List.mem_cons.1 hU with rfl | hU
    · intro a ha z hz
      rcases List.mem_append.1 (p.subset hz) with h | h
      · exact m3 A hA X (by simp) a ha z h
      · exact m3 A hA Y (by simp) a ha z h
    · exact m3 A hA U (by simp [hU])
theorem pw_split {Ds : List (List Tg)} {X Q Z : List Tg} (m : (Ds ++ [X ++ Q]).Pairwise MK) (h : MK X Q) (p : Z.Perm X) : (Ds ++ [Z] ++ [Q]).Pairwise MK := by
  obtain ⟨m1, m2, m3⟩ := List.pairwise_append.1 m
  rw [List.append_assoc]
  refine List.pairwise_append.2 ⟨m1, List.pairwise_cons.2 ⟨fun U hU => ?_, List.pairwise_singleton _ _⟩, fun A hA U hU => ?_⟩
  · simp at hU; subst hU; exact h.perm p (List.Perm.refl _)
  · intro a ha u hu
    simp at hU
    rcases hU with rfl | rfl
    · exact m3 A hA (X ++ Q) (by simp) a ha u (by simp [p.subset hu])
    · exact m3 A hA (X ++ U) (by simp) a ha u (by simp [hu])
theorem pw_perm {Ds : List (List Tg)} {Q Z : List Tg} (m : (Ds ++ [Q]).Pairwise MK) (p : Z.Perm Q) : (Ds ++ [Z]).Pairwise MK := by
  obtain ⟨m1, m2, m3⟩ := List.pairwise_append.1 m
  refine List.pairwise_append.2 ⟨m1, List.pairwise_singleton _ _, fun A hA U hU => ?_⟩
  simp at hU; subst hU
  exact (m3 A hA Q (by simp)).perm (List.Perm.refl _) p
/-- Two blocks are merged. -/
theorem Bk.merge {ts : List Tg} {bs : Nat} {Ds Bs : List (List Tg)} {l X Y Z : List Tg} (h : Bk ts bs Ds (X :: Y :: Bs) l) (p : Z.Perm (X ++ Y)) (s : Z.Pairwise lt7) : Bk ts bs (Ds ++ [Z]) Bs l := by
  have hX := h.fb X (by simp)
  have hY := h.fb Y (by simp)
  refine ⟨fun U hU => ?_, fun U hU => h.fb U (by simp [hU]), h.ll, h.ls, ?_, ?_⟩
  · rcases List.mem_append.1 hU with hU | hU
    · exact h.fd U hU
    · simp at hU; subst hU
      exact ⟨by rw [p.length_eq]; simp; omega, s⟩
  · have m := pw_merge (T := Bs ++ [l]) (by simpa using h.mz) p
    simpa using m
  · refine List.Perm.trans ?_ h.pm
    simp only [List.flatten_append, List.flatten_cons, List.append_assoc, List.cons_append, List.nil_append, List.flatten_nil, List.append_nil]
    refine List.Perm.append_left _ ?_
    rw [← List.append_assoc X]
    exact List.Perm.append_right _ p
/-- The round ends. -/
theorem Bk.last0 {ts : List Tg} {bs : Nat} {Ds : List (List Tg)} {l : List Tg} (h : Bk ts bs Ds [] l) : Bk ts (2 * bs) [] Ds l :=
  ⟨by simp, h.fd, by have := h.ll; omega, h.ls, by simpa using h.mz, by simpa using h.pm⟩
theorem Bk.last1 {ts : List Tg} {bs : Nat} {Ds : List (List Tg)} {l X Z : List Tg} (h : Bk ts bs Ds [X] l) (p : Z.Perm (X ++ l)) (s : Z.Pairwise lt7) : Bk ts (2 * bs) [] Ds Z := by
  have hX := h.fb X (by simp)
  refine ⟨by simp, h.fd, by rw [p.length_eq]; simp; have := h.ll; omega, s, ?_, ?_⟩
  · have m := pw_merge (T := []) (by simpa using h.mz) p
    simpa using m
  · refine List.Perm.trans ?_ h.pm
    simp only [List.flatten_append, List.flatten_cons, List.append_assoc, List.cons_append, List.nil_append, List.flatten_nil, List.append_nil]
    exact List.Perm.append_left _ p
/-- Sorted blocks, and what is not yet sorted. -/
structure Ba (ts : List Tg) (bs : Nat) (Bs : List (List Tg)) (Q : List Tg) : Prop where
  fb : ∀ X ∈ Bs, X.length = bs ∧ X.Pairwise lt7
  mq : Q.Pairwise (fun x y => x.2 < y.2)
  mz : (Bs ++ [Q]).Pairwise MK
  pm : (Bs ++ [Q]).flatten.Perm ts
theorem Ba.start {ts : List Tg} (h : ts.Pairwise (fun x y => x.2 < y.2)) (bs : Nat) : Ba ts bs [] ts := ⟨by simp, h, by simp, by simp⟩
theorem Ba.step {ts : List Tg} {bs : Nat} {Bs : List (List Tg)} {X Q Z : List Tg} (h : Ba ts bs Bs (X ++ Q)) (hX : X.length = bs) (p : Z.Perm X) (s : Z.Pairwise lt7) : Ba ts bs (Bs ++ [Z]) Q := by
  have q := List.pairwise_append.1 h.mq
  refine ⟨fun U hU => ?_, q.2.1, ?_, ?_⟩
  · rcases List.mem_append.1 hU with hU | hU
    · exact h.fb U hU
    · simp at hU; subst hU; exact ⟨by rw [p.length_eq]; exact hX, s⟩
  · exact pw_split h.mz q.2.2 p
  · refine List.Perm.trans ?_ h.pm
    simp only [List.flatten_append, List.flatten_cons, List.append_assoc, List.cons_append, List.nil_append, List.flatten_nil, List.append_nil]
    exact List.Perm.append_left _ (List.Perm.append_right _ p)
theorem Ba.done {ts : List Tg} {bs : Nat} {Bs : List (List Tg)} {Q Z : List Tg} (h : Ba ts bs Bs Q) (hQ : Q.length < bs) (p : Z.Perm Q) (s : Z.Pairwise lt7) : Bk ts bs [] Bs Z := by
  refine ⟨by simp, h.fb, by rw [p.length_eq]; exact hQ, s, ?_, ?_⟩
  · simpa using pw_perm h.mz p
  · refine List.Perm.trans ?_ h.pm
    simp only [List.flatten_append, List.flatten_cons, List.append_assoc, List.cons_append, List.nil_append, List.flatten_nil, List.append_nil]
    exact List.Perm.append_left _ p
/-- One block is left. -/
theorem Bk.all {ts : List Tg} {bs : Nat} {Bs : List (List Tg)} {l : List Tg} (h : Bk ts bs [] Bs l) (hb : 0 < bs) (hn : ts.length ≤ bs) : (Bs.flatten ++ l).Perm ts ∧ (Bs.flatten ++ l).Pairwise lt7 := by
  have p : (Bs.flatten ++ l).Perm ts := by simpa using h.pm
  refine ⟨p, ?_⟩
  have e := p.length_eq
  rw [List.length_append, flat_len (fun X hX => (h.fb X hX).1)] at e
  cases Bs with
  | nil => simpa using h.ls
  | cons X Bs =>
    cases Bs with
    | nil =>
      have : l = [] := List.eq_nil_of_length_eq_zero (by simp at e; omega)
      subst this
      simpa using (h.fb X (by simp)).2
    | cons Y Bs =>
      exfalso
      simp [Nat.add_mul] at e
      omega

end Go.Proofs.Ytnedcoomldmhhaa
