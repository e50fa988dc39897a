/- slices.stableCmpFunc and SortStableFunc over pairs by keys. -/
import Derived.Test.YtahlbebkcoofkaaSym9
namespace Go.Proofs.Ytahlbebkcoofkaa
set_option maxRecDepth 20000
open Go.RowKit Go.Sort
set_option linter.unusedVariables false
set_option linter.unusedSimpArgs false

/-- All marks of the one lie ahead of all of the other. -/
def MK (X Y : List Tg) : Prop := ∀ x ∈ X, ∀ y ∈ Y, x.2 < y.2
theorem MK.perm {X Y X' Y' : List Tg} (h : MK X Y) (p : X'.Perm X) (q : Y'.Perm Y) : MK X' Y' := fun x hx y hy => h x (p.subset hx) y (q.subset hy)
/-- Blocks, the first ones twice as long, the last one shorter than one. -/
structure Bk (ts : List Tg) (bs : Nat) (Ds Bs : List (List Tg)) (l : List Tg) : Prop where
  fd : ∀ X ∈ Ds, X.length = 2 * bs ∧ X.Pairwise lt7
  fb : ∀ X ∈ Bs, X.length = bs ∧ X.Pairwise lt7
  ll : l.length < bs
  ls : l.Pairwise lt7
  mz : (Ds ++ (Bs ++ [l])).Pairwise MK
  pm : (Ds ++ (Bs ++ [l])).flatten.Perm ts
theorem flat_len {Ds : List (List Tg)} {n : Nat} (h : ∀ X ∈ Ds, X.length = n) : Ds.flatten.length = Ds.length * n := by
  induction Ds with
  | nil => simp
  | cons X Ds ih => simp [h X (by simp), ih (fun Y hY => h Y (by simp [hY])), Nat.add_mul]; omega
theorem pw_merge {Ds T : List (List Tg)} {X Y Z : List Tg} (m : (Ds ++ (X :: Y :: T)).Pairwise MK) (p : Z.Perm (X ++ Y)) : (Ds ++ (Z :: T)).Pairwise MK := by
  obtain ⟨m1, m2, m3⟩ := List.pairwise_append.1 m
  obtain ⟨m4, m5⟩ := List.pairwise_cons.1 m2
  obtain ⟨m6, m7⟩ := List.pairwise_cons.1 m5
  refine List.pairwise_append.2 ⟨m1, List.pairwise_cons.2 ⟨fun U hU z hz u hu => ?_, m7⟩, fun A hA U hU => ?_⟩
  · rcases List.mem_append.1 (p.subset hz) with h | h
    · exact m4 U (by simp [hU]) z h u hu
    · exact m6 U hU z h u hu
  · rcases List.mem_cons.1 hU with rfl | hU
    · intro a ha z hz
      rcases List.mem_append.1 (p.subset hz) with h | h
      · exact m3 A hA X (by simp) a ha z h
      · exact m3 A hA Y (by simp) a ha z h
    · exact m3 A hA U (by simp [hU])
theorem pw_split {Ds : List (List Tg)} {X Q Z : List Tg} (m : (Ds ++ [X ++ Q]).Pairwise MK) (h : MK X Q) (p : Z.Perm X) : (Ds ++ [Z] ++ [Q]).Pairwise MK := by
  obtain ⟨m1, m2, m3⟩ := List.pairwise_append.1 m
  rw [List.append_assoc]
  refine List.pairwise_append.2 ⟨m1, List.pairwise_cons.2 ⟨fun U hU => ?_, List.pairwise_singleton _ _⟩, fun A hA U hU => ?_⟩
  · simp at hU; subst hU; exact h.perm p (List.Perm.refl _)
  · intro a ha u hu
    simp at hU
    rcases hU with rfl | rfl
    · exact m3 A hA (X ++ Q) (by simp) a ha u (by simp [p.subset hu])
    · exact m3 A hA (X ++ U) (by simp) a ha u (by simp [hu])
theorem pw_perm {Ds : List (List Tg)} {Q Z : List Tg} (m : (Ds ++ [Q]).Pairwise MK) (p : Z.Perm Q) : (Ds ++ [Z]).Pairwise MK := by
  obtain ⟨m1, m2, m3⟩ := List.pairwise_append.1 m
  refine List.pairwise_append.2 ⟨m1, List.pairwise_singleton _ _, fun A hA U hU => ?_⟩
  simp at hU; subst hU
  exact (m3 A hA Q (by simp)).perm (List.Perm.refl _) p
/-- Two blocks are merged. -/
theorem Bk.merge {ts : List Tg} {bs : Nat} {Ds Bs : List (List Tg)} {l X Y Z : List Tg} (h : Bk ts bs Ds (X :: Y :: Bs) l) (p : Z.Perm (X ++ Y)) (s : Z.Pairwise lt7) : Bk ts bs (Ds ++ [Z]) Bs l := by
  have hX := h.fb X (by simp)
  have hY := h.fb Y (by simp)
  refine ⟨fun U hU => ?_, fun U hU => h.fb U (by simp [hU]), h.ll, h.ls, ?_, ?_⟩
  · rcases List.mem_append.1 hU with hU | hU
    · exact h.fd U hU
    · simp at hU; subst hU
      exact ⟨by rw [p.length_eq]; simp; omega, s⟩
  · have m := pw_merge (T := Bs ++ [l]) (by simpa using h.mz) p
    simpa using m
  · refine List.Perm.trans ?_ h.pm
    simp only [List.flatten_append, List.flatten_cons, List.append_assoc, List.cons_append, List.nil_append, List.flatten_nil, List.append_nil]
    refine List.Perm.append_left _ ?_
    rw [← List.append_assoc X]
    exact List.Perm.append_right _ p
/-- The round ends. -/
theorem Bk.last0 {ts : List Tg} {bs : Nat} {Ds : List (List Tg)} {l : List Tg} (h : Bk ts bs Ds [] l) : Bk ts (2 * bs) [] Ds l :=
  ⟨by simp, h.fd, by have := h.ll; omega, h.ls, by simpa using h.mz, by simpa using h.pm⟩
theorem Bk.last1 {ts : List Tg} {bs : Nat} {Ds : List (List Tg)} {l X Z : List Tg} (h : Bk ts bs Ds [X] l) (p : Z.Perm (X ++ l)) (s : Z.Pairwise lt7) : Bk ts (2 * bs) [] Ds Z := by
  have hX := h.fb X (by simp)
  refine ⟨by simp, h.fd, by rw [p.length_eq]; simp; have := h.ll; omega, s, ?_, ?_⟩
  · have m := pw_merge (T := []) (by simpa using h.mz) p
    simpa using m
  · refine List.Perm.trans ?_ h.pm
    simp only [List.flatten_append, List.flatten_cons, List.append_assoc, List.cons_append, List.nil_append, List.flatten_nil, List.append_nil]
    exact List.Perm.append_left _ p
/-- Sorted blocks, and what is not yet sorted. -/
structure Ba (ts : List Tg) (bs : Nat) (Bs : List (List Tg)) (Q : List Tg) : Prop where
  fb : ∀ X ∈ Bs, X.length = bs ∧ X.Pairwise lt7
  mq : Q.Pairwise (fun x y => x.2 < y.2)
  mz : (Bs ++ [Q]).Pairwise MK
  pm : (Bs ++ [Q]).flatten.Perm ts
theorem Ba.start {ts : List Tg} (h : ts.Pairwise (fun x y => x.2 < y.2)) (bs : Nat) : Ba ts bs [] ts := ⟨by simp, h, by simp, by simp⟩
theorem Ba.step {ts : List Tg} {bs : Nat} {Bs : List (List Tg)} {X Q Z : List Tg} (h : Ba ts bs Bs (X ++ Q)) (hX : X.length = bs) (p : Z.Perm X) (s : Z.Pairwise lt7) : Ba ts bs (Bs ++ [Z]) Q := by
  have q := List.pairwise_append.1 h.mq
  refine ⟨fun U hU => ?_, q.2.1, ?_, ?_⟩
  · rcases List.mem_append.1 hU with hU | hU
    · exact h.fb U hU
    · simp at hU; subst hU; exact ⟨by rw [p.length_eq]; exact hX, s⟩
  · exact pw_split h.mz q.2.2 p
  · refine List.Perm.trans ?_ h.pm
    simp only [List.flatten_append, List.flatten_cons, List.append_assoc, List.cons_append, List.nil_append, List.flatten_nil, List.append_nil]
    exact List.Perm.append_left _ (List.Perm.append_right _ p)
theorem Ba.done {ts : List Tg} {bs : Nat} {Bs : List (List Tg)} {Q Z : List Tg} (h : Ba ts bs Bs Q) (hQ : Q.length < bs) (p : Z.Perm Q) (s : Z.Pairwise lt7) : Bk ts bs [] Bs Z := by
  refine ⟨by simp, h.fb, by rw [p.length_eq]; exact hQ, s, ?_, ?_⟩
  · simpa using pw_perm h.mz p
  · refine List.Perm.trans ?_ h.pm
    simp only [List.flatten_append, List.flatten_cons, List.append_assoc, List.cons_append, List.nil_append, List.flatten_nil, List.append_nil]
    exact List.Perm.append_left _ p
/-- One block is left. -/
theorem Bk.all {ts : List Tg} {bs : Nat} {Bs : List (List Tg)} {l : List Tg} (h : Bk ts bs [] Bs l) (hb : 0 < bs) (hn : ts.length ≤ bs) : (Bs.flatten ++ l).Perm ts ∧ (Bs.flatten ++ l).Pairwise lt7 := by
  have p : (Bs.flatten ++ l).Perm ts := by simpa using h.pm
  refine ⟨p, ?_⟩
  have e := p.length_eq
  rw [List.length_append, flat_len (fun X hX => (h.fb X hX).1)] at e
  cases Bs with
  | nil => simpa using h.ls
  | cons X Bs =>
    cases Bs with
    | nil =>
      have : l = [] := List.eq_nil_of_length_eq_zero (by simp at e; omega)
      subst this
      simpa using (h.fb X (by simp)).2
    | cons Y Bs =>
      exfalso
      simp [Nat.add_mul] at e
      omega

set_option maxHeartbeats 8000000 in
set_option maxRecDepth 20000 in
theorem stable_any (K : Nat → Prop) (b : Nat) (rest : List Value) (W w : World) (ts : List Tg) (c : Nat) (h : SW K b rest W w ts) (hm : ts.Pairwise (fun x y => x.2 < y.2)) (hn : ts.length ≤ 1000000) (N : Nat) (hN : N = ts.length) :
    Calls Try.prog 62 #[.slice (some ⟨b, 0, none⟩) N c, .int .i64 N, .func (.func 40) #[] #[]] w fun r w' => r = .returned (.tuple #[]) ∧ ∃ X, SW K b rest W w' X ∧ X.Perm ts ∧ X.Pairwise lt7 := by
  have H := hide h
  have HB := hide (Ba.start hm 20)
  have hNN : N ≤ 1000000 := by omega
  have HN := hide hN
  clear h hm hn hN
  go_enter Try.func62, Try.ntmps62
  go_wp2_with fail
  go_loopw [7, 8] (fun va vb wr => ∃ (a : Nat) (Bs : List (List Tg)) (Q : List Tg), va = .int .i64 a ∧ vb = .int .i64 ((a : Int) + 20) ∧ a ≤ N ∧ Hid (a = Bs.length * 20 ∧ N = a + Q.length) ∧ Hid (SW K b rest W wr (Bs.flatten ++ Q)) ∧ Ba ts 20 Bs Q) (fun va _ _ => (N - intOf va).toNat)
  case atStart => exact ⟨0, [], ts, rfl, rfl, by omega, ⟨by simp, by have := HN.out; omega⟩, by show SW K b rest W _ _; simpa using H.out, HB.out⟩
  case round =>
    clear H HB
    obtain ⟨a, Bs, Q, rfl, rfl, haN, HA, HS, hba⟩ := hrel
    have BA := hide hba
    clear hba
    have hlen : Hid (Bs.flatten.length = a) := by
      have := flat_len (fun X hX => (BA.out.fb X hX).1)
      have h2 := HA.out.1
      show _ = _
      omega
    by_cases hab : a + 20 ≤ N
    · obtain ⟨X, Q', e, hX⟩ : ∃ X Q', Q = X ++ Q' ∧ X.length = 20 := ⟨Q.take 20, Q.drop 20, (List.take_append_drop _ _).symm, by have := HA.out.2; simp; omega⟩
      subst e
      have q1 := (List.pairwise_append.1 BA.out.mq).1
      have HX := hide hX
      clear hX
      go_wp2_with fail
      refine (insertion_any K b rest W wr Bs.flatten X Q' c HS.out q1 (by have := HA.out.2; have := hlen.out; simp at *; omega) N a (a + 20) (by have := HA.out.2; have := hlen.out; simp at *; omega) hlen.out.symm (by have := hlen.out; have := HX.out; omega)).mono ?_
      rintro e w1 ⟨rfl, Z, s1, p1, o1⟩
      have S1 := hide s1
      have B1 := hide (BA.out.step HX.out p1 o1)
      clear s1 p1 o1 q1
      go_wp2
      go_roundw
      case rel => exact ⟨a + 20, Bs ++ [Z], Q', by go_num, by go_num, by omega, ⟨by have := HA.out.1; simp; omega, by have := HA.out.2; have := HX.out; simp at *; omega⟩, by show SW K b rest W _ _; simpa using S1.out, B1.out⟩
      case measure => simp [intOf]; omega
    · have hQ : Q.length < 20 := by have := HA.out.2; omega
      have HQ := hide hQ
      clear hQ
      go_wp2_with fail
      refine (insertion_any K b rest W wr Bs.flatten Q [] c (by simpa using HS.out) BA.out.mq (by have := HA.out.2; have := hlen.out; simp at *; omega) N a N (by have := HA.out.2; have := hlen.out; simp at *; omega) hlen.out.symm (by have := hlen.out; have := HA.out.2; omega)).mono ?_
      rintro e w1 ⟨rfl, Z, s1, p1, o1⟩
      have S1 : Hid (SW K b rest W w1 (Bs.flatten ++ Z)) := by show SW K b rest W w1 _; simpa using s1
      have B1 := hide (BA.out.done HQ.out p1 o1)
      clear s1 p1 o1 HS BA HA hlen HQ
      go_wp2_with fail
      go_loopw [6] (fun vs wr => ∃ (bs : Nat) (Bs : List (List Tg)) (l : List Tg), vs = .int .i64 bs ∧ 0 < bs ∧ bs ≤ 2000000 ∧ Hid (SW K b rest W wr (Bs.flatten ++ l)) ∧ Bk ts bs [] Bs l) (fun vs _ => (2 * N - intOf vs).toNat)
      case atStart => exact ⟨20, Bs, Z, rfl, by omega, by omega, S1.out, B1.out⟩
      case round =>
        clear S1 B1
        obtain ⟨bs, Bs, l, rfl, hbs, hbb, HS, hbk⟩ := hrel
        have BK := hide hbk
        clear hbk
        by_cases hbN : bs < N
        · have hlen : Hid (N = Bs.flatten.length + l.length) := by
            have := BK.out.pm.length_eq
            have h2 := HN.out
            show _ = _
            simp at this
            simp
            omega
          go_wp2_with fail
          go_loopw [7, 8] (fun va vb wr => ∃ (a : Nat) (Ds Bs : List (List Tg)) (l : List Tg), va = .int .i64 a ∧ vb = .int .i64 ((a : Int) + 2 * (bs : Int)) ∧ a ≤ N ∧ Hid (a = Ds.flatten.length ∧ N = a + (Bs.flatten.length + l.length)) ∧ Hid (SW K b rest W wr (Ds.flatten ++ (Bs.flatten ++ l))) ∧ Bk ts bs Ds Bs l) (fun va _ _ => (N - intOf va).toNat)
          case atStart => exact ⟨0, [], Bs, l, rfl, by go_num, by omega, ⟨rfl, by have := hlen.out; omega⟩, by show SW K b rest W _ _; simpa using HS.out, BK.out⟩
          case round =>
            clear HS BK hlen
            obtain ⟨a, Ds, Bs, l, rfl, rfl, haN, HA, HS, hbk⟩ := hrel
            have BK := hide hbk
            clear hbk
            by_cases hab : a + 2 * bs ≤ N
            · obtain ⟨X, Y, Bs', e⟩ : ∃ X Y Bs', Bs = X :: Y :: Bs' := by
                have h1 := HA.out.2
                have h2 := BK.out.ll
                cases Bs with
                | nil => simp at h1; omega
                | cons X Bs =>
                  cases Bs with
                  | nil => have h3 := (BK.out.fb X (by simp)).1; simp at h1; omega
                  | cons Y Bs => exact ⟨X, Y, Bs, rfl⟩
              subst e
              have hX := hide (BK.out.fb X (by simp))
              have hY := hide (BK.out.fb Y (by simp))
              have hXY : Hid (MK X Y) := by
                have m := BK.out.mz
                have m2 := (List.pairwise_append.1 m).2.1
                exact (List.pairwise_cons.1 m2).1 Y (by simp)
              have habz : (a : Int) + 2 * (bs : Int) ≤ (N : Int) := by omega
              go_wp2_with fail
              refine (symMerge_any N K b rest W wr Ds.flatten X Y (Bs'.flatten ++ l) c (by simpa using HS.out) hX.out.2 hY.out.2 hXY.out (by have := hX.out.1; omega) (by have := hY.out.1; omega) N a (a + bs) (a + 2 * bs) (by have := HA.out; simp at *; omega) hNN HA.out.1 (by have := hX.out.1; have := HA.out.1; omega) (by have := hX.out.1; have := hY.out.1; have := HA.out.1; omega) (by have := hX.out.1; have := hY.out.1; omega)).mono ?_
              rintro e w1 ⟨rfl, Z, s1, p1, o1⟩
              have S1 := hide s1
              have B1 := hide (BK.out.merge p1 o1)
              have hZ : Hid (Z.length = 2 * bs) := by have := p1.length_eq; have := hX.out.1; have := hY.out.1; show _ = _; simp at *; omega
              clear s1 p1 o1
              go_wp2
              go_roundw
              case rel => exact ⟨a + 2 * bs, Ds ++ [Z], Bs', l, by go_num, by go_num, by omega, ⟨by have := HA.out.1; have := hZ.out; simp only [List.flatten_append, List.length_append, List.flatten_cons, List.flatten_nil, List.append_nil]; omega, by have := HA.out.2; have := hX.out.1; have := hY.out.1; simp at *; omega⟩, by show SW K b rest W _ _; simpa using S1.out, B1.out⟩
              case measure => simp [intOf]; omega
            · have hB : Hid (Bs = [] ∨ ∃ X, Bs = [X]) := by
                have h1 := HA.out.2
                cases Bs with
                | nil => exact .inl rfl
                | cons X Bs =>
                  cases Bs with
                  | nil => exact .inr ⟨X, rfl⟩
                  | cons Y Bs =>
                    exfalso
                    have h3 := (BK.out.fb X (by simp)).1
                    have h4 := (BK.out.fb Y (by simp)).1
                    simp at h1
                    omega
              have habz : ¬ (a : Int) + 2 * (bs : Int) ≤ (N : Int) := by omega
              by_cases hmn : a + bs < N
              · obtain ⟨X, e⟩ : ∃ X, Bs = [X] := by
                  rcases hB.out with e | e
                  · subst e; exfalso; have h1 := HA.out.2; have h2 := BK.out.ll; simp at h1; omega
                  · exact e
                subst e
                have hX := hide (BK.out.fb X (by simp))
                have hXl : Hid (MK X l) := by
                  have m := BK.out.mz
                  have m2 := (List.pairwise_append.1 m).2.1
                  exact (List.pairwise_cons.1 m2).1 l (by simp)
                have hmz : (a : Int) + (bs : Int) < (N : Int) := by omega
                go_wp2_with fail
                refine (symMerge_any N K b rest W wr Ds.flatten X l [] c (by simpa using HS.out) hX.out.2 BK.out.ls hXl.out (by have := hX.out.1; omega) (by have := HA.out.2; have := hX.out.1; simp at *; omega) N a (a + bs) N (by have := HA.out; simp at *; omega) hNN HA.out.1 (by have := hX.out.1; have := HA.out.1; omega) (by have := HA.out; simp at *; omega) (by have := HA.out; simp at *; omega)).mono ?_
                rintro e w1 ⟨rfl, Z, s1, p1, o1⟩
                have S1 := hide s1
                have B1 := hide (BK.out.last1 p1 o1)
                clear s1 p1 o1
                go_wp2
                go_roundw
                case rel => exact ⟨2 * bs, Ds, Z, by go_num, by omega, by omega, by show SW K b rest W _ _; simpa using S1.out, B1.out⟩
                case measure => simp [intOf]; omega
              · have hmz : ¬ (a : Int) + (bs : Int) < (N : Int) := by omega
                have hfin : Hid (∃ l', SW K b rest W wr (Ds.flatten ++ l') ∧ Bk ts (2 * bs) [] Ds l') := by
                  rcases hB.out with e | ⟨X, e⟩
                  · subst e
                    exact ⟨l, by simpa using HS.out, BK.out.last0⟩
                  · subst e
                    have h1 := HA.out.2
                    have h3 := (BK.out.fb X (by simp)).1
                    have : l = [] := List.eq_nil_of_length_eq_zero (by simp at h1; omega)
                    subst this
                    exact ⟨X, by simpa using HS.out, BK.out.last1 (by simp) (BK.out.fb X (by simp)).2⟩
                go_wp2
                go_roundw
                case rel =>
                  obtain ⟨l', s1, b1⟩ := hfin.out
                  exact ⟨2 * bs, Ds, l', by go_num, by omega, by omega, s1, b1⟩
                case measure => simp [intOf]; omega
        · have hbz : ¬ (bs : Int) < (N : Int) := by omega
          go_wp2
          go_end0
          have h1 := BK.out.all hbs (by have := HN.out; omega)
          exact ⟨rfl, _, HS.out, h1.1, h1.2⟩

set_option maxHeartbeats 1000000 in
theorem sortStable_any (K : Nat → Prop) (b : Nat) (rest : List Value) (W w : World) (ts : List Tg) (c : Nat) (h : SW K b rest W w ts) (hm : ts.Pairwise (fun x y => x.2 < y.2)) (hn : ts.length ≤ 1000000) (N : Nat) (hN : N = ts.length) :
    Calls Try.prog 39 #[.slice (some ⟨b, 0, none⟩) N c, .func (.func 40) #[] #[]] w fun r w' => r = .returned (.tuple #[]) ∧ ∃ X, SW K b rest W w' X ∧ X.Perm ts ∧ X.Pairwise lt7 := by
  have C := hide (stable_any K b rest W w ts c h hm hn N hN)
  have hNN : N ≤ 1000000 := by omega
  clear h hm hn hN
  go_enter Try.func39, Try.ntmps39
  go_wp2_with fail
  refine C.out.mono ?_
  rintro e w1 ⟨rfl, X, s1, p1, o1⟩
  have S1 := hide s1
  have P1 := hide p1
  have O1 := hide o1
  clear s1 p1 o1
  go_wp2
  go_end0
  exact ⟨rfl, X, S1.out, P1.out, O1.out⟩
end Go.Proofs.Ytahlbebkcoofkaa
