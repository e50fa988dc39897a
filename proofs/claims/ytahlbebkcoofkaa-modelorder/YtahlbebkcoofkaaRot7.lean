/- slices.swapRangeCmpFunc and rotateCmpFunc over pairs. -/
import Derived.Test.YtahlbebkcoofkaaIns7
namespace Go.Proofs.Ytahlbebkcoofkaa
set_option maxRecDepth 20000
open Go.RowKit Go.Sort
set_option linter.unusedVariables false

theorem swap_far {α : Type} (P : List α) (x : α) (Q : List α) (y : α) (R : List α) (i j : Nat) (hi : i = P.length) (hj : j = P.length + (1 + Q.length)) : ((P ++ x :: (Q ++ y :: R)).set i y).set j x = P ++ y :: (Q ++ x :: R) := by
  subst hi
  have e1 : (P ++ x :: (Q ++ y :: R)).set P.length y = P ++ y :: (Q ++ y :: R) := by simp [List.set_append_right]
  rw [e1, List.set_append_right _ _ (by omega), show j - P.length = Q.length + 1 by omega, List.set_cons_succ, List.set_append_right _ _ (by omega)]
  simp
/-- Where the exchange of two stretches stands. -/
structure Xc (A X C Y B ts : List Tg) (i : Nat) : Prop where
  ex : ∃ X1 X2 Y1 Y2 : List Tg, X = X1 ++ X2 ∧ Y = Y1 ++ Y2 ∧ X1.length = i ∧ Y1.length = i ∧ ts = A ++ (Y1 ++ (X2 ++ (C ++ (X1 ++ (Y2 ++ B)))))
theorem Xc.step {A X C Y B ts : List Tg} {i : Nat} (h : Xc A X C Y B ts i) (hl : X.length = Y.length) (hi : i < X.length) (M E : Nat) (hM : M = A.length) (hE : E = A.length + X.length + C.length) : ∃ x y, ts[M + i]? = some x ∧ ts[E + i]? = some y ∧ Xc A X C Y B ((ts.set (M + i) y).set (E + i) x) (i + 1) := by
  obtain ⟨X1, X2, Y1, Y2, e1, e2, l1, l2, e⟩ := h.ex
  cases X2 with
  | nil => simp at e1; subst e1; omega
  | cons x X2 =>
    cases Y2 with
    | nil => simp at e2; subst e2; omega
    | cons y Y2 =>
      have hX : X.length = i + (X2.length + 1) := by rw [e1]; simp; omega
      have e3 : ts = (A ++ Y1) ++ x :: ((X2 ++ (C ++ X1)) ++ y :: (Y2 ++ B)) := by rw [e]; simp
      refine ⟨x, y, ?_, ?_, X1 ++ [x], X2, Y1 ++ [y], Y2, by simp [e1], by simp [e2], by simp [l1], by simp [l2], ?_⟩
      · rw [e3]; exact get_mid _ _ _ _ (by simp; omega)
      · have e4 : ts = (A ++ (Y1 ++ x :: (X2 ++ (C ++ X1)))) ++ y :: (Y2 ++ B) := by rw [e]; simp
        rw [e4]; exact get_mid _ _ _ _ (by simp; omega)
      · rw [e3, swap_far (A ++ Y1) x (X2 ++ (C ++ X1)) y (Y2 ++ B) _ _ (by simp; omega) (by simp; omega)]
        simp

set_option maxHeartbeats 4000000 in
theorem swapRange_any (K : Nat → Prop) (b : Nat) (rest : List Value) (W w : World) (A X C Y B : List Tg) (c : Nat) (h : SW K b rest W w (A ++ (X ++ (C ++ (Y ++ B))))) (hl : X.length = Y.length) (N M E L : Nat) (hN : N = (A ++ (X ++ (C ++ (Y ++ B)))).length) (hn : N ≤ 1000000) (hM : M = A.length) (hE : E = A.length + X.length + C.length) (hL : L = X.length) :
    Calls Try.prog 78 #[.slice (some ⟨b, 0, none⟩) N c, .int .i64 M, .int .i64 E, .int .i64 L, .func (.func 40) #[] #[]] w fun r w' => r = .returned (.tuple #[]) ∧ SW K b rest W w' (A ++ (Y ++ (C ++ (X ++ B)))) := by
  have H := hide h
  have HL := hide hl
  have hEN : E + L ≤ N := by simp at hN; omega
  have hME : M + L ≤ E := by omega
  have HN := hide hN
  have HM := hide hM
  have HE := hide hE
  have HLL := hide hL
  clear h hl hN hM hE hL
  go_enter Try.func78, Try.ntmps78
  go_wp2_with fail
  go_loopw [10] (fun vi wr => ∃ (i : Nat) (ts : List Tg), vi = .int .i64 i ∧ i ≤ L ∧ Hid (SW K b rest W wr ts) ∧ Xc A X C Y B ts i) (fun vi _ => (L - intOf vi).toNat)
  case atStart => exact ⟨0, _, rfl, by omega, H.out, [], X, [], Y, rfl, rfl, rfl, rfl, rfl⟩
  case round =>
    obtain ⟨i, ts, rfl, hi, HS, hx⟩ := hrel
    have HX := hide hx
    clear hx
    by_cases hiL : i < L
    · obtain ⟨x, y, g1, g2, hx2⟩ := HX.out.step HL.out (by have := HLL.out; omega) M E HM.out HE.out
      have G1 := hide g1
      have G2 := hide g2
      have X2 := hide hx2
      have c0 := HS.out.cell0 g1
      have c1 := HS.out.cell1 g1
      have c2 := HS.out.cell0 g2
      have c3 := HS.out.cell1 g2
      have f0 := HS.out.frozen ((M + i) * 2)
      have f1 := HS.out.frozen ((M + i) * 2 + 1)
      have f2 := HS.out.frozen ((E + i) * 2)
      have f3 := HS.out.frozen ((E + i) * 2 + 1)
      have z0 : ((M : Int) + (i : Int)).toNat = M + i := by omega
      have z1 : ((E : Int) + (i : Int)).toNat = E + i := by omega
      have z2 : (M : Int) + (i : Int) < (N : Int) := by omega
      have z3 : (E : Int) + (i : Int) < (N : Int) := by omega
      have z4 : 0 ≤ (M : Int) + (i : Int) := by omega
      have z5 : 0 ≤ (E : Int) + (i : Int) := by omega
      have HS3 := hide (HS.out.swap (M + i) (E + i) x y g1 g2).drew
      clear g1 g2 hx2
      go_wp2_with fail
      go_region
      generalize ((((wr.setCell ⟨b, (M + i) * 2, none⟩ (.slice y.1.a y.1.k.length y.1.c)).setCell ⟨b, (M + i) * 2 + 1, none⟩ (.int .u64 y.1.v)).setCell ⟨b, (E + i) * 2, none⟩ (.slice x.1.a x.1.k.length x.1.c)).setCell ⟨b, (E + i) * 2 + 1, none⟩ (.int .u64 x.1.v)).drew = wt at HS3 ⊢
      clear c0 c1 c2 c3 f0 f1 f2 f3
      go_wp2
      go_roundw
      case rel => exact ⟨i + 1, _, by go_num, by omega, HS3, X2.out⟩
      case measure => simp [intOf]; omega
    · go_wp2
      go_end0
      refine ⟨rfl, ?_⟩
      obtain ⟨X1, X2, Y1, Y2, e1, e2, l1, l2, e⟩ := HX.out.ex
      have h1 := HL.out
      have h2 := HLL.out
      have h3 : X2 = [] := List.eq_nil_of_length_eq_zero (by have := congrArg List.length e1; simp at this; omega)
      have h4 : Y2 = [] := List.eq_nil_of_length_eq_zero (by have := congrArg List.length e2; simp at this; omega)
      subst h3 h4
      have := HS.out
      rw [e] at this
      simp only [List.append_nil] at e1 e2
      subst e1 e2
      simpa using this

/-- Where the turning about of two stretches stands. -/
structure Ro (A X Y B ts : List Tg) (m i j : Nat) : Prop where
  ex : ∃ P X' Y' Q : List Tg, ts = A ++ (P ++ (X' ++ (Y' ++ (Q ++ B)))) ∧ X'.length = i ∧ Y'.length = j ∧ A.length + P.length + i = m ∧ P ++ (Y' ++ (X' ++ Q)) = Y ++ X

set_option maxHeartbeats 4000000 in
theorem rotate_any (K : Nat → Prop) (b : Nat) (rest : List Value) (W w : World) (A X Y B : List Tg) (c : Nat) (h : SW K b rest W w (A ++ (X ++ (Y ++ B)))) (N M E F : Nat) (hN : N = (A ++ (X ++ (Y ++ B))).length) (hn : N ≤ 1000000) (hM : M = A.length) (hE : E = A.length + X.length) (hF : F = A.length + X.length + Y.length) (hX : 0 < X.length) (hY : 0 < Y.length) :
    Calls Try.prog 76 #[.slice (some ⟨b, 0, none⟩) N c, .int .i64 M, .int .i64 E, .int .i64 F, .func (.func 40) #[] #[]] w fun r w' => r = .returned (.tuple #[]) ∧ SW K b rest W w' (A ++ (Y ++ (X ++ B))) := by
  have H := hide h
  have hFN : F ≤ N := by simp at hN; omega
  have hME : M < E := by omega
  have hEF : E < F := by omega
  have HN := hide hN
  have hi0 : Hid ((E : Int) - (M : Int) = (X.length : Int)) := by show _ = _; omega
  have hj0 : Hid ((F : Int) - (E : Int) = (Y.length : Int)) := by show _ = _; omega
  have HM := hide hM
  have HE := hide hE
  have HF := hide hF
  clear h hN hM hE hF
  go_enter Try.func76, Try.ntmps76
  go_wp2_with fail
  rw [hi0.out, hj0.out]
  go_loopw [10, 11] (fun vi vj wr => ∃ (i j : Nat) (ts : List Tg), vi = .int .i64 i ∧ vj = .int .i64 j ∧ 0 < i ∧ 0 < j ∧ i ≤ 1000000 ∧ j ≤ 1000000 ∧ Hid (SW K b rest W wr ts) ∧ Ro A X Y B ts E i j) (fun vi vj _ => (intOf vi + intOf vj).toNat)
  case atStart => exact ⟨X.length, Y.length, _, rfl, rfl, hX, hY, by have := HN.out; simp at this; omega, by have := HN.out; simp at this; omega, H.out, [], X, Y, [], by simp, rfl, rfl, by have := HE.out; simp; omega, by simp⟩
  case round =>
    obtain ⟨i, j, ts, rfl, rfl, hi, hj, hib, hjb, HS, hro⟩ := hrel
    obtain ⟨P, X', Y', Q, e, lx, ly, lp, hp⟩ := hro.ex
    subst e
    obtain ⟨q, hq⟩ : ∃ q, q = A.length + P.length := ⟨_, rfl⟩
    have HQ := hide hq
    have hqE : q + i = E := by omega
    have hsub : Hid ((E : Int) - (i : Int) = (q : Int)) := by show _ = _; omega
    have hQN : E + j ≤ N := by
      have h1 := HN.out
      have h2 := congrArg List.length hp
      simp at h1 h2
      omega
    have LX := hide lx
    have LY := hide ly
    have HP := hide hp
    have NT : Hid (N = (A ++ (P ++ (X' ++ (Y' ++ (Q ++ B))))).length) := by
      show _ = _
      have h1 := HN.out
      have h2 := congrArg List.length hp
      simp at h1 h2 ⊢
      omega
    clear hro lx ly lp hp hq
    by_cases hij : i = j
    · subst hij
      go_wp2_with fail
      rw [hsub.out]
      refine (swapRange_any K b rest W wr (A ++ P) X' [] Y' (Q ++ B) c (by simpa using HS.out) (LX.out.trans LY.out.symm) N q E i (by have := NT.out; simp at this ⊢; omega) hn (by have := HQ.out; simp; omega) (by have := HQ.out; have := LX.out; simp; omega) LX.out.symm).mono ?_
      rintro r w1 ⟨rfl, s⟩
      have S := hide s
      clear s
      go_wp2
      go_end0
      refine ⟨rfl, ?_⟩
      have h1 := S.out
      have h2 : A ++ P ++ (Y' ++ ([] ++ (X' ++ (Q ++ B)))) = A ++ (Y ++ (X ++ B)) := by
        have h3 : A ++ ((P ++ (Y' ++ (X' ++ Q))) ++ B) = A ++ ((Y ++ X) ++ B) := by rw [HP.out]
        simpa using h3
      rwa [h2] at h1
    · have hne : ((i : Int) != (j : Int)) = true := by simp; omega
      by_cases hgt : j < i
      · obtain ⟨X1, X2, e1, l1⟩ : ∃ X1 X2, X' = X1 ++ X2 ∧ X1.length = j := ⟨X'.take j, X'.drop j, (List.take_append_drop j X').symm, by have := LX.out; simp; omega⟩
        subst e1
        have hx2 : Hid (X2.length = i - j) := by have := LX.out; simp at this; show _ = _; omega
        go_wp2_with fail
        rw [hsub.out]
        refine (swapRange_any K b rest W wr (A ++ P) X1 X2 Y' (Q ++ B) c (by simpa using HS.out) (l1.trans LY.out.symm) N q E j (by have := NT.out; simp at this ⊢; omega) hn (by have := HQ.out; simp; omega) (by have := HQ.out; have := hx2.out; simp; omega) l1.symm).mono ?_
        rintro r w1 ⟨rfl, s⟩
        have S := hide s
        have L1 := hide l1
        clear s l1
        go_wp2
        go_roundw
        case rel =>
          refine ⟨i - j, j, _, by go_num, rfl, by omega, hj, by omega, hjb, S, P ++ Y', X2, X1, Q, by simp, hx2.out, L1.out, ?_, ?_⟩
          · have := HQ.out; have := LY.out; simp; omega
          · rw [← HP.out]; simp
        case measure => simp [intOf]; omega
      · obtain ⟨Y1, Y2, e1, l1⟩ : ∃ Y1 Y2, Y' = Y1 ++ Y2 ∧ Y1.length = j - i := ⟨Y'.take (j - i), Y'.drop (j - i), (List.take_append_drop _ Y').symm, by have := LY.out; simp; omega⟩
        subst e1
        have hy2 : Hid (Y2.length = i) := by have := LY.out; simp at this; show _ = _; omega
        have hsub2 : Hid ((E : Int) + (j : Int) - (i : Int) = ((q + j : Nat) : Int)) := by show _ = _; omega
        have hsub3 : Hid ((j : Int) - (i : Int) = ((j - i : Nat) : Int)) := by show _ = _; omega
        go_wp2_with fail
        rw [hsub.out, hsub2.out]
        refine (swapRange_any K b rest W wr (A ++ P) X' Y1 Y2 (Q ++ B) c (by simpa using HS.out) (LX.out.trans hy2.out.symm) N q (q + j) i (by have := NT.out; simp at this ⊢; omega) hn (by have := HQ.out; simp; omega) (by have := HQ.out; have := LX.out; simp; omega) LX.out.symm).mono ?_
        rintro r w1 ⟨rfl, s⟩
        have S := hide s
        have L1 := hide l1
        clear s l1
        go_wp2
        go_roundw
        case rel =>
          refine ⟨i, j - i, _, rfl, by go_num, hi, by omega, hib, by omega, S, P, Y2, Y1, X' ++ Q, by simp, hy2.out, L1.out, ?_, ?_⟩
          · have := HQ.out; omega
          · rw [← HP.out]; simp
        case measure => simp [intOf]; omega
end Go.Proofs.Ytahlbebkcoofkaa
