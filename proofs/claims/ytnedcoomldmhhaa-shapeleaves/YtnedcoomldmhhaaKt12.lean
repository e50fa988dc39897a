/- shape.keys; spelled of one cell; Pairs of it. -/
import Derived.Test.YtnedcoomldmhhaaPr11
namespace Go.Proofs.Ytnedcoomldmhhaa
set_option maxRecDepth 20000
open Go.RowKit Go.Sort
set_option linter.unusedVariables false
set_option linter.unusedSimpArgs false

def keysUp (cs : List PC) (ss : List Sp) : Nat → Int
  | 0 => 0
  | k + 1 => keysUp cs ss k + (if (sAt ss k).over = -1 then (cAt cs k).count else 0)
theorem keysUp_range (cs : List PC) (ss : List Sp) (hb : ∀ i, i < cs.length → (sAt ss i).over = -1 → 0 ≤ (cAt cs i).count ∧ (cAt cs i).count ≤ 1000000) : ∀ k, k ≤ cs.length → 0 ≤ keysUp cs ss k ∧ keysUp cs ss k ≤ 1000000 * (k : Int)
  | 0, _ => by simp [keysUp]
  | k + 1, h => by
    have ih := keysUp_range cs ss hb k (by omega)
    simp only [keysUp]
    by_cases ho : (sAt ss k).over = -1
    · have := hb k (by omega) ho
      rw [if_pos ho]; omega
    · rw [if_neg ho]; omega
set_option maxHeartbeats 1600000 in
theorem keys_any (a : Option Addr) (cs : List Cel) (g : Nat) (ss : List Sp) (k m : Nat) (w : World) (h : Tre w a cs g ss) (hb : ∀ i, i < cs.length → (sAt ss i).over = -1 → 0 ≤ (cAt (cs.map Cel.pure) i).count ∧ (cAt (cs.map Cel.pure) i).count ≤ 1000000) :
    Calls Try.prog 48 #[.agg #[.slice a cs.length k, .slice (some ⟨g, 0, none⟩) cs.length m]] w fun e w' => e = .returned (.int .i64 (keysUp (cs.map Cel.pure) ss cs.length)) ∧ Below w.heap.size w w' := by
  have hn := h.rc.1
  have hln := h.ln
  have H := hide h
  have X0 := hide (Blk.new w 61 [.slice a cs.length k, .slice (some ⟨g, 0, none⟩) cs.length m] _ rfl)
  have F0 := hide ((Below.refl w.heap.size w).alloc (Nat.le_refl _) (.cells #[.slice a cs.length k, .slice (some ⟨g, 0, none⟩) cs.length m] 61 (0, 0)))
  have HR := hide (keysUp_range (cs.map Cel.pure) ss (fun i hi => hb i (by simpa using hi)))
  have HB := hide hb
  clear h hb
  go_enter Try.func48, Try.ntmps48
  go_wp2_with fail
  go_loopw [3, 9] (fun vn vi wr => ∃ i : Nat, vi = .int .i64 i ∧ vn = .int .i64 (keysUp (cs.map Cel.pure) ss i) ∧ i ≤ cs.length ∧ Hid (Below w.heap.size w wr) ∧ Hid (Blk wr w.heap.size 61 [.slice a cs.length k, .slice (some ⟨g, 0, none⟩) cs.length m])) (fun _ vi _ => (cs.length - intOf vi).toNat)
  case atStart => exact ⟨0, rfl, rfl, by omega, F0.out, X0.out⟩
  case round =>
    clear X0 F0
    obtain ⟨i, rfl, rfl, hi, F, X⟩ := hrel
    by_cases hin : i < cs.length
    · obtain ⟨c, hc⟩ : ∃ c, cs[i]? = some c := ⟨cs[i], List.getElem?_eq_getElem hin⟩
      have h1 := H.out.below F.out
      have hme := cAt_map hc
      obtain ⟨s0, s1, s2, s3⟩ := (H.out.below (F.out.mono (Nat.le_refl _))).sp.cells (i := i) (by omega)
      have x0 := X.out.cell 0
      simp only [List.getElem?_cons_zero, List.getElem?_cons_succ] at x0
      obtain ⟨b, off, rfl, -, -, c2, -⟩ := (H.out.below (F.out.mono (Nat.le_refl _))).rc.cells hc
      have hbw := World.block_lt_of_cell? wr _ c2
      have hgw := Blk.lt (H.out.below (F.out.mono (Nat.le_refl _))).sp
      have hxw := X.out.lt
      simp only at hbw
      have hr1 := HR.out i (by simp; omega)
      have hbi := HB.out i hin
      rw [hme] at hbi
      have hsu : Hid (keysUp (cs.map Cel.pure) ss (i + 1) = keysUp (cs.map Cel.pure) ss i + (if (sAt ss i).over = -1 then c.count else 0)) := by show _ = _; simp only [keysUp, hme]; rfl
      have F3 : Hid (∀ o, Below w.heap.size w (wr.alloc o)) := fun o => F.out.alloc F.out.size o
      have X3 : Hid (∀ o, Blk (wr.alloc o) w.heap.size 61 [.slice (some ⟨b, off, none⟩) cs.length k, .slice (some ⟨g, 0, none⟩) cs.length m]) := fun o => X.out.alloc o
      have hcc : c.pure.count = c.count := rfl
      generalize keysUp (cs.map Cel.pure) ss i = kv at *
      by_cases hom : (sAt ss i).over = -1
      · have hom' : ((sAt ss i).over == -1) = true := by simpa using hom
        rw [if_pos hom] at hsu
        have hbj := hbi hom
        have hw : IntKind.i64.wrap (kv + c.count) = kv + c.count := by rw [IntKind.wrap_i64]; omega
        generalize sAt ss i = sv at *
        go_wp2_with fail
        go_roundw
        case rel => exact ⟨i + 1, by go_num, by rw [hsu.out], by omega, F3.out _, X3.out _⟩
        case measure => simp [intOf]; omega
      · have hom' : ((sAt ss i).over == -1) = false := by simpa using hom
        rw [if_neg hom] at hsu
        generalize sAt ss i = sv at *
        go_wp2_with fail
        go_roundw
        case rel => exact ⟨i + 1, by go_num, by rw [hsu.out, Int.add_zero], by omega, F3.out _, X3.out _⟩
        case measure => simp [intOf]; omega
    · obtain rfl : i = cs.length := by omega
      go_wp2_with fail
      go_ret
      exact ⟨rfl, F.out⟩
set_option maxHeartbeats 1600000 in
theorem begins_root (a : Option Addr) (cs : List Cel) (g : Nat) (ss : List Sp) (k m : Nat) (fl fc : Nat) (fa : Option Addr) (i : Nat) (w : World) (h : Tre w a cs g ss) (hi : i < cs.length) (ho : (sAt ss i).over = -1) :
    Calls Try.prog 49 #[.agg #[.slice a cs.length k, .slice (some ⟨g, 0, none⟩) cs.length m], .slice fa fl fc, .int .i64 i] w fun e w' => e = .returned (.int .i64 i) ∧ Below w.heap.size w w' := by
  have hn := h.rc.1
  have hln := h.ln
  have hg := Blk.lt h.sp
  obtain ⟨s0, s1, s2, s3⟩ := h.sp.cells (i := i) (by omega)
  rw [ho] at s0
  clear h
  have F0 : Hid (∀ o, Below w.heap.size w (w.alloc o)) := fun o => (Below.refl w.heap.size w).alloc (Nat.le_refl _) o
  go_enter Try.func49, Try.ntmps49
  go_wp2_with fail
  go_ret
  exact ⟨rfl, F0.out _⟩
set_option maxHeartbeats 1600000 in
theorem spelled_one (a : Option Addr) (c : Cel) (g : Nat) (k m : Nat) (w : World) (h : Tre w a [c] g [⟨-1, 0, -1, 1⟩]) (hk : c.kind = 3) (hc : c.count = 1) (hv : 0 ≤ c.val ∧ c.val ≤ 18446744073709551615) :
    Calls Try.prog 29 #[.agg #[.slice a 1 k, .slice (some ⟨g, 0, none⟩) 1 m]] w fun r w' => PAns w w' [([], c.val)] r := by
  have H := hide h
  have hko : keysUp ([c].map Cel.pure) [⟨-1, 0, -1, 1⟩] 1 = 1 := by
    simp [keysUp, sAt, cAt, Cel.pure, hc]
  have X0 := hide (Blk.new w 61 [.slice a 1 k, .slice (some ⟨g, 0, none⟩) 1 m] _ rfl)
  have F0 := hide ((Below.refl w.heap.size w).alloc (Nat.le_refl _) (.cells #[.slice a 1 k, .slice (some ⟨g, 0, none⟩) 1 m] 61 (0, 0)))
  have K := keys_any a [c] g [⟨-1, 0, -1, 1⟩] k m _ (h.below F0.out) (fun i hi _ => by
    have : i = 0 := by simpa using hi
    subst this
    simp [cAt, Cel.pure, hc])
  have HK := hide K
  simp only [List.length_cons, List.length_nil, Nat.zero_add] at HK
  rw [hko] at HK
  clear K h hko
  go_enter Try.func29, Try.ntmps29
  go_wp2_with fail
  refine HK.out.mono ?_
  rintro e w1 ⟨rfl, f1⟩
  have X1 := hide (X0.out.below f1 X0.out.lt)
  have F1 := hide (F0.out.trans (f1.mono F0.out.size))
  clear f1 X0 F0 HK
  obtain ⟨w2, r2, b2, f2, s2⟩ := make_pairs w1 .i64 .i64 1 1 1 rfl rfl (by omega)
  have x0 := (X1.out.below f2 X1.out.lt).cell 0
  have x1 := (X1.out.below f2 X1.out.lt).cell 1
  simp only [List.getElem?_cons_zero, List.getElem?_cons_succ] at x0 x1
  obtain ⟨w3, r3, b3, f3, s3⟩ := make_ints w2 .i64 .i64 1 1 1 rfl rfl (by omega)
  have X3 := hide ((X1.out.below f2 X1.out.lt).below f3 (Nat.lt_of_lt_of_le X1.out.lt f2.size))
  have F3 := hide (F1.out.trans ((f2.mono F1.out.size).trans (f3.mono (Nat.le_trans F1.out.size f2.size))))
  have B3 := hide (b2.below f3 b2.lt)
  rw [s2] at r3 b3 s3
  have N3 := hide b3
  have hx1 := X1.out.lt
  clear f2 f3 b2 b3
  have x3 := X3.out.cell 0
  simp only [List.getElem?_cons_zero, List.getElem?_cons_succ] at x3
  go_wp2_with fail
  have T3 := hide (H.out.below (F3.out.mono (Nat.le_refl _)))
  go_loopw [20] (fun vi wr => (vi = .int .i64 0 ∧ wr = w3) ∨ (vi = .int .i64 1 ∧ Hid (∃ q, w.heap.size ≤ q ∧ q ≠ w1.heap.size ∧ Blk wr q 5 [] ∧ Blk wr w1.heap.size 47 (flat Ent.cells [⟨some ⟨q, 0, none⟩, 0, [], c.val⟩]) ∧ Below w.heap.size w wr))) (fun vi _ => (1 - intOf vi).toNat)
  case atStart => exact .inl ⟨rfl, rfl⟩
  case round =>
    rcases hrel with ⟨rfl, rfl⟩ | ⟨rfl, Q⟩
    · obtain ⟨s0, _, _, _⟩ := T3.out.sp.cells (i := 0) (by simp)
      obtain ⟨b, off, rfl, c0, c1, c2, c3, c4, c5, c6, c7, c8⟩ := T3.out.rc.cells (i := 0) (c := c) rfl
      have hbw := World.block_lt_of_cell? _ _ c0
      simp only [Nat.zero_mul, Nat.add_zero] at c0 c1 c2 c3 c4 c5 c6 c7 c8 hbw
      have f4 : Below wr.heap.size wr (wr.alloc (.cells c.fields.toArray 40 (0, 0))) := (Below.refl _ wr).alloc (Nat.le_refl _) _
      have F4 := hide (F3.out.trans (f4.mono F3.out.size))
      have CB4 := hide (Blk.new wr 40 c.fields _ rfl)
      have X4 := hide (X3.out.below f4 X3.out.lt)
      have B4 := hide (B3.out.below f4 B3.out.lt)
      have N4 := hide (Blk.below N3.out f4 (Blk.lt N3.out))
      have T4 := hide (T3.out.below f4)
      simp only [Cel.fields, hk, hc] at F4 CB4 X4 B4 N4 T4
      have hxr := X3.out.lt
      have x3a := X3.out.cell 0
      have x3b := X3.out.cell 1
      simp only [List.getElem?_cons_zero, List.getElem?_cons_succ] at x3a x3b
      have hs3 : Hid (wr.heap.size = w1.heap.size + 1 + 1) := s3
      clear f4 x0 x1 x3 s3 s2
      go_wp2_with fail
      generalize World.alloc _ _ = w4 at F4 CB4 X4 B4 N4 T4 ⊢
      refine (begins_root (some ⟨b, off, none⟩) [c] g [⟨-1, 0, -1, 1⟩] k m 1 1 (some ⟨w1.heap.size + 1, 0, none⟩) 0 w4 T4.out (by simp) rfl).mono ?_
      rintro e w5 ⟨rfl, f5⟩
      have F5 := hide (F4.out.trans (f5.mono F4.out.size))
      have CB5 := hide (CB4.out.below f5 CB4.out.lt)
      have X5 := hide (X4.out.below f5 X4.out.lt)
      have B5 := hide (B4.out.below f5 B4.out.lt)
      have N5 := hide (Blk.below N4.out f5 (Blk.lt N4.out))
      have T5 := hide (T4.out.below f5)
      clear f5 F4 CB4 X4 B4 N4 T4 c0 c1 c2 c3 c4 c5 c6 c7 c8 x3a x3b s0
      obtain ⟨s0, _, _, _⟩ := T5.out.sp.cells (i := 0) (by simp)
      have s0' : w5.cell? ⟨g, 0, none⟩ = some (.int .i64 (-1)) := by simpa [sAt] using s0
      have x5a := X5.out.cell 0
      have x5b := X5.out.cell 1
      have c5 := CB5.out.cell 0
      have c5v := CB5.out.cell 6
      have n5 := Nums.cell N5.out (j := 0) (by omega)
      have z5 := Blk.frozen N5.out 0
      have hgN : ¬ g = w1.heap.size + 1 := by
        intro e
        have h1 := T5.out.sp
        have h2 := N5.out
        rw [e] at h1
        unfold Sps Blk at h1
        unfold Blk at h2
        rw [h1] at h2
        simp at h2
      simp only [List.getElem?_cons_zero, List.getElem?_cons_succ] at x5a x5b c5 c5v
      clear s0
      have hwN : ¬ w.heap.size = w1.heap.size + 1 := by omega
      have hcN : ¬ wr.heap.size = w1.heap.size + 1 := by have := hs3.out; omega
      have hbf : w1.heap.size ≠ w1.heap.size + 1 := by omega
      have B6 := hide (B5.out.other (p := w1.heap.size + 1) (o := 0) (v := .int .i64 0) hbf)
      have F6 := hide (F5.out.setCell (show w.heap.size ≤ (⟨w1.heap.size + 1, 0, none⟩ : Addr).block by show _ ≤ w1.heap.size + 1; omega) (.int .i64 0))
      go_wp2_with fail
      clear s0' x5a x5b c5 c5v n5 z5
      generalize World.setCell _ _ _ = w6 at F6 B6 ⊢
      refine (copied_any ⟨none, 0, [], c.val⟩ w6 ⟨by intro x hx; simp at hx, by simp [maxLen], .inl rfl⟩ (by simp)).mono ?_
      rintro r w7 ⟨q, hq, rfl, b7, f7⟩
      have B7 := B6.out.below f7 B6.out.lt
      have F7 := hide (F6.out.trans (f7.mono F6.out.size))
      have hne : q ≠ w1.heap.size := by have := B6.out.lt; omega
      have d0 := B7.cell 0
      have d1 := B7.cell 1
      have y0 := B7.frozen 0
      have y1 := B7.frozen 1
      have hfl : flat Ent.cells (List.replicate 1 zE) = [.slice none 0 0, .int .u64 0] := rfl
      rw [hfl] at d0 d1
      simp only [List.getElem?_cons_zero, List.getElem?_cons_succ] at d0 d1
      have B8 := hide ((B7.set 0 (.slice (some ⟨q, 0, none⟩) 0 0)).set 1 (.int .u64 c.val))
      have Q8 := hide ((b7.other (p := w1.heap.size) (o := 0) (v := .slice (some ⟨q, 0, none⟩) 0 0) hne).other (p := w1.heap.size) (o := 1) (v := .int .u64 c.val) hne)
      have F8 := hide ((F7.out.setCell (show w.heap.size ≤ (⟨w1.heap.size, 0, none⟩ : Addr).block from F1.out.size) (.slice (some ⟨q, 0, none⟩) 0 0)).setCell (show w.heap.size ≤ (⟨w1.heap.size, 1, none⟩ : Addr).block from F1.out.size) (.int .u64 c.val))
      have hqw : w.heap.size ≤ q := Nat.le_trans F6.out.size hq
      clear f7 b7 B7 hq
      go_wp2_with fail
      go_roundw
      case rel => exact .inr ⟨by go_num, q, hqw, hne, Q8.out, B8.out, F8.out⟩
      case measure => simp [intOf]
    · go_wp2_with fail
      go_ret
      obtain ⟨q, hq, hqn, bq, bp, fq⟩ := Q.out
      have hz : ((u8s ([] : List Int)).toArray.toList.take (([] : List Int).length * 1)) = u8s [] := rfl
      refine ⟨some ⟨w1.heap.size, 0, none⟩, 1, [⟨some ⟨q, 0, none⟩, 0, [], c.val⟩], rfl, ⟨⟨rfl, .inr ⟨w1.heap.size, 1, _, rfl, by have := F1.out.size; omega, bp, Nat.le_refl _, by unfold maxLen; omega, rfl, rfl⟩⟩, fun e he => ?_, by simp⟩, List.pairwise_singleton _ _, rfl, fq⟩
      simp at he
      subst he
      exact ⟨⟨rfl, .inr ⟨q, 0, #[], rfl, hq, bq, Nat.le_refl _, by unfold maxLen; omega, rfl, rfl⟩⟩, by intro x hx; simp at hx, hv⟩
end Go.Proofs.Ytnedcoomldmhhaa
