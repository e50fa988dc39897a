/- Keys narrowed by one byte; Longest. -/
import Derived.Test.YtahlbebkcoofkaaDrop9
namespace Go.Proofs.Ytahlbebkcoofkaa
set_option maxRecDepth 20000
open Go.RowKit Go.Sort
set_option linter.unusedVariables false

set_option maxHeartbeats 1000000 in
theorem byByte_any (e : Ent) (t : Int) (n nb : Nat) (w : World) (he : Rd w e.a e.k) (hn : n < e.k.length) (hb : Blk w nb 3 [.int .i64 (n : Int)]) (ht : 0 ≤ t ∧ t ≤ 256) :
    Calls Try.prog 69 #[.agg #[.slice e.a e.k.length e.c, .int .u64 e.v], .int .i64 t, .pointer (some ⟨nb, 0, none⟩)] w fun r w' => r = .returned (.int .i64 (e.k.getD n 0 - t)) ∧ Below w.heap.size w w' := by
  obtain ⟨ea, ec, ek, ev⟩ := e
  simp only at he hn ⊢
  have hxb := he.1.getD n
  obtain ⟨h1, h2, h3⟩ := he
  unfold maxLen at h2
  rcases h3 with rfl | ⟨b, off, rfl, hc⟩
  · simp at hn
  have c0 : (w.alloc (.cells #[.slice (some ⟨b, off, none⟩) ek.length ec, .int .u64 ev] 54 (0, 0))).cell? ⟨b, off + n, none⟩ = some (.int .u8 (ek.getD n 0)) := by
    have h := hc n hn
    rw [((Below.refl _ w).alloc (Nat.le_refl _) _).cell (p := ⟨b, off + n, none⟩) (World.block_lt_of_cell? w _ h)]
    exact h
  have c1 : (w.alloc (.cells #[.slice (some ⟨b, off, none⟩) ek.length ec, .int .u64 ev] 54 (0, 0))).cell? ⟨nb, 0, none⟩ = some (.int .i64 (n : Int)) := (hb.alloc _).cell 0
  have f0 : Hid (Below w.heap.size w (w.alloc (.cells #[.slice (some ⟨b, off, none⟩) ek.length ec, .int .u64 ev] 54 (0, 0)))) := (Below.refl _ w).alloc (Nat.le_refl _) _
  generalize ek.getD n 0 = x at *
  clear hc h1 hb
  go_enter Try.func69, Try.ntmps69
  go_wp2_with fail
  go_ret
  exact ⟨rfl, f0.out⟩
set_option maxHeartbeats 1000000 in
theorem search_int (es : List Ent) (a : Option Addr) (c n nb : Nat) (t : Int) (p : Nat) (w : World) (h : Rp w a es) (hkn : ∀ e ∈ es, n < e.k.length) (hbx : Blk w nb 3 [.int .i64 (n : Int)]) (hn9 : n ≤ 1000000) (ht : 0 ≤ t ∧ t ≤ 256) (hp : p ≤ es.length)
    (hl : ∀ i e, es[i]? = some e → i < p → (e.k.getD n 0 - t) < 0) (hr : ∀ i e, es[i]? = some e → p ≤ i → 0 ≤ (e.k.getD n 0 - t)) :
    Calls Try.prog 70 #[.slice a es.length c, .int .i64 t, .func (.func 69) #[] #[.pointer (some ⟨nb, 0, none⟩)]] w fun r w' => r = .returned (.tuple #[.int .i64 (p : Int), .bool (decide ((es[p]?).map (fun e => e.k.getD n 0) = some t))]) ∧ Below w.heap.size w w' := by
  have hn := h.1
  obtain ⟨bb, hbb⟩ : ∃ bb : Bool, decide ((es[p]?).map (fun e => e.k.getD n 0) = some t) = bb := ⟨_, rfl⟩
  rw [hbb]
  have HBB := hide hbb
  clear hbb
  have H := hide h
  have KN := hide hkn
  have BX := hide hbx
  have L := hide hl
  have R := hide hr
  clear h hl hr hkn hbx
  go_enter Try.func70, Try.ntmps70
  go_wp2_with fail
  go_loopw [9, 10] (fun vi vj wr => ∃ i j : Nat, vi = .int .i64 i ∧ vj = .int .i64 j ∧ i ≤ p ∧ p ≤ j ∧ j ≤ es.length ∧ Below w.heap.size w wr) (fun vi vj _ => (intOf vj - intOf vi).toNat)
  case atStart => exact ⟨0, es.length, rfl, rfl, by omega, by omega, by omega, Below.refl _ _⟩
  case round =>
    obtain ⟨i, j, rfl, rfl, hi, hj, hjl, hb⟩ := hrel
    have F := hide hb
    clear hb
    have eg : ∀ args w, (callFunc 69 args).run Try.prog w = .ok (.enter 69 args) w := enters_of Try.func69 (by kernel_rfl) rfl
    by_cases hij : i < j
    · have hm := mid_le i j hij
      have hml : (i + j) / 2 < es.length := by omega
      obtain ⟨e, he⟩ : ∃ e, es[(i + j) / 2]? = some e := ⟨es[(i + j) / 2], List.getElem?_eq_getElem hml⟩
      have hmem := List.mem_of_getElem? he
      obtain ⟨b, off, rfl, c0, c1⟩ := (H.out.below F.out (Nat.le_refl _)).cells he
      have C := hide (byByte_any e t n nb wr ((H.out.2.1 e hmem).1.below F.out (Nat.le_refl _)) (KN.out e hmem) (BX.out.below F.out BX.out.lt) ht)
      have hx := ((H.out.2.1 e hmem).1.1).getD n
      have hL := L.out _ e he
      have hR := R.out _ e he
      clear he hmem
      generalize e.k.getD n 0 = x at *
      have hpm : (x - t < 0 → (i + j) / 2 < p) ∧ (¬ x - t < 0 → p ≤ (i + j) / 2) := by
        constructor
        · intro h
          rcases Nat.lt_or_ge ((i + j) / 2) p with h1 | h1
          · exact h1
          · have := hR h1; omega
        · intro h
          rcases Nat.lt_or_ge ((i + j) / 2) p with h1 | h1
          · exact absurd (hL h1) h
          · exact h1
      clear hL hR
      go_wp2_with fail
      refine C.out.mono ?_
      rintro r w2 ⟨rfl, f2⟩
      have F2 := hide (F.out.trans (f2.mono F.out.size))
      clear f2 c0 c1 C
      by_cases hlt : x - t < 0
      · have hq := hpm.1 hlt
        clear hpm
        go_wp2
        go_roundw
        case rel => exact ⟨(i + j) / 2 + 1, j, by go_num, rfl, by omega, hj, hjl, F2.out⟩
        case measure => simp [intOf]; omega
      · have hq := hpm.2 (by omega)
        clear hpm
        go_wp2
        go_roundw
        case rel => exact ⟨i, (i + j) / 2, rfl, by go_num, hi, hq, by omega, F2.out⟩
        case measure => simp [intOf]; omega
    · obtain rfl : i = p := by omega
      obtain rfl : j = i := by omega
      clear hi hj
      rcases Nat.lt_or_ge j es.length with hpl | hpl
      · obtain ⟨e, he⟩ : ∃ e, es[j]? = some e := ⟨es[j], List.getElem?_eq_getElem (by omega)⟩
        have hmem := List.mem_of_getElem? he
        obtain ⟨b, off, rfl, c0, c1⟩ := (H.out.below F.out (Nat.le_refl _)).cells he
        have C := hide (byByte_any e t n nb wr ((H.out.2.1 e hmem).1.below F.out (Nat.le_refl _)) (KN.out e hmem) (BX.out.below F.out BX.out.lt) ht)
        have hx := ((H.out.2.1 e hmem).1.1).getD n
        have hfin : Hid ((e.k.getD n 0 - t == 0) = decide ((es[j]?).map (fun e => e.k.getD n 0) = some t)) := by
          show _ = _
          rw [he, Bool.eq_iff_iff]
          simp
          omega
        clear he hmem
        generalize e.k.getD n 0 = x at C hx hfin
        go_wp2_with fail
        refine C.out.mono ?_
        rintro r w2 ⟨rfl, f2⟩
        have F2 := hide (F.out.trans (f2.mono F.out.size))
        clear f2 c0 c1 C
        go_wp2
        go_ret2
        refine ⟨?_, F2.out⟩
        rw [← HBB.out, ← hfin.out]
        rfl
      · have hfin : Hid (decide ((es[j]?).map (fun e => e.k.getD n 0) = some t) = false) := by
          show _ = _
          rw [List.getElem?_eq_none hpl]
          simp
        have hd : decide (j < es.length) = false := by simp; omega
        have hd2 : ¬ (j : Int) < (es.length : Int) := by omega
        go_wp2
        go_ret2
        refine ⟨?_, F.out⟩
        rw [← HBB.out, hfin.out]
        rfl
end Go.Proofs.Ytahlbebkcoofkaa
