/- The document's map: Select, Floor, Ceil, Get. -/
import Derived.Test.YtahlbebkcoofkaaRf8
namespace Go.Proofs.Ytahlbebkcoofkaa.Rf
open Go.RowKit Go.Sort Go.Proofs.Ytahlbebkcoofkaa
set_option linter.unusedVariables false
set_option linter.unusedSimpArgs false
set_option maxRecDepth 20000


set_option maxHeartbeats 1000000 in
theorem get_any {g : Nat} {ps : List KV} {K : Nat → Prop} (ka : Option Addr) (kc : Nat) (k : List Int) (w : World) (h : Md g ps K w) (ht : Rd w ka k) :
    Calls Try.prog 52 #[.pointer (some ⟨g, 0, none⟩), .slice ka k.length kc] w fun r w' => r = .returned (.tuple #[.int .u64 (valO (findM k ps)), .bool (isIn k ps)]) ∧ Below w.heap.size w w' := by
  have S := hide (find_any ka kc k w h ht)
  cases hi : isIn k ps with
  | true =>
    obtain ⟨u, hu⟩ := isIn_true hi
    have hv : Hid (valO (findM k ps) = u) := by show _ = _; unfold findM; rw [if_pos hi, hu]; rfl
    rw [hi] at S
    obtain ⟨F0, v, es, h⟩ := h
    obtain ⟨b, c, e, rfl, he, hk, hil, c0, c1⟩ := h.cells hu
    have hev : e.v = u := congrArg Prod.snd hk
    rw [hev] at c1
    have hd := h.hd
    have hgl := hd.lt
    have hbl := World.block_lt_of_cell? w _ c1
    have d0 := fun w' (f : Below w.heap.size w w') => (hd.below f hgl).cell 0
    have d1 := fun w' (f : Below w.heap.size w w') => (f.cell (p := ⟨b, rankM k ps * 2 + 1, none⟩) hbl).trans c1
    have D0 := hide d0
    have D1 := hide d1
    have hln := h.ln
    generalize rankM k ps = rk at S hil D1
    clear ht h hu he hk hev hd c0 c1 d0 d1 hi
    go_enter Try.func52, Try.ntmps52
    go_wp2_with fail
    refine S.out.mono ?_
    rintro e w2 ⟨rfl, f⟩
    have F := hide f
    have e0 := D0.out _ f
    have e1 := D1.out _ f
    simp only [List.getElem?_cons_zero] at e0
    clear f
    go_wp2
    go_ret2
    refine ⟨?_, F.out⟩
    rw [hv.out]
    rfl
  | false =>
    have hv : Hid (valO (findM k ps) = 0) := by show _ = _; unfold findM; rw [hi]; rfl
    rw [hi] at S
    generalize rankM k ps = rk at S
    clear ht h hi
    go_enter Try.func52, Try.ntmps52
    go_wp2_with fail
    refine S.out.mono ?_
    rintro e w2 ⟨rfl, f⟩
    have F := hide f
    clear f
    go_wp2
    go_ret2
    refine ⟨?_, F.out⟩
    rw [hv.out]
    rfl
set_option maxHeartbeats 1000000 in
theorem select_any {g : Nat} {ps : List KV} {K : Nat → Prop} (i : Int) (w : World) (h : Md g ps K w) (h0 : -9223372036854775808 ≤ i) (h1 : i ≤ 9223372036854775807) :
    Calls Try.prog 51 #[.pointer (some ⟨g, 0, none⟩), .int .i64 i] w fun r w' => Ans w w' (selM i ps) r := by
  have hl2 : ps.length ≤ 1000000 := by obtain ⟨F, v, es, h⟩ := h; rw [h.len]; exact h.ln
  have f0 : Below w.heap.size w (w.alloc (boxP none 0 0 0)) := (Below.refl _ w).alloc (Nat.le_refl _) _
  have x0 : Blk (w.alloc (boxP none 0 0 0)) w.heap.size 54 [.slice none 0 0, .int .u64 0] := Blk.new w _ _ _ rfl
  have hm := (Md.lies g ps).below h f0
  unfold boxP at f0 x0 hm
  generalize hw0 : (w.alloc (.cells #[.slice none 0 0, .int .u64 0] 54 (0, 0))) = w0 at f0 x0 hm
  have HS : Hid (w0.heap.size = w.heap.size + 1) := by show _ = _; rw [← hw0]; simp
  by_cases hi : 0 ≤ i ∧ i < ps.length
  · obtain ⟨n, rfl⟩ : ∃ n : Nat, i = (n : Int) := ⟨i.toNat, by omega⟩
    obtain ⟨p, hp⟩ : ∃ p, ps[n]? = some p := ⟨ps[n]'(by omega), List.getElem?_eq_getElem (by omega)⟩
    have hv : Hid (selM (n : Int) ps = some p) := by
      show _ = _
      unfold selM
      rw [if_neg (by omega)]
      simpa using hp
    obtain ⟨F, v, es, h'⟩ := hm
    obtain ⟨b, c, e, rfl, he, hk, hil, c0, c1⟩ := h'.cells hp
    have d0 := h'.hd.cell 0
    simp only [List.getElem?_cons_zero] at d0
    have hme := List.mem_of_getElem? he
    have hks := h'.ks e hme
    have C := pair_any e w0 hks.1.1 (by omega)
    have HC := hide C
    have hd : decide ((n : Int) < 0) = false := by simp
    have hge : decide ((es.length : Int) ≤ (n : Int)) = false := by simp; omega
    have F0 := hide f0
    have X0 := hide x0
    have HKV := hide hk
    have hln := h'.ln
    clear h' hks hme C h hp he hi hk f0 x0
    go_enter Try.func51, Try.ntmps51
    go_wp2_with fail
    refine HC.out.mono ?_
    rintro r w2 ⟨a2, c2, rfl, o2, b2, f2⟩
    rw [HKV.out] at o2 b2 ⊢
    have x2 := X0.out.below f2 X0.out.lt
    have k0 := x2.cell 0
    have k1 := x2.cell 1
    have k2 := x2.frozen 0
    have k3 := x2.frozen 1
    have O2 := hide o2
    have B2 := hide b2
    have F2 := hide (F0.out.trans (f2.mono F0.out.size))
    have X2 := hide x2
    simp only [List.getElem?_cons_zero, List.getElem?_cons_succ] at k0 k1
    clear o2 b2 f2 x2
    go_wp2_with fail
    have hb := X2.out.pair (x' := .slice a2 p.1.length c2) (y' := .int .u64 p.2)
    refine bodyPost_ret (results_pair2 rfl _ _ w.heap.size _ _ rfl hb) rfl ?_
    rw [hv.out]
    exact ans_box (w1 := w0) _ _ rfl rfl rfl O2.out B2.out F2.out (by have := HS.out; omega)
  · have hv : Hid (selM i ps = none) := by
      show _ = _
      unfold selM
      by_cases h2 : i < 0
      · rw [if_pos h2]
      · rw [if_neg h2]
        exact List.getElem?_eq_none (by omega)
    obtain ⟨F, v, es, h'⟩ := hm
    obtain ⟨a, c, rfl, hr⟩ := h'.rp
    have hle := h'.len
    rw [hle] at hi
    have d0 := h'.hd.cell 0
    simp only [List.getElem?_cons_zero] at d0
    have hln := h'.ln
    have F0 := hide f0
    have X0 := hide x0
    have k0 := x0.cell 0
    have k1 := x0.cell 1
    have k2 := x0.frozen 0
    have k3 := x0.frozen 1
    simp only [List.getElem?_cons_zero, List.getElem?_cons_succ] at k0 k1
    clear h' hr f0 x0 h hle hl2
    by_cases h2 : i < 0
    · have hd : decide (i < 0) = true := by simpa using h2
      clear hi
      go_enter Try.func51, Try.ntmps51
      go_wp2_with fail
      have hb := X0.out.pair (x' := .slice none 0 0) (y' := .int .u64 0)
      refine bodyPost_ret (results_pair2 rfl _ _ w.heap.size _ _ rfl hb) rfl ?_
      rw [hv.out]
      exact ans_none _ _ ((F0.out.setCell (by show _ ≤ w.heap.size; omega) _).setCell (by show _ ≤ w.heap.size; omega) _)
    · have hd : decide (i < 0) = false := by simpa using h2
      have hge : decide ((es.length : Int) ≤ i) = true := by simp; omega
      have hge' : (es.length : Int) ≤ i := by omega
      clear hi
      go_enter Try.func51, Try.ntmps51
      go_wp2_with fail
      have hb := X0.out.pair (x' := .slice none 0 0) (y' := .int .u64 0)
      refine bodyPost_ret (results_pair2 rfl _ _ w.heap.size _ _ rfl hb) rfl ?_
      rw [hv.out]
      exact ans_none _ _ ((F0.out.setCell (by show _ ≤ w.heap.size; omega) _).setCell (by show _ ≤ w.heap.size; omega) _)
end Go.Proofs.Ytahlbebkcoofkaa.Rf
