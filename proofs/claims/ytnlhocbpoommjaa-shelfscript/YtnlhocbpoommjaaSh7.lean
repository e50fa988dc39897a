/- A shelf: how it stands in memory; Find, Len, At. -/
import Derived.Test.YtnlhocbpoommjaaMd8
namespace Go.Proofs.Ytnlhocbpoommjaa.Sh
open Go.RowKit Go.Sort Go.Proofs.Ytnlhocbpoommjaa
set_option linter.unusedVariables false
set_option maxRecDepth 20000

structure MdF (g : Nat) (ps : List KV) (K : Nat → Prop) (w : World) (F : Nat → Prop) (v : Value) (es : List Ent) : Prop where
  fk : ∀ k, F k → ¬ K k ∧ k < w.heap.size
  kl : ∀ k, K k → k < w.heap.size
  fg : F g
  hd : Blk w g 92 [v]
  row : w.ownsRow 0 54 2 v es.length (flat Ent.cells es)
  fr : ∀ k, v.ownBlock = some k → F k
  ks : ∀ e ∈ es, Bd (fun k => F k ∧ k ≠ g ∧ v.ownBlock ≠ some k) w e.a e.k ∧ e.k.length ≤ 65535 ∧ 0 ≤ e.v ∧ e.v ≤ 18446744073709551615
  kv : es.map Ent.kv = ps
  up : Ups ps
  ln : es.length ≤ 1000000
  cs : ∀ e ∈ es, e.c = e.k.length
/-- A map of these pairs, at block g. -/
def Md (g : Nat) (ps : List KV) : Shape := fun K w => ∃ F v es, MdF g ps K w F v es
theorem Md.lies (g : Nat) (ps : List KV) : Lies (Md g ps) := by
  rintro K w ⟨F, v, es, h⟩
  refine ⟨h.kl, F, h.fk, fun w' K' hs hk => ⟨F, v, es, ?_⟩⟩
  have lt' : ∀ k, F k → k < w'.heap.size := fun k hk => by
    have e := hs k hk
    have l := (h.fk k hk).2
    rw [Array.getElem?_eq_getElem l] at e
    exact (Array.getElem?_eq_some_iff.1 e).1
  refine ⟨fun k hf => ⟨fun hK => (hk k hK).1 hf, lt' k hf⟩, fun k hK => (hk k hK).2, h.fg, (hs g h.fg).trans h.hd, owns_same h.row (fun k hk => hs k (h.fr k hk)), h.fr, fun e he => ⟨?_, (h.ks e he).2⟩, h.kv, h.up, h.ln, h.cs⟩
  exact (h.ks e he).1.move (fun b hb _ => ⟨hs b hb.1, hb⟩)
theorem MdF.rp {g : Nat} {ps : List KV} {K : Nat → Prop} {w : World} {F : Nat → Prop} {v : Value} {es : List Ent} (h : MdF g ps K w F v es) : ∃ a c, v = .slice a es.length c ∧ Rp w a es :=
  owns_rp h.row (fun e he => ⟨(h.ks e he).1.1, (h.ks e he).2.2⟩) h.ln
theorem MdF.len {g : Nat} {ps : List KV} {K : Nat → Prop} {w : World} {F : Nat → Prop} {v : Value} {es : List Ent} (h : MdF g ps K w F v es) : ps.length = es.length := by rw [← h.kv]; simp
theorem MdF.at {g : Nat} {ps : List KV} {K : Nat → Prop} {w : World} {F : Nat → Prop} {v : Value} {es : List Ent} (h : MdF g ps K w F v es) (i : Nat) : ps[i]? = (es[i]?).map Ent.kv := by rw [← h.kv]; simp

set_option maxHeartbeats 400000 in
theorem rising_nil (w : World) : Calls Try.prog 76 #[.pointer none] w fun r w' => r = .returned (.slice none 0 0) ∧ w' = w := by
  go_enter Try.func76, Try.ntmps76
  go_wp2
  go_ret
  exact ⟨rfl, rfl⟩
set_option maxHeartbeats 400000 in
theorem rising_any (g : Nat) (a : Option Addr) (n c : Nat) (w : World) (h : Blk w g 92 [.slice a n c]) : Calls Try.prog 76 #[.pointer (some ⟨g, 0, none⟩)] w fun r w' => r = .returned (.slice a n c) ∧ w' = w := by
  have c0 := h.cell 0
  simp only [List.getElem?_cons_zero] at c0
  clear h
  go_enter Try.func76, Try.ntmps76
  go_wp2
  go_ret
  exact ⟨rfl, rfl⟩

set_option maxHeartbeats 400000 in
theorem place_nil (ka : Option Addr) (kc : Nat) (k : List Int) (w : World) (ht : Rd w ka k) : Calls Try.prog 42 #[.pointer none, .slice ka k.length kc] w fun r w' => r = .returned (.tuple #[.int .i64 0, .bool false]) ∧ Below w.heap.size w w' := by
  have R := hide (rising_nil w)
  have S := hide (search_rank [] none 0 ka kc k w ⟨by simp, by simp, .inl rfl⟩ ht List.Pairwise.nil)
  clear ht
  go_enter Try.func42, Try.ntmps42
  go_wp2_with fail
  refine R.out.mono ?_
  rintro e w1 ⟨rfl, hw⟩
  subst hw
  go_wp2_with fail
  refine S.out.mono ?_
  rintro e w2 ⟨rfl, f⟩
  have F := hide f
  clear f
  go_wp2
  go_ret2
  exact ⟨rfl, F.out⟩
set_option maxHeartbeats 400000 in
theorem place_any {g : Nat} {ps : List KV} {K : Nat → Prop} (ka : Option Addr) (kc : Nat) (k : List Int) (w : World) (h : Md g ps K w) (ht : Rd w ka k) :
    Calls Try.prog 42 #[.pointer (some ⟨g, 0, none⟩), .slice ka k.length kc] w fun r w' => r = .returned (.tuple #[.int .i64 (rankM k ps : Nat), .bool (isIn k ps)]) ∧ Below w.heap.size w w' := by
  obtain ⟨F, v, es, h⟩ := h
  obtain ⟨a, c, rfl, hr⟩ := h.rp
  have R := hide (rising_any g a es.length c w h.hd)
  have hu := h.up
  rw [← h.kv] at hu ⊢
  have S := hide (search_rank es a c ka kc k w hr ht hu)
  generalize rankM k (es.map Ent.kv) = rk at S ⊢
  generalize isIn k (es.map Ent.kv) = ii at S ⊢
  clear ht h hr hu
  go_enter Try.func42, Try.ntmps42
  go_wp2_with fail
  refine R.out.mono ?_
  rintro e w1 ⟨rfl, hw⟩
  subst hw
  go_wp2_with fail
  refine S.out.mono ?_
  rintro e w2 ⟨rfl, f⟩
  have F := hide f
  clear f
  go_wp2
  go_ret2
  exact ⟨rfl, F.out⟩

set_option maxHeartbeats 400000 in
theorem len_nil (w : World) : Calls Try.prog 48 #[.pointer none] w fun r w' => r = .returned (.int .i64 0) ∧ w' = w := by
  have R := hide (rising_nil w)
  go_enter Try.func48, Try.ntmps48
  go_wp2_with fail
  refine R.out.mono ?_
  rintro e w1 ⟨rfl, hw⟩
  subst hw
  go_wp2
  go_ret
  exact ⟨rfl, rfl⟩
set_option maxHeartbeats 400000 in
theorem len_any {g : Nat} {ps : List KV} {K : Nat → Prop} (w : World) (h : Md g ps K w) : Calls Try.prog 48 #[.pointer (some ⟨g, 0, none⟩)] w fun r w' => r = .returned (.int .i64 (ps.length : Nat)) ∧ w' = w := by
  obtain ⟨F, v, es, h⟩ := h
  obtain ⟨a, c, rfl, hr⟩ := h.rp
  have R := hide (rising_any g a es.length c w h.hd)
  rw [h.len]
  clear h hr
  go_enter Try.func48, Try.ntmps48
  go_wp2_with fail
  refine R.out.mono ?_
  rintro e w1 ⟨rfl, hw⟩
  subst hw
  go_wp2
  go_ret
  exact ⟨rfl, rfl⟩
/-- The n-th pair's cells. -/
theorem MdF.cells {g : Nat} {ps : List KV} {K : Nat → Prop} {w : World} {F : Nat → Prop} {v : Value} {es : List Ent} (h : MdF g ps K w F v es) {i : Nat} {p : KV} (hp : ps[i]? = some p) :
    ∃ b c e, v = .slice (some ⟨b, 0, none⟩) es.length c ∧ es[i]? = some e ∧ e.kv = p ∧ i < es.length ∧ w.cell? ⟨b, i * 2, none⟩ = some (.slice e.a e.k.length e.c) ∧ w.cell? ⟨b, i * 2 + 1, none⟩ = some (.int .u64 e.v) := by
  rw [h.at] at hp
  obtain ⟨e, he, hk⟩ := Option.map_eq_some_iff.1 hp
  obtain ⟨a, c, rfl, hr⟩ := h.rp
  have hi := (List.getElem?_eq_some_iff.1 he).1
  obtain ⟨b, cap, e2⟩ := owns_slice h.row (by omega)
  simp only [Value.slice.injEq] at e2
  obtain ⟨rfl, -, rfl⟩ := e2
  obtain ⟨b', off, ea, c0, c1⟩ := hr.cells he
  simp only [Option.some.injEq, Addr.mk.injEq] at ea
  obtain ⟨rfl, rfl, -⟩ := ea
  rw [Nat.zero_add] at c0 c1
  exact ⟨b, c, e, rfl, he, hk, hi, c0, c1⟩
set_option maxHeartbeats 1000000 in
theorem select_any {g : Nat} {ps : List KV} {K : Nat → Prop} (i : Int) (w : World) (h : Md g ps K w) (h0 : -9223372036854775808 ≤ i) (h1 : i ≤ 9223372036854775807) :
    Calls Try.prog 46 #[.pointer (some ⟨g, 0, none⟩), .int .i64 i] w fun r w' => Ans w w' (selM i ps) r := by
  have hl2 : ps.length ≤ 1000000 := by obtain ⟨F, v, es, h⟩ := h; rw [h.len]; exact h.ln
  have f0 : Below w.heap.size w (w.alloc (boxP none 0 0 0)) := (Below.refl _ w).alloc (Nat.le_refl _) _
  have x0 : Blk (w.alloc (boxP none 0 0 0)) w.heap.size 54 [.slice none 0 0, .int .u64 0] := Blk.new w _ _ _ rfl
  have hm := (Md.lies g ps).below h f0
  unfold boxP at f0 x0 hm
  generalize hw0 : (w.alloc (.cells #[.slice none 0 0, .int .u64 0] 54 (0, 0))) = w0 at f0 x0 hm
  by_cases hi : 0 ≤ i ∧ i < ps.length
  · obtain ⟨n, rfl⟩ : ∃ n : Nat, i = (n : Int) := ⟨i.toNat, by omega⟩
    obtain ⟨p, hp⟩ : ∃ p, ps[n]? = some p := ⟨ps[n]'(by omega), List.getElem?_eq_getElem (by omega)⟩
    have hv : Hid (selM (n : Int) ps = some p) := by
      show _ = _
      unfold selM
      rw [if_neg (by omega)]
      simpa using hp
    have HL := hide (len_any w0 hm)
    obtain ⟨F, v, es, h'⟩ := hm
    obtain ⟨b, c, e, rfl, he, hk, hil, c0, c1⟩ := h'.cells hp
    have d0 := h'.hd.cell 0
    simp only [List.getElem?_cons_zero] at d0
    have hme := List.mem_of_getElem? he
    have hks := h'.ks e hme
    have C := fun w' (f : Below w0.heap.size w0 w') => copied_any e w' (hks.1.1.below f (Nat.le_refl _)) (by omega)
    have HC := hide C
    have hd : decide ((n : Int) < 0) = false := by simp
    have hlt : n < ps.length := by omega
    have F0 := hide f0
    have X0 := hide x0
    have HS : Hid (w0.heap.size = w.heap.size + 1) := by show _ = _; rw [← hw0]; simp
    have HKV := hide hk
    have hln := h'.ln
    have HIB := hide hks.1.1.1
    have HKL : Hid (e.k.length ≤ 65535) := hks.2.1
    clear h' hks hme C h hp he hi hk f0 x0
    go_enter Try.func46, Try.ntmps46
    go_wp2_with fail
    refine HL.out.mono ?_
    rintro r w1 ⟨rfl, hw⟩
    subst hw
    go_wp2_with fail
    refine (HC.out _ (Below.refl _ _)).mono ?_
    rintro r w2 ⟨q, hq, rfl, b2, f2⟩
    have x2 := X0.out.below f2 X0.out.lt
    have k0 := x2.cell 0
    have k1 := x2.cell 1
    have k2 := x2.frozen 0
    have k3 := x2.frozen 1
    have B2 := hide b2
    have F2 := hide f2
    have X2 := hide x2
    simp only [List.getElem?_cons_zero, List.getElem?_cons_succ] at k0 k1
    clear b2 f2 x2
    go_wp2_with fail
    have hb := X2.out.pair (x' := .slice (some ⟨q, 0, none⟩) e.k.length e.k.length) (y' := .int .u64 e.v)
    refine bodyPost_ret (results_pair2 rfl _ _ w.heap.size _ _ rfl hb) rfl ?_
    have hs := HS.out
    have hsz := X0.out.lt
    have ek := congrArg Prod.fst HKV.out
    have ev := congrArg Prod.snd HKV.out
    rw [hv.out]
    have hkl := HKL.out
    refine ⟨some ⟨q, 0, none⟩, e.k.length, ?_, ?_, ?_, ?_⟩
    · show _ = Ending.returned (.tuple #[.agg #[.slice (some ⟨q, 0, none⟩) p.1.length e.k.length, .int .u64 p.2], .bool true])
      rw [← ek, ← ev]
      rfl
    · show World.ownsRow _ _ _ _ (.slice (some ⟨q, 0, none⟩) p.1.length e.k.length) p.1.length (u8s p.1)
      rw [← ek]
      have hblk := (Below.heap_setCell (w2.setCell ⟨w.heap.size, 0, none⟩ (.slice (some ⟨q, 0, none⟩) e.k.length e.k.length)) ⟨w.heap.size, 1, none⟩ (.int .u64 e.v) q (by show _ ≠ w.heap.size; omega)).trans ((Below.heap_setCell w2 ⟨w.heap.size, 0, none⟩ (.slice (some ⟨q, 0, none⟩) e.k.length e.k.length) q (by show _ ≠ w.heap.size; omega)).trans B2.out)
      have ho := blk_owns (base := w.heap.size) (n := e.k.length) hblk (by omega) (by simp [u8s]) (by simp [u8s, maxLen]; omega)
      rw [u8s_length, List.take_of_length_le (by simp [u8s])] at ho
      exact ho
    · show IsBytes p.1
      rw [← ek]; exact HIB.out
    · have f := (F0.out.trans (F2.out.mono (by omega)))
      exact (f.setCell (by show _ ≤ w.heap.size; omega) _).setCell (by show _ ≤ w.heap.size; omega) _
  · have hv : Hid (selM i ps = none) := by
      show _ = _
      unfold selM
      by_cases h2 : i < 0
      · rw [if_pos h2]
      · rw [if_neg h2]
        exact List.getElem?_eq_none (by omega)
    have HL := hide (len_any w0 hm)
    have F0 := hide f0
    have X0 := hide x0
    have k0 := x0.cell 0
    have k1 := x0.cell 1
    have k2 := x0.frozen 0
    have k3 := x0.frozen 1
    simp only [List.getElem?_cons_zero, List.getElem?_cons_succ] at k0 k1
    clear hm f0 x0 h
    by_cases h2 : i < 0
    · have hd : decide (i < 0) = true := by simpa using h2
      go_enter Try.func46, Try.ntmps46
      go_wp2_with fail
      have hb := X0.out.pair (x' := .slice none 0 0) (y' := .int .u64 0)
      refine bodyPost_ret (results_pair2 rfl _ _ w.heap.size _ _ rfl hb) rfl ?_
      rw [hv.out]
      exact ans_none _ _ ((F0.out.setCell (by show _ ≤ w.heap.size; omega) _).setCell (by show _ ≤ w.heap.size; omega) _)
    · have hd : decide (i < 0) = false := by simpa using h2
      have hge : (ps.length : Int) ≤ i := by omega
      go_enter Try.func46, Try.ntmps46
      go_wp2_with fail
      refine HL.out.mono ?_
      rintro r w1 ⟨rfl, hw⟩
      subst hw
      go_wp2_with fail
      have hb := X0.out.pair (x' := .slice none 0 0) (y' := .int .u64 0)
      refine bodyPost_ret (results_pair2 rfl _ _ w.heap.size _ _ rfl hb) rfl ?_
      rw [hv.out]
      exact ans_none _ _ ((F0.out.setCell (by show _ ≤ w.heap.size; omega) _).setCell (by show _ ≤ w.heap.size; omega) _)
set_option maxHeartbeats 1000000 in
theorem select_nil (i : Int) (w : World) (h0 : -9223372036854775808 ≤ i) (h1 : i ≤ 9223372036854775807) :
    Calls Try.prog 46 #[.pointer none, .int .i64 i] w fun r w' => Ans w w' none r := by
  have f0 : Below w.heap.size w (w.alloc (boxP none 0 0 0)) := (Below.refl _ w).alloc (Nat.le_refl _) _
  have x0 : Blk (w.alloc (boxP none 0 0 0)) w.heap.size 54 [.slice none 0 0, .int .u64 0] := Blk.new w _ _ _ rfl
  unfold boxP at f0 x0
  generalize hw0 : (w.alloc (.cells #[.slice none 0 0, .int .u64 0] 54 (0, 0))) = w0 at f0 x0
  have HL := hide (len_nil w0)
  have F0 := hide f0
  have X0 := hide x0
  have k0 := x0.cell 0
  have k1 := x0.cell 1
  have k2 := x0.frozen 0
  have k3 := x0.frozen 1
  simp only [List.getElem?_cons_zero, List.getElem?_cons_succ] at k0 k1
  clear f0 x0
  by_cases h2 : i < 0
  · have hd : decide (i < 0) = true := by simpa using h2
    go_enter Try.func46, Try.ntmps46
    go_wp2_with fail
    have hb := X0.out.pair (x' := .slice none 0 0) (y' := .int .u64 0)
    refine bodyPost_ret (results_pair2 rfl _ _ w.heap.size _ _ rfl hb) rfl ?_
    exact ans_none _ _ ((F0.out.setCell (by show _ ≤ w.heap.size; omega) _).setCell (by show _ ≤ w.heap.size; omega) _)
  · have hd : decide (i < 0) = false := by simpa using h2
    have hge : 0 ≤ i := by omega
    go_enter Try.func46, Try.ntmps46
    go_wp2_with fail
    refine HL.out.mono ?_
    rintro r w1 ⟨rfl, hw⟩
    subst hw
    go_wp2_with fail
    have hb := X0.out.pair (x' := .slice none 0 0) (y' := .int .u64 0)
    refine bodyPost_ret (results_pair2 rfl _ _ w.heap.size _ _ rfl hb) rfl ?_
    exact ans_none _ _ ((F0.out.setCell (by show _ ≤ w.heap.size; omega) _).setCell (by show _ ≤ w.heap.size; omega) _)

theorem MdF.small {g : Nat} {ps : List KV} {K : Nat → Prop} {w : World} (h : Md g ps K w) : ps.length ≤ 1000000 := by obtain ⟨F, v, es, h⟩ := h; rw [h.len]; exact h.ln
end Go.Proofs.Ytnlhocbpoommjaa.Sh
