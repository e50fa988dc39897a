/- The document's map: Find, Get, Pair, Select, Floor, Ceil. -/
import Derived.Test.YtahlbebkcoofkaaRf7
import Derived.Test.YtahlbebkcoofkaaNw8
namespace Go.Proofs.Ytahlbebkcoofkaa.Rf
open Go.RowKit Go.Sort Go.Proofs.Ytahlbebkcoofkaa
set_option linter.unusedVariables false
set_option linter.unusedSimpArgs false
set_option maxRecDepth 20000


/-- append([]byte(nil), bytes...). -/
theorem clone_u8 {w : World} {a : Option Addr} {xs : List Int} (h : Rd w a xs) (c : Nat) (hl : xs.length ≤ 1000000) :
    ∃ a' c' w', (Builtin.append_ #[24, 24] 24 #[.slice none 0 0, .slice a xs.length c]).run Try.prog w = .ok (.slice a' xs.length c') w' ∧ w'.ownsRow w.heap.size 5 1 (.slice a' xs.length c') xs.length (u8s xs) ∧ Below w.heap.size w w' := by
  obtain ⟨v', w', r, o, gr, hb, _, _⟩ := append_u8 w 24 24 w.heap.size (.slice none 0 0) 0 [] (World.ownsRow_nil w w.heap.size _ 1) _ xs.length _ (h.src Try.underlying24 c) (by omega) (Nat.le_refl _)
  rw [Nat.zero_add, List.nil_append] at o
  obtain ⟨a', c', rfl⟩ := owns_slice' o
  exact ⟨a', c', w', r, o, (Below.refl _ w).grown gr (Nat.le_refl _) (by simp [Value.ownBlock])⟩
theorem owns_down {w : World} {base base' : Nat} {e : TypeId} {size : Nat} {v : Value} {n : Nat} {xs : List Value} (h : w.ownsRow base e size v n xs) (hb : base' ≤ base) : w.ownsRow base' e size v n xs := by
  refine ⟨h.1, ?_⟩
  rcases h.2 with hn | ⟨g, cap, cur, h1, h2, h3⟩
  · exact .inl hn
  · exact .inr ⟨g, cap, cur, h1, by omega, h3⟩
/-- A pair that is answered alone, its key in memory of its own. -/
def AnsP (w w' : World) (p : KV) (r : Ending) : Prop := ∃ a c, r = .returned (.agg #[.slice a p.1.length c, .int .u64 p.2]) ∧ w'.ownsRow w.heap.size 5 1 (.slice a p.1.length c) p.1.length (u8s p.1) ∧ IsBytes p.1 ∧ Below w.heap.size w w'
set_option maxHeartbeats 1000000 in
theorem find_any {g : Nat} {ps : List KV} {K : Nat → Prop} (ka : Option Addr) (kc : Nat) (k : List Int) (w : World) (h : Md g ps K w) (ht : Rd w ka k) :
    Calls Try.prog 44 #[.pointer (some ⟨g, 0, none⟩), .slice ka k.length kc] w fun r w' => r = .returned (.tuple #[.int .i64 (rankM k ps : Nat), .bool (isIn k ps)]) ∧ Below w.heap.size w w' := by
  have R := hide (rank_any ka kc k w h ht)
  have hrl := rank_le k ps
  obtain ⟨F, v, es, h⟩ := h
  obtain ⟨a, c, rfl, hr⟩ := h.rp
  have hii : Hid (∀ e, es[rankM k ps]? = some e → isIn k ps = decide (e.k = k)) := fun e he => by
    unfold isIn
    rw [h.at, he]
    simp [Ent.kv]
  have hio : Hid (es[rankM k ps]? = none → isIn k ps = false) := fun he => by
    unfold isIn
    rw [h.at, he]
    simp
  rw [h.len] at hrl
  have HD := hide h.hd
  have HR := hide hr
  have HT := hide ht
  have hln := h.ln
  generalize rankM k ps = rk at R hrl hii hio ⊢
  generalize isIn k ps = ii at hii hio ⊢
  clear h hr ht
  go_enter Try.func44, Try.ntmps44
  go_wp2_with fail
  refine R.out.mono ?_
  rintro r w1 ⟨rfl, f1⟩
  have F := hide f1
  clear f1 R
  have d0 := (HD.out.below F.out HD.out.lt).cell 0
  simp only [List.getElem?_cons_zero] at d0
  by_cases hin : rk < es.length
  · obtain ⟨e, he⟩ : ∃ e, es[rk]? = some e := ⟨es[rk], List.getElem?_eq_getElem hin⟩
    have hr := HR.out.below F.out (Nat.le_refl _)
    obtain ⟨b, off, rfl, c0, c1⟩ := hr.cells he
    have hrd := (hr.2.1 e (List.mem_of_getElem? he)).1
    have htd := HT.out.below F.out (Nat.le_refl _)
    have k1 := fun m => conv_str (P := Try.prog) (src := 24) (dst := 9) Try.underlying24 Try.underlying5 Try.underlying9 (hrd.drewN m) e.c
    have k2 := fun m => conv_str (P := Try.prog) (src := 24) (dst := 9) Try.underlying24 Try.underlying5 Try.underlying9 (htd.drewN m) kc
    have l2 := strs_eq e.k k hrd.1 htd.1
    rw [← strNums_toList, ← strNums_toList, ← hii.out e he] at l2
    generalize strOfNums e.k = s at k1 l2
    generalize strOfNums k = t at k2 l2
    clear hr hrd htd he hii hio
    go_wp2_with fail
    go_quiet (fail)
    go_wp2
    go_ret2
    exact ⟨rfl, F.out.trans (Below.drewN' (Below.refl _ _) _ |>.mono F.out.size)⟩
  · have hi0 := hio.out (List.getElem?_eq_none (by omega))
    subst hi0
    obtain rfl : rk = es.length := by omega
    clear hii hio hin
    go_wp2_with fail
    go_quiet (fail)
    go_wp2
    go_ret2
    exact ⟨rfl, F.out.trans (Below.drewN' (Below.refl _ _) _ |>.mono F.out.size)⟩
set_option maxHeartbeats 1000000 in
theorem pair_any (e : Ent) (w : World) (he : Rd w e.a e.k) (hl : e.k.length ≤ 1000000) :
    Calls Try.prog 68 #[.agg #[.slice e.a e.k.length e.c, .int .u64 e.v]] w fun r w' => AnsP w w' e.kv r := by
  obtain ⟨ea, ec, ek, ev⟩ := e
  simp only [Ent.kv] at he hl ⊢
  have f0 : Below w.heap.size w ((w.alloc (boxP ea ek.length ec ev)).alloc (boxP none 0 0 0)) := ((Below.refl _ w).alloc (Nat.le_refl _) _).alloc (by simp) _
  have x0 : Blk ((w.alloc (boxP ea ek.length ec ev)).alloc (boxP none 0 0 0)) w.heap.size 54 [.slice ea ek.length ec, .int .u64 ev] := (Blk.new w _ _ _ rfl).alloc _
  have x1 : Blk ((w.alloc (boxP ea ek.length ec ev)).alloc (boxP none 0 0 0)) (w.heap.size + 1) 54 [.slice none 0 0, .int .u64 0] := by
    have h := Blk.new (w.alloc (boxP ea ek.length ec ev)) 54 [.slice none 0 0, .int .u64 0] _ rfl
    rwa [show (w.alloc (boxP ea ek.length ec ev)).heap.size = w.heap.size + 1 by simp] at h
  have hs0 : ((w.alloc (boxP ea ek.length ec ev)).alloc (boxP none 0 0 0)).heap.size = w.heap.size + 1 + 1 := by simp
  have h0 := he.below f0 (Nat.le_refl _)
  unfold boxP at f0 x0 x1 hs0 h0
  generalize hw0 : ((w.alloc (.cells #[.slice ea ek.length ec, .int .u64 ev] 54 (0, 0))).alloc (.cells #[.slice none 0 0, .int .u64 0] 54 (0, 0))) = w0 at f0 x0 x1 hs0 h0
  have c0 := x0.cell 0
  have c1 := x0.cell 1
  simp only [List.getElem?_cons_zero, List.getElem?_cons_succ] at c0 c1
  obtain ⟨a7, c7, w7, r7, o7, f7⟩ := clone_u8 h0.drew ec hl
  have f7' : Below w0.heap.size w0 w7 := ⟨f7.os, f7.tape, f7.output, f7.size, f7.block⟩
  have y0 := x0.below f7' x0.lt
  have y1 := x1.below f7' x1.lt
  have d0 : w0.drew.cell? ⟨w.heap.size, 0, none⟩ = some (.slice ea ek.length ec) := c0
  have d1 : w0.drew.cell? ⟨w.heap.size, 1, none⟩ = some (.int .u64 ev) := c1
  have k1 := y0.cell 1
  have m0 := y1.cell 0
  have m1 := y1.cell 1
  have z0 := y1.frozen 0
  have z1 := y1.frozen 1
  simp only [List.getElem?_cons_zero, List.getElem?_cons_succ] at k1 m0 m1
  have Y1 := hide y1
  have O7 := hide o7
  have F7 := hide (f0.trans (f7'.mono (by omega)))
  have HS := hide hs0
  have HB := hide he.1
  clear he h0 x0 x1 f0 hs0 y0 y1 o7 f7 f7' c0 c1
  go_enter Try.func68, Try.ntmps68
  go_wp2_with fail
  go_region_law (first
    | (refine step_append_run rfl _ _ _ _ rfl _ _ _ _ rfl rfl r7 ?_))
  all_goals
    go_wp2_with fail
    have hb := Y1.out.pair (x' := .slice a7 ek.length c7) (y' := .int .u64 ev)
    refine bodyPost_ret (results_pair rfl _ _ (w.heap.size + 1) _ _ rfl hb) rfl ?_
    have hs := HS.out
    refine ⟨a7, c7, rfl, ?_, HB.out, (F7.out.setCell (by show _ ≤ w.heap.size + 1; omega) _).setCell (by show _ ≤ w.heap.size + 1; omega) _⟩
    have o8 : ((w7.setCell ⟨w.heap.size + 1, 0, none⟩ (.slice a7 ek.length c7)).setCell ⟨w.heap.size + 1, 1, none⟩ (.int .u64 ev)).ownsRow w0.drew.heap.size 5 1 (.slice a7 ek.length c7) ek.length (u8s ek) := by
      refine owns_same O7.out (fun k hk => set2_other w7 _ _ _ _ _ k (fun e => ?_))
      have h1 := (O7.out.lt k hk).1
      have h2 : w0.drew.heap.size = w0.heap.size := rfl
      omega
    exact owns_down o8 (by show w.heap.size ≤ w0.heap.size; omega)
end Go.Proofs.Ytahlbebkcoofkaa.Rf
