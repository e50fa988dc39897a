/- The document's map: Find, Get, Pair, Select, Floor, Ceil. -/
import Derived.Test.YtnedcoomldmhhaaRf7
import Derived.Test.YtnedcoomldmhhaaNw8
namespace Go.Proofs.Ytnedcoomldmhhaa.Rf
open Go.RowKit Go.Sort Go.Proofs.Ytnedcoomldmhhaa
set_option linter.unusedVariables false
set_option linter.unusedSimpArgs false
set_option maxRecDepth 20000


/-- append([]byte(nil), bytes...). -/
theorem clone_u8 {w : World} {a : Option Addr} {xs : List Int} (h : Rd w a xs) (c : Nat) (hl : xs.length ≤ 1000000) :
    ∃ a' c' w', (Builtin.append_ #[38, 38] 38 #[.slice none 0 0, .slice a xs.length c]).run Try.prog w = .ok (.slice a' xs.length c') w' ∧ w'.ownsRow w.heap.size 5 1 (.slice a' xs.length c') xs.length (u8s xs) ∧ Below w.heap.size w w' := by
  obtain ⟨v', w', r, o, gr, hb, _, _⟩ := append_u8 w 38 38 w.heap.size (.slice none 0 0) 0 [] (World.ownsRow_nil w w.heap.size _ 1) _ xs.length _ (h.src Try.underlying38 c) (by omega) (Nat.le_refl _)
  rw [Nat.zero_add, List.nil_append] at o
  obtain ⟨a', c', rfl⟩ := owns_slice' o
  exact ⟨a', c', w', r, o, (Below.refl _ w).grown gr (Nat.le_refl _) (by simp [Value.ownBlock])⟩
theorem owns_down {w : World} {base base' : Nat} {e : TypeId} {size : Nat} {v : Value} {n : Nat} {xs : List Value} (h : w.ownsRow base e size v n xs) (hb : base' ≤ base) : w.ownsRow base' e size v n xs := by
  refine ⟨h.1, ?_⟩
  rcases h.2 with hn | ⟨g, cap, cur, h1, h2, h3⟩
  · exact .inl hn
  · exact .inr ⟨g, cap, cur, h1, by omega, h3⟩
/-- A pair that is answered alone, its key in memory of its own. -/
def AnsP (w w' : World) (p : KV) (r : Ending) : Prop := ∃ a c, r = .returned (.agg #[.slice a p.1.length c, .int .u64 p.2]) ∧ w'.ownsRow w.heap.size 5 1 (.slice a p.1.length c) p.1.length (u8s p.1) ∧ IsBytes p.1 ∧ Below w.heap.size w w'
set_option maxHeartbeats 1000000 in
theorem find_any {g : Nat} {ps : List KV} {K : Nat → Prop} (ka : Option Addr) (kc : Nat) (k : List Int) (w : World) (h : Md g ps K w) (ht : Rd w ka k) :
    Calls Try.prog 39 #[.pointer (some ⟨g, 0, none⟩), .slice ka k.length kc] w fun r w' => r = .returned (.tuple #[.int .i64 (rankM k ps : Nat), .bool (isIn k ps)]) ∧ Below w.heap.size w w' := by
  have R := hide (rank_any ka kc k w h ht)
  have hrl := rank_le k ps
  obtain ⟨F, v, es, h⟩ := h
  obtain ⟨a, c, rfl, hr⟩ := h.rp
  have hii : Hid (∀ e, es[rankM k ps]? = some e → isIn k ps = decide (e.k = k)) := fun e he => by
    unfold isIn
    rw [h.at, he]
    simp [Ent.kv]
  have hio : Hid (es[rankM k ps]? = none → isIn k ps = false) := fun he => by
    unfold isIn
    rw [h.at, he]
    simp
  rw [h.len] at hrl
  have HD := hide h.hd
  have HR := hide hr
  have HT := hide ht
  have hln := h.ln
  generalize rankM k ps = rk at R hrl hii hio ⊢
  generalize isIn k ps = ii at hii hio ⊢
  clear h hr ht
  go_enter Try.func39, Try.ntmps39
  go_wp2_with fail
  refine R.out.mono ?_
  rintro r w1 ⟨rfl, f1⟩
  have F := hide f1
  clear f1 R
  have d0 := (HD.out.below F.out HD.out.lt).cell 0
  simp only [List.getElem?_cons_zero] at d0
  by_cases hin : rk < es.length
  · obtain ⟨e, he⟩ : ∃ e, es[rk]? = some e := ⟨es[rk], List.getElem?_eq_getElem hin⟩
    have hr := HR.out.below F.out (Nat.le_refl _)
    obtain ⟨b, off, rfl, c0, c1⟩ := hr.cells he
    have hrd := (hr.2.1 e (List.mem_of_getElem? he)).1
    have htd := HT.out.below F.out (Nat.le_refl _)
    have k1 := fun m => conv_str (P := Try.prog) (src := 38) (dst := 9) Try.underlying38 Try.underlying5 Try.underlying9 (hrd.drewN m) e.c
    have k2 := fun m => conv_str (P := Try.prog) (src := 38) (dst := 9) Try.underlying38 Try.underlying5 Try.underlying9 (htd.drewN m) kc
    have l2 := strs_eq e.k k hrd.1 htd.1
    rw [← strNums_toList, ← strNums_toList, ← hii.out e he] at l2
    generalize strOfNums e.k = s at k1 l2
    generalize strOfNums k = t at k2 l2
    clear hr hrd htd he hii hio
    go_wp2_with fail
    go_quiet (fail)
    go_wp2
    go_ret2
    exact ⟨rfl, F.out.trans (Below.drewN' (Below.refl _ _) _ |>.mono F.out.size)⟩
  · have hi0 := hio.out (List.getElem?_eq_none (by omega))
    subst hi0
    obtain rfl : rk = es.length := by omega
    clear hii hio hin
    go_wp2_with fail
    go_quiet (fail)
    go_wp2
    go_ret2
    exact ⟨rfl, F.out.trans (Below.drewN' (Below.refl _ _) _ |>.mono F.out.size)⟩
end Go.Proofs.Ytnedcoomldmhhaa.Rf
