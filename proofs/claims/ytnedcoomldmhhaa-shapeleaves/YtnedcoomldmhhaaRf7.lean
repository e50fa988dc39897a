/- The document's map: how it stands in memory; Rank, Find, Get. -/
import Derived.Test.YtnedcoomldmhhaaMd8
namespace Go.Proofs.Ytnedcoomldmhhaa.Rf
open Go.RowKit Go.Sort Go.Proofs.Ytnedcoomldmhhaa
set_option linter.unusedVariables false
set_option linter.unusedSimpArgs false
set_option maxRecDepth 20000

structure MdF (g : Nat) (ps : List KV) (K : Nat → Prop) (w : World) (F : Nat → Prop) (v : Value) (es : List Ent) : Prop where
  fk : ∀ k, F k → ¬ K k ∧ k < w.heap.size
  kl : ∀ k, K k → k < w.heap.size
  fg : F g
  hd : Blk w g 33 [v]
  row : w.ownsRow 0 47 2 v es.length (flat Ent.cells es)
  fr : ∀ k, v.ownBlock = some k → F k
  ks : ∀ e ∈ es, Bd (fun k => F k ∧ k ≠ g ∧ v.ownBlock ≠ some k) w e.a e.k ∧ e.k.length ≤ 65535 ∧ 0 ≤ e.v ∧ e.v ≤ 18446744073709551615
  kv : es.map Ent.kv = ps
  up : Ups ps
  ln : es.length ≤ 1000000
  cs : ∀ e ∈ es, e.k.length ≤ e.c
/-- A map of these pairs, at block g. -/
def Md (g : Nat) (ps : List KV) : Shape := fun K w => ∃ F v es, MdF g ps K w F v es
theorem Md.lies (g : Nat) (ps : List KV) : Lies (Md g ps) := by
  rintro K w ⟨F, v, es, h⟩
  refine ⟨h.kl, F, h.fk, fun w' K' hs hk => ⟨F, v, es, ?_⟩⟩
  have lt' : ∀ k, F k → k < w'.heap.size := fun k hk => by
    have e := hs k hk
    have l := (h.fk k hk).2
    rw [Array.getElem?_eq_getElem l] at e
    exact (Array.getElem?_eq_some_iff.1 e).1
  refine ⟨fun k hf => ⟨fun hK => (hk k hK).1 hf, lt' k hf⟩, fun k hK => (hk k hK).2, h.fg, (hs g h.fg).trans h.hd, owns_same h.row (fun k hk => hs k (h.fr k hk)), h.fr, fun e he => ⟨?_, (h.ks e he).2⟩, h.kv, h.up, h.ln, h.cs⟩
  exact (h.ks e he).1.move (fun b hb _ => ⟨hs b hb.1, hb⟩)
theorem MdF.rp {g : Nat} {ps : List KV} {K : Nat → Prop} {w : World} {F : Nat → Prop} {v : Value} {es : List Ent} (h : MdF g ps K w F v es) : ∃ a c, v = .slice a es.length c ∧ Rp w a es :=
  owns_rp h.row (fun e he => ⟨(h.ks e he).1.1, (h.ks e he).2.2⟩) h.ln
theorem MdF.len {g : Nat} {ps : List KV} {K : Nat → Prop} {w : World} {F : Nat → Prop} {v : Value} {es : List Ent} (h : MdF g ps K w F v es) : ps.length = es.length := by rw [← h.kv]; simp
theorem MdF.at {g : Nat} {ps : List KV} {K : Nat → Prop} {w : World} {F : Nat → Prop} {v : Value} {es : List Ent} (h : MdF g ps K w F v es) (i : Nat) : ps[i]? = (es[i]?).map Ent.kv := by rw [← h.kv]; simp

/-- The n-th pair's cells. -/
theorem MdF.cells {g : Nat} {ps : List KV} {K : Nat → Prop} {w : World} {F : Nat → Prop} {v : Value} {es : List Ent} (h : MdF g ps K w F v es) {i : Nat} {p : KV} (hp : ps[i]? = some p) :
    ∃ b c e, v = .slice (some ⟨b, 0, none⟩) es.length c ∧ es[i]? = some e ∧ e.kv = p ∧ i < es.length ∧ w.cell? ⟨b, i * 2, none⟩ = some (.slice e.a e.k.length e.c) ∧ w.cell? ⟨b, i * 2 + 1, none⟩ = some (.int .u64 e.v) := by
  rw [h.at] at hp
  obtain ⟨e, he, hk⟩ := Option.map_eq_some_iff.1 hp
  obtain ⟨a, c, rfl, hr⟩ := h.rp
  have hi := (List.getElem?_eq_some_iff.1 he).1
  obtain ⟨b, cap, e2⟩ := owns_slice h.row (by omega)
  simp only [Value.slice.injEq] at e2
  obtain ⟨rfl, -, rfl⟩ := e2
  obtain ⟨b', off, ea, c0, c1⟩ := hr.cells he
  simp only [Option.some.injEq, Addr.mk.injEq] at ea
  obtain ⟨rfl, rfl, -⟩ := ea
  rw [Nat.zero_add] at c0 c1
  exact ⟨b, c, e, rfl, he, hk, hi, c0, c1⟩
theorem MdF.small {g : Nat} {ps : List KV} {K : Nat → Prop} {w : World} (h : Md g ps K w) : ps.length ≤ 1000000 := by obtain ⟨F, v, es, h⟩ := h; rw [h.len]; exact h.ln

set_option maxHeartbeats 1000000 in
theorem rank_any {g : Nat} {ps : List KV} {K : Nat → Prop} (ka : Option Addr) (kc : Nat) (k : List Int) (w : World) (h : Md g ps K w) (ht : Rd w ka k) :
    Calls Try.prog 61 #[.pointer (some ⟨g, 0, none⟩), .slice ka k.length kc] w fun r w' => r = .returned (.int .i64 (rankM k ps : Nat)) ∧ Below w.heap.size w w' := by
  obtain ⟨F, v, es, h⟩ := h
  obtain ⟨a, c, rfl, hr⟩ := h.rp
  have hd := h.hd
  have hu := h.up
  have hln := h.ln
  rw [← h.kv] at hu ⊢
  have hrl := rank_le k (es.map Ent.kv)
  have hlo := rank_lo k (es.map Ent.kv)
  have hhi := rank_hi k _ hu
  simp only [List.length_map] at hrl
  generalize rankM k (es.map Ent.kv) = rk at hrl hlo hhi ⊢
  have HLO := hide hlo
  have HHI := hide hhi
  have HD := hide hd
  have HR := hide hr
  have HT := hide ht
  clear h hr hd hu hlo hhi ht
  go_enter Try.func61, Try.ntmps61
  go_wp2_with fail
  go_loopw [5] (fun vn wr => ∃ n : Nat, vn = .int .i64 n ∧ n ≤ rk ∧ Hid (Below w.heap.size w wr)) (fun vn _ => (rk - intOf vn).toNat)
  case atStart => exact ⟨0, rfl, by omega, Below.refl _ _⟩
  case round =>
    obtain ⟨n, rfl, hn, F⟩ := hrel
    have d0 := (HD.out.below F.out HD.out.lt).cell 0
    simp only [List.getElem?_cons_zero] at d0
    by_cases hin : n < es.length
    · obtain ⟨e, he⟩ : ∃ e, es[n]? = some e := ⟨es[n], List.getElem?_eq_getElem hin⟩
      have hr := HR.out.below F.out (Nat.le_refl _)
      obtain ⟨b, off, rfl, c0, c1⟩ := hr.cells he
      have hrd := (hr.2.1 e (List.mem_of_getElem? he)).1
      have htd := HT.out.below F.out (Nat.le_refl _)
      have k1 := fun m => conv_str (P := Try.prog) (src := 38) (dst := 9) Try.underlying38 Try.underlying5 Try.underlying9 (hrd.drewN m) e.c
      have k2 := fun m => conv_str (P := Try.prog) (src := 38) (dst := 9) Try.underlying38 Try.underlying5 Try.underlying9 (htd.drewN m) kc
      have l1 := less_cmp e.k k hrd.1 htd.1
      rw [← strNums_toList, ← strNums_toList] at l1
      generalize strOfNums e.k = s at k1 l1
      generalize strOfNums k = t at k2 l1
      have hat : (es.map Ent.kv)[n]? = some e.kv := by simp [he]
      by_cases hlt : n < rk
      · have h1 := HLO.out n e.kv hat hlt
        have h2 : cmpK e.k k = -1 := by have := cmpK_range e.k k; have h3 : cmpK e.k k < 0 := h1; omega
        rw [h2] at l1
        simp at l1
        clear hr hrd htd he hat h1 h2
        go_wp2_with fail
        go_quiet (fail)
        go_wp2
        go_roundw
        case rel => exact ⟨n + 1, by go_num, by omega, F.out.trans (Below.drewN' (Below.refl _ _) _ |>.mono F.out.size)⟩
        case measure => simp [intOf]; omega
      · obtain rfl : n = rk := by omega
        have h1 := HHI.out n e.kv hat (Nat.le_refl _)
        have h2 : ¬ cmpK e.k k = -1 := by have h3 : 0 ≤ cmpK e.k k := h1; omega
        rw [decide_eq_false h2] at l1
        clear hr hrd htd he hat h1 h2
        go_wp2_with fail
        go_quiet (fail)
        go_wp2
        go_ret
        exact ⟨rfl, F.out.trans (Below.drewN' (Below.refl _ _) _ |>.mono F.out.size)⟩
    · obtain rfl : n = rk := by omega
      obtain rfl : n = es.length := by omega
      go_wp2_with fail
      go_quiet (fail)
      go_wp2
      go_ret
      exact ⟨rfl, F.out.trans (Below.drewN' (Below.refl _ _) _ |>.mono F.out.size)⟩
end Go.Proofs.Ytnedcoomldmhhaa.Rf
