/- model's Drop. -/
import Derived.Test.YtahlbebkcoofkaaDrop8
namespace Go.Proofs.Ytahlbebkcoofkaa
set_option maxRecDepth 20000
open Go.RowKit Go.Sort
set_option linter.unusedVariables false

/-- A pair less in the map. -/
theorem md_drop {g : Nat} {ps : List KV} {K : Nat → Prop} {w w3 : World} {F : Nat → Prop} {b c : Nat} {es : List Ent} (h : MdF g ps K w F (.slice (some ⟨b, 0, none⟩) es.length c) es) (k : List Int) (hin : isIn k ps = true) {rk : Nat} (hrk : rankM k ps = rk) (hrl : rk < es.length) (tail : List Value)
    (b3 : Blk w3 b 54 (flat Ent.cells (es.take rk ++ es.drop (rk + 1)) ++ tail)) (htl : tail.length = (c - (es.length - 1)) * 2) (hcc : es.length ≤ c ∧ c ≤ maxLen) (g3 : w.grownBy w3 (some b)) (hs3 : w.heap.size ≤ w3.heap.size) :
    Md g (dropM k ps) K (w3.setCell ⟨g, 0, none⟩ (.slice (some ⟨b, 0, none⟩) (es.length - 1) c)) ∧ Kp K w (w3.setCell ⟨g, 0, none⟩ (.slice (some ⟨b, 0, none⟩) (es.length - 1) c)) ∧ Blk w3 g 70 [.slice (some ⟨b, 0, none⟩) es.length c] := by
  have hFb : F b := h.fr b rfl
  have hgb : g ≠ b := fun e => owns_apart h.row h.hd (by decide) (by rw [e]; rfl)
  have hgw := h.hd.lt
  have hg3 : Blk w3 g 70 [.slice (some ⟨b, 0, none⟩) es.length c] := (g3.block g hgw (by simp; exact hgb)).trans h.hd
  have other : ∀ x, x ≠ g → (w3.setCell ⟨g, 0, none⟩ (.slice (some ⟨b, 0, none⟩) (es.length - 1) c)).heap[x]? = w3.heap[x]? := fun x hx => Below.heap_setCell _ ⟨g, 0, none⟩ _ _ hx
  have hsz : (w3.setCell ⟨g, 0, none⟩ (.slice (some ⟨b, 0, none⟩) (es.length - 1) c)).heap.size = w3.heap.size := by simp [World.setCell]
  have hl : (es.take rk ++ es.drop (rk + 1)).length = es.length - 1 := by simp; omega
  refine ⟨⟨F, .slice (some ⟨b, 0, none⟩) (es.length - 1) c, es.take rk ++ es.drop (rk + 1), ⟨fun x hx => ⟨(h.fk x hx).1, by rw [hsz]; have := (h.fk x hx).2; omega⟩, fun x hx => by rw [hsz]; have := h.kl x hx; omega, h.fg, hg3.set 0 _, ?_, fun x hx => h.fr x hx, fun f hf => ?_, ?_, dropM_ups h.up k, by rw [hl]; have := h.ln; omega⟩⟩, ?_, hg3⟩
  · rw [hl]
    have lf : (flat Ent.cells (es.take rk ++ es.drop (rk + 1))).length = (es.length - 1) * 2 := by rw [flat_length Ent.cells_length, hl]
    refine ⟨lf, .inr ⟨b, c, _, rfl, by omega, (other b (fun e => hgb e.symm)).trans b3, by omega, hcc.2, ?_, ?_⟩⟩
    · rw [List.size_toArray, List.length_append, lf, htl]; omega
    · rw [List.toList_toArray, ← lf]; exact List.take_left
  · have hf' : f ∈ es := by
      rcases List.mem_append.1 hf with hf | hf
      · exact List.mem_of_mem_take hf
      · exact List.mem_of_mem_drop hf
    refine ⟨(h.ks f hf').1.move (fun x hx hlx => ⟨?_, hx.1, hx.2.1, hx.2.2⟩), (h.ks f hf').2⟩
    rw [other x hx.2.1]
    exact g3.block x hlx (fun e => hx.2.2 (by rw [e]; rfl))
  · unfold dropM
    rw [hin, if_pos rfl, hrk, List.map_append, List.map_take, List.map_drop, h.kv]
  · exact ⟨g3.os, g3.tape, g3.output, by rw [hsz]; exact hs3, fun x hx hlx => by
      rw [other x (fun e => (h.fk g h.fg).1 (by rw [← e]; exact hx))]
      exact g3.block x hlx (fun e => (h.fk b hFb).1 (by simp at e; rw [← e]; exact hx))⟩

set_option maxHeartbeats 2000000 in
theorem drop_any {g : Nat} {ps : List KV} {K : Nat → Prop} (ka : Option Addr) (kc : Nat) (k : List Int) (w : World) (h : Md g ps K w) (ht : Rd w ka k) :
    Calls Try.prog 15 #[.pointer (some ⟨g, 0, none⟩), .slice ka k.length kc] w fun r w' => r = .returned (.tuple #[.int .u64 (valO (findM k ps)), .bool (isIn k ps)]) ∧ Md g (dropM k ps) K w' ∧ Kp K w w' := by
  have P := hide (place_any ka kc k w h ht)
  have hrl := rank_le k ps
  cases hin : isIn k ps with
  | false =>
    have hv : Hid (valO (findM k ps) = 0) := by show _ = _; unfold findM; rw [hin]; rfl
    have hdr : Hid (dropM k ps = ps) := by show _ = _; unfold dropM; rw [hin]; rfl
    rw [hin] at P
    generalize rankM k ps = rk at P
    have H := hide h
    clear h ht hin
    go_enter Try.func15, Try.ntmps15
    go_wp2_with fail
    refine P.out.mono ?_
    rintro r w2 ⟨rfl, f2⟩
    have F2 := hide f2
    clear f2
    go_wp2
    go_ret2
    refine ⟨?_, ?_, (Kp.of_below F2.out).mono (fun x hx => (Md.lies g ps).lt H.out x hx)⟩
    · rw [hv.out]; rfl
    · rw [hdr.out]; exact (Md.lies g ps).below H.out F2.out
  | true =>
    obtain ⟨u0, hu0⟩ := isIn_true hin
    have hv : Hid (valO (findM k ps) = u0) := by show _ = _; unfold findM; rw [if_pos hin, hu0]; rfl
    rw [hin] at P
    obtain ⟨rk, hrk⟩ : ∃ rk, rankM k ps = rk := ⟨_, rfl⟩
    rw [hrk] at P hrl hu0
    have HRK := hide hrk
    have HIN := hide hin
    have H := hide h
    clear h ht hrk hin
    go_enter Try.func15, Try.ntmps15
    go_wp2_with fail
    refine P.out.mono ?_
    rintro r w2 ⟨rfl, f2⟩
    have h2 := (Md.lies g ps).below H.out f2
    obtain ⟨F, v, es, h'⟩ := h2
    obtain ⟨b, c, e, rfl, he, hke, hil, c0, c1⟩ := h'.cells hu0
    have hev : e.v = u0 := congrArg Prod.snd hke
    rw [hev] at c1
    have d0 := h'.hd.cell 0
    simp only [List.getElem?_cons_zero] at d0
    have hln := h'.ln
    have hrow : ∃ rest, Blk w2 b 54 (flat Ent.cells es ++ rest) ∧ rest.length = (c - es.length) * 2 ∧ es.length ≤ c ∧ c ≤ maxLen := by
      rcases h'.row.2 with ⟨e9, h0⟩ | ⟨b', c', cur, e9, _, hg, h1, h2, h3, h4⟩
      · omega
      · simp only [Value.slice.injEq, Option.some.injEq, Addr.mk.injEq] at e9
        obtain ⟨⟨rfl, -⟩, -, rfl⟩ := e9
        refine ⟨cur.toList.drop (es.length * 2), ?_, by simp [h3, Nat.sub_mul], h1, h2⟩
        unfold Blk; rw [← h4, List.take_append_drop]; exact hg
    obtain ⟨rest, hb, hrr, hc1, hc2⟩ := hrow
    have D := hide (delete_any w2 b c rest es rk hb hrr hc1 hc2 hil hln)
    have HM := hide h'
    have F2 := hide f2
    have HRR := hide hrr
    have HCC : Hid (es.length ≤ c ∧ c ≤ maxLen) := ⟨hc1, hc2⟩
    clear h' f2 P he hke hev c0 hu0 hb hrr hc1 hc2
    go_wp2_with fail
    refine D.out.mono ?_
    rintro r w3 ⟨rfl, b3, g3⟩
    have MD := md_drop HM.out k HIN.out HRK.out hil _ b3 (by have := HRR.out; have := HCC.out; simp; omega) HCC.out g3 g3.size
    have m3 := MD.2.2.cell 0
    have z3 := MD.2.2.frozen 0
    simp only [List.getElem?_cons_zero] at m3
    have M3 := hide MD.1
    have K3 := hide MD.2.1
    clear MD b3 g3 d0 c1
    go_wp2
    go_ret2
    refine ⟨?_, M3.out, (Kp.of_below F2.out).mono (fun x hx => (Md.lies g ps).lt H.out x hx) |>.trans K3.out⟩
    rw [hv.out]; rfl
end Go.Proofs.Ytahlbebkcoofkaa
