/- slices.Delete of one pair; model's Drop. -/
import Derived.Test.YtahlbebkcoofkaaPut8
namespace Go.Proofs.Ytahlbebkcoofkaa
set_option maxRecDepth 20000
open Go.RowKit Go.Sort
set_option linter.unusedVariables false

theorem append_room_pairs (w : World) (ty tx : TypeId) (b n c : Nat) (cur : List Value) (hg : Blk w b 54 cur) (hcl : cur.length = c * 2) (x : Value) (m : Nat) (news : List Value) (hs : Src Try.prog 2 tx x m news w) (hfit : n + m ≤ c) :
    ∃ w', (Builtin.append_ #[22, tx] ty #[.slice (some ⟨b, 0, none⟩) n c, x]).run Try.prog w = .ok (.slice (some ⟨b, 0, none⟩) (n + m) c) w' ∧
      Blk w' b 54 (cur.take (n * 2) ++ (news ++ cur.drop (n * 2 + news.length))) ∧ w.grownBy w' (some b) ∧ w'.heap.size = w.heap.size := by
  obtain ⟨i, h1, h2, h3, h4⟩ := info_pair
  have hl : news.length = m * 2 := by have := hs.newsLen; omega
  have hs' : Src Try.prog i.size tx x m news w := by rw [h3]; exact hs
  have hr := run_append_room_src (P := Try.prog) w 22 tx ty 54 i Try.underlying22 h1 b 0 n c x m news hs' hfit
    (fun j hj => by rw [block_cell hg, h3, List.getElem?_eq_getElem (by omega)]; rfl) (fun j hj => block_frozen hg _)
  have hb := setCells_block b 54 news (n * 2) w cur hg (by omega)
  simp only [h3, Nat.zero_add] at hr
  exact ⟨_, hr, hb, ⟨(setCells_os _ _ _ _).1, (setCells_os _ _ _ _).2.1, (setCells_os _ _ _ _).2.2, Nat.le_of_eq (setCells_size _ _ _ _).symm, fun k _ hk => setCells_other b news _ w k (fun e => hk (by rw [e]))⟩, setCells_size _ _ _ _⟩

set_option maxHeartbeats 4000000 in
set_option maxRecDepth 20000 in
theorem delete_any (w : World) (b c : Nat) (rest : List Value) (es : List Ent) (i : Nat) (h : Blk w b 54 (flat Ent.cells es ++ rest)) (hr : rest.length = (c - es.length) * 2) (hnc : es.length ≤ c) (hcm : c ≤ maxLen) (hi : i < es.length) (hn : es.length ≤ 1000000) :
    Calls Try.prog 43 #[.slice (some ⟨b, 0, none⟩) es.length c, .int .i64 (i : Nat), .int .i64 ((i : Int) + 1)] w fun r w' => r = .returned (.slice (some ⟨b, 0, none⟩) (es.length - 1) c) ∧ Blk w' b 54 (flat Ent.cells (es.take i ++ es.drop (i + 1)) ++ ([.slice none 0 0, .int .u64 0] ++ rest)) ∧ w.grownBy w' (some b) := by
  unfold maxLen at hcm
  have hcl : (flat Ent.cells es ++ rest).length = c * 2 := by rw [List.length_append, flat_length Ent.cells_length, hr]; omega
  have hsplit : flat Ent.cells es = flat Ent.cells (es.take (i + 1)) ++ flat Ent.cells (es.drop (i + 1)) := by rw [← flat_append, List.take_append_drop]
  have lt1 : (flat Ent.cells (es.take (i + 1))).length = (i + 1) * 2 := by rw [flat_length Ent.cells_length]; simp; omega
  have lt0 : (flat Ent.cells (es.take i)).length = i * 2 := by rw [flat_length Ent.cells_length]; simp; omega
  have ld1 : (flat Ent.cells (es.drop (i + 1))).length = (es.length - (i + 1)) * 2 := by rw [flat_length Ent.cells_length]; simp
  have hd : Blk w.drew b 54 (flat Ent.cells es ++ rest) := h
  have hsrc : ∀ a' c2, (i + 1 = c ∧ a' = ⟨b, 0, none⟩ ∨ a' = ⟨b, (i + 1) * 2, none⟩) → Src Try.prog 2 22 (.slice (some a') (es.length - (i + 1)) c2) (es.length - (i + 1)) (flat Ent.cells (es.drop (i + 1))) w.drew := by
    intro a' c2 ha
    refine Src.ofSlice _ Try.underlying22 _ _ _ _ ld1 (fun j v hj => ?_) (pairs_one _)
    have hjl := (List.getElem?_eq_some_iff.1 hj).1
    rcases ha with ⟨ha, _⟩ | ha
    · omega
    · rw [ha, Addr.add_lit, hd.cell, List.getElem?_append_left (by rw [flat_length Ent.cells_length]; omega), hsplit, List.getElem?_append_right (by omega), lt1, Nat.add_sub_cancel_left]
      exact hj
  have hmk : ∀ a' c2, (i + 1 = c ∧ a' = ⟨b, 0, none⟩ ∨ a' = ⟨b, (i + 1) * 2, none⟩) → ∃ w1 w2, (Builtin.append_ #[22, 22] 22 #[.slice (some ⟨b, 0, none⟩) i c, .slice (some a') (es.length - (i + 1)) c2]).run Try.prog w.drew = .ok (.slice (some ⟨b, 0, none⟩) (es.length - 1) c) w1 ∧
      (Builtin.clear_ #[22] 0 #[.slice (some ⟨b, (es.length - 1) * 2, none⟩) 1 (c - (es.length - 1))]).run Try.prog w1 = .ok (.tuple #[]) w2 ∧ Blk w2 b 54 (flat Ent.cells (es.take i ++ es.drop (i + 1)) ++ ([.slice none 0 0, .int .u64 0] ++ rest)) ∧ w.grownBy w2 (some b) := by
    intro a' c2 ha
    obtain ⟨w1, r1, b1, g1, s1⟩ := append_room_pairs w.drew 22 22 b i c _ hd hcl _ _ _ (hsrc a' c2 ha) (by omega)
    rw [show i + (es.length - (i + 1)) = es.length - 1 by omega] at r1
    obtain ⟨w2, r2, b2, g2, s2⟩ := run_clear_blk w1 0 b _ b1 ((es.length - 1) * 2) (c - (es.length - 1)) (by simp only [List.length_append, List.length_take, List.length_drop, flat_length Ent.cells_length] at *; omega)
    have t1 : (flat Ent.cells es ++ rest).take (i * 2) = flat Ent.cells (es.take i) := by
      have : flat Ent.cells es = flat Ent.cells (es.take i) ++ flat Ent.cells (es.drop i) := by rw [← flat_append, List.take_append_drop]
      rw [this, List.append_assoc, List.take_append_of_le_length (by omega), List.take_of_length_le (by omega)]
    have hx : ∃ x, (flat Ent.cells es ++ rest).drop (i * 2 + (flat Ent.cells (es.drop (i + 1))).length) = x ++ rest ∧ x.length = 2 := by
      refine ⟨(flat Ent.cells es).drop (i * 2 + (flat Ent.cells (es.drop (i + 1))).length), ?_, ?_⟩
      · rw [List.drop_append_of_le_length (by rw [ld1, flat_length Ent.cells_length]; omega)]
      · rw [List.length_drop, ld1, flat_length Ent.cells_length]; omega
    obtain ⟨x, hx1, hx2⟩ := hx
    have lA : (flat Ent.cells (es.take i ++ es.drop (i + 1))).length = (es.length - 1) * 2 := by rw [flat_length Ent.cells_length]; simp; omega
    have e1 : (flat Ent.cells es ++ rest).take (i * 2) ++ (flat Ent.cells (es.drop (i + 1)) ++ (flat Ent.cells es ++ rest).drop (i * 2 + (flat Ent.cells (es.drop (i + 1))).length)) = flat Ent.cells (es.take i ++ es.drop (i + 1)) ++ (x ++ rest) := by
      rw [t1, hx1, flat_append]; simp
    rw [e1] at b2
    have e2 : (flat Ent.cells (es.take i ++ es.drop (i + 1)) ++ (x ++ rest)).take ((es.length - 1) * 2) ++ [Value.slice none 0 0, Value.int .u64 0] ++ (flat Ent.cells (es.take i ++ es.drop (i + 1)) ++ (x ++ rest)).drop ((es.length - 1) * 2 + 2) = flat Ent.cells (es.take i ++ es.drop (i + 1)) ++ ([.slice none 0 0, .int .u64 0] ++ rest) := by
      have t2 : (flat Ent.cells (es.take i ++ es.drop (i + 1)) ++ (x ++ rest)).drop ((es.length - 1) * 2 + 2) = rest := by
        rw [← List.append_assoc, show (es.length - 1) * 2 + 2 = (flat Ent.cells (es.take i ++ es.drop (i + 1)) ++ x).length by rw [List.length_append, lA, hx2]]
        exact List.drop_left
      rw [t2, ← lA, List.take_left]
      simp
    rw [e2] at b2
    exact ⟨w1, w2, r1, r2, b2, ⟨by rw [g2.os, g1.os]; rfl, by rw [g2.tape, g1.tape]; rfl, by rw [g2.output, g1.output]; rfl, by rw [s2, s1]; exact Nat.le_refl _, fun k hk hne => by rw [g2.block k (by rw [s1]; exact hk) hne, g1.block k hk hne]; rfl⟩⟩
  have hw1 : IntKind.i64.wrap ((i : Int) + 1) = (i : Int) + 1 := by rw [IntKind.wrap_i64]; omega
  have hb1 : (0 : Int) ≤ (i : Int) + 1 := by omega
  have htn : ((i : Int) + 1).toNat = i + 1 := by omega
  have hin : i ≤ es.length := by omega
  have hin1 : (i : Int) + 1 ≤ (es.length : Int) := by omega
  have hne' : ((i : Int) == (i : Int) + 1) = false := by simp; omega
  have hc1 : ¬ (c = es.length - 1) := by omega
  clear hsrc hd ld1 lt0 lt1 hsplit hcl hr h
  by_cases hic : i + 1 = c
  · obtain ⟨w1, w2, r1, r2, b2, g2⟩ := hmk ⟨b, 0, none⟩ 0 (.inl ⟨hic, rfl⟩)
    have z : es.length - (i + 1) = 0 := by omega
    rw [z] at r1
    have B2 := hide b2
    have G2 := hide g2
    clear b2 g2 z hmk
    obtain ⟨n, hnn⟩ : ∃ n, es.length = n + 1 := ⟨es.length - 1, by omega⟩
    obtain rfl : i = n := by omega
    subst hic
    rw [hnn] at r1 r2 ⊢
    have hn1 : i ≤ 1000000 := by omega
    have q1 : (i : Int) ≤ (i : Int) + 1 := by omega
    clear hc1 hin1 hin hi hn hnc hnn
    simp only [Nat.add_sub_cancel] at r1 r2
    rw [show i + 1 - i = 1 by omega] at r2
    go_enter Try.func43, Try.ntmps43
    go_wp2_with fail
    go_region_law (refine step_append_run rfl _ _ _ _ rfl _ _ _ _ rfl rfl r1 ?_)
    go_wp2
    go_ret
    exact ⟨rfl, B2.out, G2.out⟩
  · obtain ⟨w1, w2, r1, r2, b2, g2⟩ := hmk ⟨b, (i + 1) * 2, none⟩ (c - (i + 1)) (.inr rfl)
    have B2 := hide b2
    have G2 := hide g2
    have hic' : ¬ (c = i + 1) := by omega
    have q1 : i ≤ c := by omega
    have q2 : (i : Int) ≤ (c : Int) := by omega
    clear b2 g2 hmk
    obtain ⟨m, hm⟩ : ∃ m, es.length = m + 1 := ⟨es.length - 1, by omega⟩
    rw [hm] at r1 r2 hin1 hin hi hn hnc ⊢
    have q3 : m ≤ c := by omega
    have q4 : ¬ (c = m) := by omega
    have q5 : (m : Int) + 1 ≤ (c : Int) := by omega
    have q6 : i ≤ m := by omega
    simp only [Nat.add_sub_cancel, Nat.add_sub_add_right] at r1 r2
    clear hm hc1 hic
    go_enter Try.func43, Try.ntmps43
    go_wp2_with fail
    go_region_law (refine step_append_run rfl _ _ _ _ rfl _ _ _ _ rfl rfl r1 ?_)
    go_wp2
    go_ret
    exact ⟨rfl, B2.out, G2.out⟩
end Go.Proofs.Ytahlbebkcoofkaa
