/- unused, Put. -/
import Derived.Test.YtaoabjcbolncoaaFind6
namespace Go.Proofs.Ytaoabjcbolncoaa
open Go.RowKit
set_option linter.unusedVariables false
set_option linter.unusedSimpArgs false

theorem info_u32 : ∃ i, Try.prog.info? 28 = some i ∧ i.zero = some (.int .u32 0) ∧ i.size = 1 ∧ i.bytes = 4 := info_of (by kernel_rfl)
theorem info_text : ∃ i, Try.prog.info? 60 = some i ∧ i.zero = some (.agg #[.slice none 0 0, .int .i64 0, .bool false]) ∧ i.size = 3 ∧ i.bytes = 40 := info_of (by kernel_rfl)

theorem unused_back {K : Nat → Prop} {w : World} {g : Nat} {most used : Int} {rs : List Txt} {back : List Nat} {h : Nat} (A : SK K w g most used rs (back ++ [h])) (hb : back.length ≤ 2147483648) :
    Calls Try.prog 26 #[.pointer (some ⟨g, 0, none⟩)] w fun e w' => e = .returned (.int .u32 (h : Int)) ∧ SK K w' g most used rs back ∧ Kp K w w' := by
  obtain ⟨k0, vc, vb, a, k1⟩ := A
  obtain ⟨gb, cap, rfl⟩ := owns_slice a.backs (by simp)
  have hl : (back ++ [h]).length = back.length + 1 := by simp
  have o := a.backs
  rw [hl] at o
  have c2 : w.cell? ⟨g, 3, none⟩ = some (.slice (some ⟨gb, 0, none⟩) (back.length + 1) cap) := by rw [← hl]; exact a.blk.cell 3
  have f2 := a.blk.frozen 3
  have d : w.cell? ⟨gb, back.length, none⟩ = some (.int .u32 (h : Int)) := (o.cellAt back.length (by omega)).trans (by simp [u32s])
  have hcap : back.length + 1 ≤ cap := by
    rcases o.2 with ⟨h', _⟩ | ⟨g', cap', cur, h', _, hg, hnc, _⟩
    · simp at h'
    · simp only [Value.slice.injEq] at h'
      omega
  have op : w.ownsRow 0 28 1 (.slice (some ⟨gb, 0, none⟩) back.length cap) back.length (u32s back) := ownsRow_pop (last := [.int .u32 (h : Int)]) (by simp [u32s]) (by simpa [u32s] using o)
  have R : Hid (SK K (w.setCell ⟨g, 3, none⟩ (.slice (some ⟨gb, 0, none⟩) back.length cap)) g most used rs back ∧ Kp K w (w.setCell ⟨g, 3, none⟩ (.slice (some ⟨gb, 0, none⟩) back.length cap))) := by
    refine ⟨⟨fun k hk => by simpa [World.setCell] using k0 k hk, vc, .slice (some ⟨gb, 0, none⟩) back.length cap, ?_, ?_⟩, (Kp.refl _ _).setCell _ _ _ (k1 g (.inl rfl))⟩
    · have sm : ∀ k, k ≠ g → (w.setCell ⟨g, 3, none⟩ (.slice (some ⟨gb, 0, none⟩) back.length cap)).heap[k]? = w.heap[k]? := fun k hk => Below.heap_setCell w ⟨g, 3, none⟩ _ k hk
      refine ⟨a.blk.set 3 _, owns_same a.rows (fun k hk => sm k (fun e => owns_apart a.rows a.blk (by decide) (e ▸ hk))), owns_same op (fun k hk => sm k (fun e => owns_apart op a.blk (by decide) (e ▸ hk))), fun i q l ws hi => (a.words i q l ws hi).same (sm q (blk_apart (a.words i q l ws hi).blk a.blk (by decide))), a.apart⟩
    · rintro k (hk | hk | hk | hk)
      · exact k1 k (.inl hk)
      · exact k1 k (.inr (.inl hk))
      · exact k1 k (.inr (.inr (.inl hk)))
      · exact k1 k (.inr (.inr (.inr hk)))
  have e1 : IntKind.i64.wrap (((back.length + 1 : Nat) : Int) - 1) = (back.length : Int) := by rw [IntKind.wrap_i64]; omega
  have e2 : (((back.length + 1 : Nat) : Int) - 1) = (back.length : Int) := by omega
  clear a o op k1 k0
  go_enter Try.func26, Try.ntmps26
  go_wp2
  go_ret
  exact ⟨rfl, R.out⟩

theorem unused_new {K : Nat → Prop} {w : World} {g : Nat} {most used : Int} {rs : List Txt} (A : SK K w g most used rs []) (hb : rs.length < 2147483648) :
    Calls Try.prog 26 #[.pointer (some ⟨g, 0, none⟩)] w fun e w' => e = .returned (.int .u32 ((rs.length + 1 : Nat) : Int)) ∧ SK K w' g most used (rs ++ [none]) [] ∧ Kp K w w' := by
  obtain ⟨k0, vc, vb, a, k1⟩ := A
  obtain ⟨ab, cab, rfl⟩ := owns_slice' a.backs
  have c1 : w.cell? ⟨g, 2, none⟩ = some vc := a.blk.cell 2
  have c2 : w.cell? ⟨g, 3, none⟩ = some (.slice ab 0 cab) := a.blk.cell 3
  obtain ⟨i, h1, h2, h3, h4⟩ := info_text
  obtain ⟨v', w', r, o, gr, hv⟩ := append_lit (P := Try.prog) w 0 55 60 i _ 3 40 Try.underlying55 h1 h2 h3 h4 rfl (by omega) vc _ _ a.rows [.slice none 0 0, .int .i64 0, .bool false] rfl (by
    intro u hu
    simp at hu
    rcases hu with rfl | rfl | rfl <;> rfl) (by omega) (by omega) (by omega)
  have ne : vc.ownBlock ≠ some g := owns_apart a.rows a.blk (by decide)
  have sm : ∀ k, k < w.heap.size → vc.ownBlock ≠ some k → w'.heap[k]? = w.heap[k]? := fun k hk hn =>
    (gr.block k (by simp; omega) (fun e => hn e.symm)).trans (Below.heap_alloc w _ k hk)
  have b' : Blk w' g 57 [.int .i64 most, .int .i64 used, vc, .slice ab 0 cab] := (sm g a.blk.lt ne).trans a.blk
  have c1' : w'.cell? ⟨g, 2, none⟩ = some vc := b'.cell 2
  have f1' : w'.frozen? ⟨g, 2, none⟩ = false := b'.frozen 2
  obtain ⟨av, capv, hvv⟩ := owns_slice' o
  subst hvv
  have hln : (rs ++ [none]).length = rs.length + 1 := by simp
  have o2 : w'.ownsRow 0 60 3 (.slice av (rs.length + 1) capv) (rs ++ [none]).length (flat cell3 (rs ++ [none])) := by
    rw [hln, flat_append]
    exact o
  have b2 := b'.set 2 (.slice av (rs.length + 1) capv)
  have c1n : (w'.setCell ⟨g, 2, none⟩ (.slice av (rs.length + 1) capv)).cell? ⟨g, 2, none⟩ = some (.slice av (rs.length + 1) capv) := b2.cell 2
  have n1 : ∀ k, Value.ownBlock (.slice av (rs.length + 1) capv) = some k → ¬ K k := by
    intro k hk
    rcases hv with hv | hv
    · exact k1 k (.inr (.inl (hv ▸ hk)))
    · rw [hv] at hk
      simp at hk
      intro hK
      have := k0 k hK
      omega
  have R : Hid (SK K (w'.setCell ⟨g, 2, none⟩ (.slice av (rs.length + 1) capv)) g most used (rs ++ [none]) [] ∧ Kp K w (w'.setCell ⟨g, 2, none⟩ (.slice av (rs.length + 1) capv))) := by
    have kp : Kp K w w' := ((Kp.refl K w).alloc _).grown gr (fun k hk => k1 k (.inr (.inl hk)))
    refine ⟨⟨fun k hk => by have := k0 k hk; have := kp.size; simp [World.setCell]; omega, .slice av (rs.length + 1) capv, .slice ab 0 cab, ?_, ?_⟩, kp.setCell _ _ _ (k1 g (.inl rfl))⟩
    · have sm2 : ∀ k, k ≠ g → (w'.setCell ⟨g, 2, none⟩ (.slice av (rs.length + 1) capv)).heap[k]? = w'.heap[k]? := fun k hk => Below.heap_setCell w' ⟨g, 2, none⟩ _ k hk
      have ob : w'.ownsRow 0 28 1 (.slice ab 0 cab) 0 (u32s []) := owns_same a.backs (fun k hk => sm k (a.backs.lt k hk).2 (owns_apart2 a.backs a.rows (by decide) k hk))
      refine ⟨b2, owns_same o2 (fun k hk => sm2 k (fun e => owns_apart o2 b' (by decide) (e ▸ hk))), owns_same ob (fun k hk => sm2 k (fun e => owns_apart ob b' (by decide) (e ▸ hk))), ?_, ?_⟩
      · intro i q l ws hi
        have hi' : rs[i]? = some (some (q, l, ws)) := by
          rw [List.getElem?_append] at hi
          split at hi
          · exact hi
          · rw [List.getElem?_singleton] at hi
            split at hi <;> simp at hi
        have bq := a.words i q l ws hi'
        have bq' := bq.same (sm q bq.blk.lt (owns_apart a.rows bq.blk (by decide)))
        exact bq'.same (sm2 q (blk_apart bq'.blk b' (by decide)))
      · intro i j q l l' ws ws' hi hj
        have dn : ∀ (i l : Nat) (ws : List Int), (rs ++ [none])[i]? = some (some (q, l, ws)) → rs[i]? = some (some (q, l, ws)) := by
          intro i l ws hi
          rw [List.getElem?_append] at hi
          split at hi
          · exact hi
          · rw [List.getElem?_singleton] at hi
            split at hi <;> simp at hi
        exact a.apart i j q l l' ws ws' (dn i l ws hi) (dn j l' ws' hj)
    · rintro k (hk | hk | hk | ⟨i, l, ws, hi⟩)
      · exact k1 k (.inl hk)
      · exact n1 k hk
      · exact k1 k (.inr (.inr (.inl hk)))
      · refine k1 k (.inr (.inr (.inr ⟨i, l, ws, ?_⟩)))
        rw [List.getElem?_append] at hi
        split at hi
        · exact hi
        · rw [List.getElem?_singleton] at hi
          split at hi <;> simp at hi
  have e1 : IntKind.u32.wrap ((rs.length + 1 : Nat) : Int) = ((rs.length + 1 : Nat) : Int) := by rw [IntKind.wrap_u32]; omega
  clear a o o2 gr hv k1 k0 n1 sm ne b2 h1 h2 h3 h4
  go_enter Try.func26, Try.ntmps26
  go_wp2_with (at_builtin; refine wpList_append_run rfl _ _ _ _ rfl _ _ _ _ rfl rfl r ?_)
  go_ret
  exact ⟨ret_int (by first | rfl | omega | (rw [IntKind.wrap_u32]; omega)), R.out⟩

end Go.Proofs.Ytaoabjcbolncoaa
