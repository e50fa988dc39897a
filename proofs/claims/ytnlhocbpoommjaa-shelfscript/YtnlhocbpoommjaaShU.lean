/- Split. -/
import Derived.Test.YtnlhocbpoommjaaShT
namespace Go.Proofs.Ytnlhocbpoommjaa.Sh
open Go.RowKit Go.Sort Go.Proofs.Ytnlhocbpoommjaa
set_option linter.unusedVariables false
set_option maxRecDepth 20000

/-- Is the first key the one without bytes? -/
def headE (ps : List KV) : Nat := if (ps[0]?).map Prod.fst = some [] then 1 else 0
theorem headE_le (ps : List KV) : headE ps ≤ ps.length := by
  unfold headE
  split
  · rename_i h
    cases ps with
    | nil => simp at h
    | cons p ps => simp
  · omega
theorem drop_keys {ps : List KV} (h : Ups ps) : ∀ p ∈ ps.drop (headE ps), p.1 ≠ [] := by
  intro p hp hk
  obtain ⟨i, hi, he⟩ := mem_dropI hp
  have hlt := (List.getElem?_eq_some_iff.1 he).1
  obtain ⟨p0, h0⟩ : ∃ p0, ps[0]? = some p0 := ⟨ps[0], List.getElem?_eq_getElem (by omega)⟩
  unfold headE at hi
  by_cases hi0 : i = 0
  · subst hi0
    rw [he] at hi
    simp [hk] at hi
  · have := ups_get h h0 he (by omega)
    rw [hk] at this
    cases hp0 : p0.1 with
    | nil => rw [hp0, cmpK_nil'] at this; simp at this
    | cons x k => rw [hp0, cmpK_nil'] at this; simp at this
def SplitS (w w' : World) (ps : List KV) (r : Ending) : Prop := ∃ a c fs a' c' gs, r = .returned (.tuple #[.slice a fs.length c, .slice a' gs.length c']) ∧ Lst w.heap.size w' (.slice a fs.length c) fs ∧ fs.map Ent.kv = ps.take (headE ps) ∧ LL w.heap.size w' (.slice a' gs.length c') gs ∧ gs.map (fun x => x.2.map Ent.kv) = (grpM (ps.drop (headE ps))).2 ∧ Below w.heap.size w w'
set_option maxHeartbeats 2000000 in
theorem split_any {g : Nat} {ps : List KV} {K : Nat → Prop} (w : World) (h : Md g ps K w) :
    Calls Try.prog 49 #[.pointer (some ⟨g, 0, none⟩)] w fun r w' => SplitS w w' ps r := by
  obtain ⟨F, v, es, h⟩ := h
  obtain ⟨a, c, rfl, hr⟩ := h.rp
  have R := hide (rising_any g a es.length c w h.hd)
  have hks : ∀ e ∈ es, e.k.length ≤ 65535 ∧ e.c = e.k.length := fun e he => ⟨(h.ks e he).2.1, h.cs e he⟩
  have hdk := drop_keys h.up
  rw [← h.kv] at hdk ⊢
  have hcap : a = none ∧ es.length = 0 ∧ c = 0 ∨ ∃ b, a = some ⟨b, 0, none⟩ ∧ es.length ≤ c := by
    rcases h.row.2 with ⟨e0, e1⟩ | ⟨b, cap, cur, e0, _, hg, h1, h2, h3, h4⟩
    · simp only [Value.slice.injEq] at e0
      exact .inl ⟨e0.1, e1, e0.2.2⟩
    · simp only [Value.slice.injEq] at e0
      obtain ⟨rfl, -, rfl⟩ := e0
      exact .inr ⟨b, rfl, h1⟩
  have HR := hide hr
  have HKS := hide hks
  have HDK := hide hdk
  have hn := hr.1
  clear h hr hks hdk
  rcases hcap with ⟨rfl, h0, rfl⟩ | ⟨b, rfl, hc1⟩
  · obtain rfl : es = [] := List.eq_nil_of_length_eq_zero h0
    have HC : Hid (∀ w', Below w.heap.size w w' → Calls Try.prog 69 #[.slice none 0 0] w' fun r w'' => LAns w' w'' [] r) := fun w' f => copies_l [] none 0 w' (Rp.nil _ _) (by simp)
    have HB : Hid (∀ w', Below w.heap.size w w' → Calls Try.prog 78 #[.slice none 0 0] w' fun r w'' => ∃ a' c' gs, r = .returned (.slice a' gs.length c') ∧ LL w'.heap.size w'' (.slice a' gs.length c') gs ∧ gs.map (fun x => x.2.map Ent.kv) = (grpM []).2 ∧ Below w'.heap.size w' w'') := fun w' f => byFirst_any [] none 0 w' (Rp.nil _ _) (by simp)
    have E1 : Hid (([] : List KV) = (([] : List Ent).map Ent.kv).take (headE (([] : List Ent).map Ent.kv))) := by show _ = _; simp
    have E2 : Hid (grpM [] = grpM ((([] : List Ent).map Ent.kv).drop (headE (([] : List Ent).map Ent.kv)))) := by show _ = _; simp
    go_enter Try.func49, Try.ntmps49
    go_wp2_with fail
    refine R.out.mono ?_
    rintro e w1 ⟨rfl, hw⟩
    subst hw
    have FD : Below w1.heap.size w1 w1.drew := Below.drewN' (Below.refl _ _) 1
    go_wp2_with fail
    go_region_law (first
      | (go_simp; go_at_call 69; refine (HC.out _ FD).mono ?_; rintro r w2 ⟨a2, c2, fs, rfl, l2, k2, f2⟩; have LX := hide l2; have KX := hide k2; have FX := hide f2; have HB2 := hide (HB.out w2 (FD.trans (f2.mono (Nat.le_refl _)))); clear l2 k2 f2)
      | (go_simp; go_at_call 78; refine HB2.out.mono ?_; rintro r w3 ⟨a3, c3, gs, rfl, l3, k3, f3⟩; have LY := hide l3; have KY := hide k3; have FY := hide f3; clear l3 k3 f3))
    all_goals
      go_wp2
      go_ret2
      refine ⟨a2, c2, fs, a3, c3, gs, rfl, LX.out.below FY.out, ?_, LY.out.down ?_, ?_, ?_⟩
      · rw [KX.out]; exact E1.out
      · have := FX.out.size; exact this
      · rw [KY.out, E2.out]
      · exact FD.trans (FX.out.trans (FY.out.mono FX.out.size))
  · cases es with
    | nil =>
      have hhE : headE (([] : List Ent).map Ent.kv) = 0 := rfl
      simp only [List.length_nil] at R hc1 hn
      have hE : headE (([] : List Ent).map Ent.kv) = 0 := hhE
      have HC : Hid (∀ w', Below w.heap.size w w' → Calls Try.prog 69 #[.slice (some ⟨b, 0, none⟩) 0 c] w' fun r w'' => LAns w' w'' [] r) := fun w' f => copies_l [] (some ⟨b, 0, none⟩) c w' (Rp.nil _ _) (by simp)
      have HB : Hid (∀ w', Below w.heap.size w w' → Calls Try.prog 78 #[.slice (some ⟨b, 0, none⟩) 0 c] w' fun r w'' => ∃ a' c' gs, r = .returned (.slice a' gs.length c') ∧ LL w'.heap.size w'' (.slice a' gs.length c') gs ∧ gs.map (fun x => x.2.map Ent.kv) = (grpM (([] : List Ent).map Ent.kv)).2 ∧ Below w'.heap.size w' w'') := fun w' f => byFirst_any [] (some ⟨b, 0, none⟩) c w' (HR.out.below f (Nat.le_refl _)) (fun e he => ⟨HDK.out e.kv (by rw [hE]; exact List.mem_map_of_mem he), HKS.out e he⟩)
      have E1 : Hid (([] : List KV) = (([] : List Ent).map Ent.kv).take (headE (([] : List Ent).map Ent.kv))) := by show _ = _; rw [hE]; rfl
      have E2 : Hid (grpM (([] : List Ent).map Ent.kv) = grpM ((([] : List Ent).map Ent.kv).drop (headE (([] : List Ent).map Ent.kv)))) := by show _ = _; rw [hE]; rfl
      clear hE hhE
      go_enter Try.func49, Try.ntmps49
      go_wp2_with fail
      refine R.out.mono ?_
      rintro e w1 ⟨rfl, hw⟩
      subst hw
      have FD : Below w1.heap.size w1 w1.drew := Below.drewN' (Below.refl _ _) 1
      go_wp2_with fail
      go_region_law (first
        | (go_simp; go_at_call 69; refine (HC.out _ FD).mono ?_; rintro r w2 ⟨a2, c2, fs, rfl, l2, k2, f2⟩; have LX := hide l2; have KX := hide k2; have FX := hide f2; have HB2 := hide (HB.out w2 (FD.trans (f2.mono (Nat.le_refl _)))); clear l2 k2 f2)
        | (go_simp; go_at_call 78; refine HB2.out.mono ?_; rintro r w3 ⟨a3, c3, gs, rfl, l3, k3, f3⟩; have LY := hide l3; have KY := hide k3; have FY := hide f3; clear l3 k3 f3))
      all_goals
        go_wp2
        go_ret2
        refine ⟨a2, c2, fs, a3, c3, gs, rfl, LX.out.below FY.out, ?_, LY.out.down ?_, ?_, ?_⟩
        · rw [KX.out]; exact E1.out
        · have := FX.out.size; exact this
        · rw [KY.out, E2.out]
        · exact FD.trans (FX.out.trans (FY.out.mono FX.out.size))

    | cons e0 es' =>
      obtain ⟨b', off, ea, c0, c1⟩ := HR.out.cells (i := 0) (e := e0) rfl
      simp only [Option.some.injEq, Addr.mk.injEq] at ea
      obtain ⟨rfl, rfl, -⟩ := ea
      simp only [Nat.zero_mul, Nat.add_zero, Nat.zero_add] at c0 c1
      by_cases hk0 : e0.k = []
      · have hhE : headE ((e0 :: es').map Ent.kv) = 1 := by unfold headE; simp [Ent.kv, hk0]
        have hkl : e0.k.length = 0 := by rw [hk0]; rfl
        rw [hkl] at c0
        simp only [List.length_cons] at R hc1 hn
        have q1 : (1 : Int) ≤ (c : Int) := by omega
        have q2 : (1 : Int) ≤ (es'.length : Int) + 1 := by omega
        have q3 : (0 : Int) < (es'.length : Int) + 1 := by omega
        have hrw := HR.out
        have HC : Hid (∀ w', Below w.heap.size w w' → Calls Try.prog 69 #[.slice (some ⟨b, 0, none⟩) 1 c] w' fun r w'' => LAns w' w'' [e0.kv] r) := fun w' f => copies_l [e0] (some ⟨b, 0, none⟩) c w' ((HR.out.below f (Nat.le_refl _)).take 1) (by intro e he; simp at he; subst he; have := (HKS.out e (by simp)).1; omega)
        obtain ⟨o2, ho2⟩ : ∃ o2, (if c = 1 then some (⟨b, 0, none⟩ : Addr) else some ⟨b, 2, none⟩) = some ⟨b, o2, none⟩ := by
          by_cases h : c = 1
          · exact ⟨0, by rw [if_pos h]⟩
          · exact ⟨2, by rw [if_neg h]⟩
        have hr2 : Hid (∀ w', Below w.heap.size w w' → Rp w' (some ⟨b, o2, none⟩) es') := fun w' f => by
          rw [← ho2]
          by_cases h : c = 1
          · rw [if_pos h]
            have : es' = [] := List.eq_nil_of_length_eq_zero (by omega)
            rw [this]; exact Rp.nil _ _
          · rw [if_neg h]
            have := (HR.out.below f (Nat.le_refl _)).drop 1
            simpa using this
        have HB : Hid (∀ w', Below w.heap.size w w' → Calls Try.prog 78 #[.slice (some ⟨b, o2, none⟩) es'.length (c - 1)] w' fun r w'' => ∃ a' c' gs, r = .returned (.slice a' gs.length c') ∧ LL w'.heap.size w'' (.slice a' gs.length c') gs ∧ gs.map (fun x => x.2.map Ent.kv) = (grpM (es'.map Ent.kv)).2 ∧ Below w'.heap.size w' w'') := fun w' f => byFirst_any es' (some ⟨b, o2, none⟩) (c - 1) w' (hr2.out w' f) (fun e he => ⟨HDK.out e.kv (by rw [hhE]; exact List.mem_map_of_mem he), HKS.out e (by simp [he])⟩)
        have E1 : Hid ([e0.kv] = ((e0 :: es').map Ent.kv).take (headE ((e0 :: es').map Ent.kv))) := by show _ = _; rw [hhE]; rfl
        have E2 : Hid (grpM (es'.map Ent.kv) = grpM (((e0 :: es').map Ent.kv).drop (headE ((e0 :: es').map Ent.kv)))) := by show _ = _; rw [hhE]; rfl
        clear hhE
        go_enter Try.func49, Try.ntmps49
        go_wp2_with fail
        refine R.out.mono ?_
        rintro e w1 ⟨rfl, hw⟩
        subst hw
        have FD : Below w1.heap.size w1 w1.drew := Below.drewN' (Below.refl _ _) 1
        go_wp2_with fail
        go_region_law (first
          | (go_simp; go_at_call 69; refine (HC.out _ FD).mono ?_; rintro r w2 ⟨a2, c2, fs, rfl, l2, k2, f2⟩; have LX := hide l2; have KX := hide k2; have FX := hide f2; have HB2 := hide (HB.out w2 (FD.trans (f2.mono (Nat.le_refl _)))); clear l2 k2 f2)
          | (go_simp; go_at_call 78; refine HB2.out.mono ?_; rintro r w3 ⟨a3, c3, gs, rfl, l3, k3, f3⟩; have LY := hide l3; have KY := hide k3; have FY := hide f3; clear l3 k3 f3))
        all_goals
          go_wp2
          go_ret2
          refine ⟨a2, c2, fs, a3, c3, gs, rfl, LX.out.below FY.out, ?_, LY.out.down ?_, ?_, ?_⟩
          · rw [KX.out]; exact E1.out
          · have := FX.out.size; exact this
          · rw [KY.out, E2.out]
          · exact FD.trans (FX.out.trans (FY.out.mono FX.out.size))
      · have hhE : headE ((e0 :: es').map Ent.kv) = 0 := by unfold headE; simp [Ent.kv, hk0]
        have hkl : ((e0.k.length : Int) == 0) = false := by simpa using hk0
        have q3 : (0 : Int) < (es'.length : Int) + 1 := by omega
        have q4 : (0 : Int) ≤ (es'.length : Int) + 1 := by omega
        have q5 : (es'.length : Int) + 1 ≤ (c : Int) := by simp at hc1; omega
        have hE : headE ((e0 :: es').map Ent.kv) = 0 := hhE
        have HC : Hid (∀ w', Below w.heap.size w w' → Calls Try.prog 69 #[.slice (some ⟨b, 0, none⟩) 0 c] w' fun r w'' => LAns w' w'' [] r) := fun w' f => copies_l [] (some ⟨b, 0, none⟩) c w' (Rp.nil _ _) (by simp)
        have HB : Hid (∀ w', Below w.heap.size w w' → Calls Try.prog 78 #[.slice (some ⟨b, 0, none⟩) (es'.length + 1) c] w' fun r w'' => ∃ a' c' gs, r = .returned (.slice a' gs.length c') ∧ LL w'.heap.size w'' (.slice a' gs.length c') gs ∧ gs.map (fun x => x.2.map Ent.kv) = (grpM ((e0 :: es').map Ent.kv)).2 ∧ Below w'.heap.size w' w'') := fun w' f => byFirst_any (e0 :: es') (some ⟨b, 0, none⟩) c w' (HR.out.below f (Nat.le_refl _)) (fun e he => ⟨HDK.out e.kv (by rw [hE]; exact List.mem_map_of_mem he), HKS.out e he⟩)
        have E1 : Hid (([] : List KV) = ((e0 :: es').map Ent.kv).take (headE ((e0 :: es').map Ent.kv))) := by show _ = _; rw [hE]; rfl
        have E2 : Hid (grpM ((e0 :: es').map Ent.kv) = grpM (((e0 :: es').map Ent.kv).drop (headE ((e0 :: es').map Ent.kv)))) := by show _ = _; rw [hE]; rfl
        clear hE hhE
        go_enter Try.func49, Try.ntmps49
        go_wp2_with fail
        refine R.out.mono ?_
        rintro e w1 ⟨rfl, hw⟩
        subst hw
        have FD : Below w1.heap.size w1 w1.drew := Below.drewN' (Below.refl _ _) 1
        go_wp2_with fail
        go_region_law (first
          | (go_simp; go_at_call 69; refine (HC.out _ FD).mono ?_; rintro r w2 ⟨a2, c2, fs, rfl, l2, k2, f2⟩; have LX := hide l2; have KX := hide k2; have FX := hide f2; have HB2 := hide (HB.out w2 (FD.trans (f2.mono (Nat.le_refl _)))); clear l2 k2 f2)
          | (go_simp; go_at_call 78; refine HB2.out.mono ?_; rintro r w3 ⟨a3, c3, gs, rfl, l3, k3, f3⟩; have LY := hide l3; have KY := hide k3; have FY := hide f3; clear l3 k3 f3))
        all_goals
          go_wp2
          go_ret2
          refine ⟨a2, c2, fs, a3, c3, gs, rfl, LX.out.below FY.out, ?_, LY.out.down ?_, ?_, ?_⟩
          · rw [KX.out]; exact E1.out
          · have := FX.out.size; exact this
          · rw [KY.out, E2.out]
          · exact FD.trans (FX.out.trans (FY.out.mono FX.out.size))

end Go.Proofs.Ytnlhocbpoommjaa.Sh
