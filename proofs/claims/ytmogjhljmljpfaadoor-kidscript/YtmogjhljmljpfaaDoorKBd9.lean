/- KidBands. -/
import Derived.Test.YtmogjhljmljpfaaDoorKAw9
namespace Go.Proofs.YtmogjhljmljpfaaDoor
set_option maxRecDepth 20000
open Go.RowKit Go.Sort
set_option linter.unusedVariables false
set_option linter.unusedSimpArgs false

theorem cnt_more (f : Nat → Nat) (b x : Nat) (hb : b < 256) (hf : f b = 0) (hx : x ≠ 0) : cntF (upd f b x) = cntF f + 1 := by
  rw [cnt_put f b x hb hx, cnt_out f b hb hf]
theorem cnt_same (f : Nat → Nat) (b x : Nat) (hb : b < 256) (hf : f b ≠ 0) (hx : x ≠ 0) : cntF (upd f b x) = cntF f := by
  rw [cnt_put f b x hb hx, cnt_in f b hb hf]
theorem cnt_less (f : Nat → Nat) (b : Nat) (hb : b < 256) (hf : f b ≠ 0) : cntF (upd f b 0) + 1 = cntF f := by
  rw [cnt_drop f b hb, cnt_in f b hb hf]
/-- The i-th byte, M apart. -/
def btK (F : Int) (M i : Nat) : Nat := ((F + (i : Int) * (M : Int)) % 256).toNat
theorem btK_lt (F : Int) (M i : Nat) : btK F M i < 256 := by unfold btK; omega
theorem btK_cast (F : Int) (M i : Nat) : ((btK F M i : Nat) : Int) = (F + (i : Int) * (M : Int)) % 256 := by unfold btK; omega
theorem bt7 (F : Int) {i j : Nat} (hi : i < 256) (hj : j < 256) (h : btK F 7 i = btK F 7 j) : i = j := by
  have h1 := btK_cast F 7 i
  have h2 := btK_cast F 7 j
  rw [h] at h1
  omega
theorem bt13 (F : Int) {i j : Nat} (hi : i < 256) (hj : j < 256) (h : btK F 13 i = btK F 13 j) : i = j := by
  have h1 := btK_cast F 13 i
  have h2 := btK_cast F 13 j
  rw [h] at h1
  omega
/-- The first i of them, each with its number. -/
def fU (F : Int) : Nat → Nat → Nat
  | 0 => f0
  | i + 1 => upd (fU F i) (btK F 7 i) (i + 1)
theorem fU_zero (F : Int) (b : Nat) : ∀ i, (∀ j, j < i → btK F 7 j ≠ b) → fU F i b = 0
  | 0, _ => rfl
  | i + 1, h => by
    show upd _ _ _ b = 0
    rw [upd_other _ _ _ _ (fun e => h i (by omega) e.symm)]
    exact fU_zero F b i (fun j hj => h j (by omega))
theorem fU_new (F : Int) (i : Nat) (hi : i < 256) : fU F i (btK F 7 i) = 0 := fU_zero F _ i (fun j hj e => by have := bt7 F (by omega) hi e; omega)
theorem fU_cnt (F : Int) : ∀ i, i ≤ 256 → cntF (fU F i) = i
  | 0, _ => by show cntF f0 = 0; decide +kernel
  | i + 1, h => by
    show cntF (upd _ _ _) = _
    rw [cnt_more _ _ _ (btK_lt _ _ _) (fU_new F i (by omega)) (by omega), fU_cnt F i (by omega)]
theorem fU_at (F : Int) (j : Nat) : ∀ i, j < i → i ≤ 256 → fU F i (btK F 7 j) = j + 1
  | i + 1, h, h2 => by
    show upd _ _ _ _ = _
    by_cases e : j = i
    · subst e; rw [upd_same]
    · rw [upd_other _ _ _ _ (fun e2 => e (bt7 F (by omega) (by omega) e2)), fU_at F j i (by omega) (by omega)]
def sU (i : Nat) : Nat := if i < 5 then 0 else if i < 17 then 1 else if i < 49 then 2 else 3
theorem sU_up (F : Int) (i : Nat) (hi : i < 256) : upK (sU i) (cntF (upd (fU F i) (btK F 7 i) (i + 1))) = sU (i + 1) := by
  have : cntF (upd (fU F i) (btK F 7 i) (i + 1)) = i + 1 := fU_cnt F (i + 1) (by omega)
  rw [this]
  unfold upK sU
  by_cases h1 : i < 5
  · rw [if_pos h1]
    show (if 4 < i + 1 then _ else _) = _
    by_cases h2 : i = 4
    · subst h2; rfl
    · rw [if_neg (by omega), if_pos (by omega)]
  · rw [if_neg h1]
    by_cases h2 : i < 17
    · rw [if_pos h2]
      show (if 16 < i + 1 then _ else _) = _
      by_cases h3 : i = 16
      · subst h3; rfl
      · rw [if_neg (by omega), if_neg (by omega), if_pos (by omega)]
    · rw [if_neg h2]
      by_cases h3 : i < 49
      · rw [if_pos h3]
        show (if 48 < i + 1 then _ else _) = _
        by_cases h4 : i = 48
        · subst h4; rfl
        · rw [if_neg (by omega), if_neg (by omega), if_neg (by omega), if_pos (by omega)]
      · rw [if_neg h3]
        show (if 256 < i + 1 then _ else _) = _
        rw [if_neg (by omega), if_neg (by omega), if_neg (by omega), if_neg (by omega)]
/-- m of them, the first i taken away again. -/
def fD (F : Int) (m : Nat) : Nat → Nat → Nat
  | 0 => fU F m
  | i + 1 => upd (fD F m i) (btK F 7 i) 0
theorem fD_at (F : Int) (m j : Nat) (hj : j < m) (hm : m ≤ 256) : ∀ i, i ≤ j → fD F m i (btK F 7 j) = j + 1
  | 0, _ => fU_at F j m hj hm
  | i + 1, h => by
    show upd _ _ _ _ = _
    rw [upd_other _ _ _ _ (fun e => by have := bt7 F (by omega) (by omega) e; omega), fD_at F m j hj hm i (by omega)]
theorem fD_cnt (F : Int) (m : Nat) (hm : m ≤ 256) : ∀ i, i ≤ m → cntF (fD F m i) = m - i
  | 0, _ => fU_cnt F m hm
  | i + 1, h => by
    have h1 := cnt_less (fD F m i) (btK F 7 i) (btK_lt _ _ _) (by rw [fD_at F m i (by omega) hm i (by omega)]; omega)
    have h2 := fD_cnt F m hm i (by omega)
    show cntF (upd _ _ _) = _
    omega
/-- The kind has more than so few. -/
def Ample (s c : Nat) : Prop := s ≤ 3 ∧ fewN s < (c : Int)
theorem ample_up (i : Nat) : Ample (sU i) i := by
  unfold Ample sU
  split
  · exact ⟨by omega, by show (-1 : Int) < _; omega⟩
  · split
    · exact ⟨by omega, by show (3 : Int) < _; omega⟩
    · split
      · exact ⟨by omega, by show (12 : Int) < _; omega⟩
      · exact ⟨by omega, by show (40 : Int) < _; omega⟩
theorem ample_down {s c : Nat} (h : Ample s (c + 1)) : Ample (downK s c) c := by
  obtain ⟨h1, h2⟩ := h
  unfold downK
  have : s = 0 ∨ s = 1 ∨ s = 2 ∨ s = 3 := by omega
  rcases this with rfl | rfl | rfl | rfl
  · have h2' : (-1 : Int) < ((c + 1 : Nat) : Int) := h2
    rw [if_neg (by show ¬ ((c : Int) ≤ -1); omega)]
    exact ⟨by omega, by show (-1 : Int) < _; omega⟩
  · have h2' : (3 : Int) < ((c + 1 : Nat) : Int) := h2
    split
    · exact ⟨by omega, by show (-1 : Int) < _; omega⟩
    · rename_i h; exact ⟨by omega, by have h' : ¬ (c : Int) ≤ 3 := h; show (3 : Int) < _; omega⟩
  · have h2' : (12 : Int) < ((c + 1 : Nat) : Int) := h2
    split
    · exact ⟨by omega, by show (3 : Int) < _; omega⟩
    · rename_i h; exact ⟨by omega, by have h' : ¬ (c : Int) ≤ 12 := h; show (12 : Int) < _; omega⟩
  · have h2' : (40 : Int) < ((c + 1 : Nat) : Int) := h2
    split
    · exact ⟨by omega, by show (12 : Int) < _; omega⟩
    · rename_i h; exact ⟨by omega, by have h' : ¬ (c : Int) ≤ 40 := h; show (40 : Int) < _; omega⟩
/-- When it becomes the kind before. -/
theorem down_when {s c : Nat} (h : Ample s (c + 1)) : downK s c = if s = 3 ∧ c = 40 ∨ s = 2 ∧ c = 12 ∨ s = 1 ∧ c = 3 then s - 1 else s := by
  obtain ⟨h1, h2⟩ := h
  unfold downK
  have : s = 0 ∨ s = 1 ∨ s = 2 ∨ s = 3 := by omega
  rcases this with rfl | rfl | rfl | rfl
  · rw [if_neg (by show ¬ ((c : Int) ≤ -1); omega), if_neg (by omega)]
  · have h2' : (3 : Int) < ((c + 1 : Nat) : Int) := h2
    by_cases hc : c = 3
    · subst hc; rfl
    · rw [if_neg (by show ¬ ((c : Int) ≤ 3); omega), if_neg (by omega)]
  · have h2' : (12 : Int) < ((c + 1 : Nat) : Int) := h2
    by_cases hc : c = 12
    · subst hc; rfl
    · rw [if_neg (by show ¬ ((c : Int) ≤ 12); omega), if_neg (by omega)]
  · have h2' : (40 : Int) < ((c + 1 : Nat) : Int) := h2
    by_cases hc : c = 40
    · subst hc; rfl
    · rw [if_neg (by show ¬ ((c : Int) ≤ 40); omega), if_neg (by omega)]

theorem btc (F : Int) (M i : Nat) (h : M ≤ 13 ∧ i ≤ 1000) (m : Int) (hm : m = (M : Int)) : wrap64 (F + (i : Int) * m) % 256 = ((btK F M i : Nat) : Int) := by
  rw [btK_cast, hm]
  unfold wrap64
  omega
theorem sU_step (i : Nat) : sU (i + 1) = if i + 1 = 5 ∨ i + 1 = 17 ∨ i + 1 = 49 then sU i + 1 else sU i := by
  unfold sU
  by_cases h1 : i < 5
  · rw [if_pos h1]
    by_cases h2 : i = 4
    · subst h2; rfl
    · rw [if_pos (by omega), if_neg (by omega)]
  · rw [if_neg h1, if_neg (by omega)]
    by_cases h2 : i < 17
    · rw [if_pos h2]
      by_cases h3 : i = 16
      · subst h3; rfl
      · rw [if_pos (by omega), if_neg (by omega)]
    · rw [if_neg h2, if_neg (by omega)]
      by_cases h3 : i < 49
      · rw [if_pos h3]
        by_cases h4 : i = 48
        · subst h4; rfl
        · rw [if_pos (by omega), if_neg (by omega)]
      · rw [if_neg h3, if_neg (by omega), if_neg (by omega)]
theorem sU_le (i : Nat) : sU i ≤ 3 := (ample_up i).1

theorem klen_nil (w : World) : Calls Tryd.prog 17 #[.pointer none] w fun r w' => r = .returned (.int .i64 0) ∧ w' = w := by
  go_enter Tryd.func17, Tryd.ntmps17
  go_wp2
  go_ret
  exact ⟨rfl, rfl⟩
theorem kkind_nil (w : World) : Calls Tryd.prog 16 #[.pointer none] w fun r w' => r = .returned (.int .i64 0) ∧ w' = w := by
  go_enter Tryd.func16, Tryd.ntmps16
  go_wp2
  go_ret
  exact ⟨rfl, rfl⟩
theorem kbytes_nil (w : World) : Calls Tryd.prog 18 #[.pointer none] w fun r w' => r = .returned (.slice none 0 0) ∧ w' = w := by
  go_enter Tryd.func18, Tryd.ntmps18
  go_wp2
  go_ret
  exact ⟨rfl, rfl⟩

set_option maxHeartbeats 3200000 in
theorem bands_any (many from_ take : Int) (h0 : -9223372036854775808 ≤ many) (h1 : many ≤ 9223372036854775807) (h2 : -9223372036854775808 ≤ from_) (h3 : from_ ≤ 9223372036854775807) (h4 : -9223372036854775808 ≤ take) (h5 : take ≤ 9223372036854775807) (w : World) (T : Tb w) :
    Calls Tryd.prog 4 #[.int .i64 many, .int .i64 from_, .int .i64 take] w fun e w' => e = .returned (.bool true) ∧ Below w.heap.size w w' := by
  obtain ⟨m, hm, -, L0⟩ := low_nat many 257 h0 h1 (by omega) (by omega)
  obtain ⟨t, ht, -, L1⟩ := low_nat take 257 h4 h5 (by omega) (by omega)
  have HL0 := hide L0
  have HL1 := hide L1
  have HT := hide T
  have Hsz := hide T.two
  clear L0 L1 h0 h1 h4 h5 T
  go_enter Tryd.func4, Tryd.ntmps4
  go_wp2_with fail
  refine (HL0.out _).mono ?_
  rintro e w0 ⟨rfl, rfl⟩
  go_wp2_with fail
  refine (HL1.out _).mono ?_
  rintro e w0' ⟨rfl, rfl⟩
  clear HL0 HL1
  go_wp2_with fail
  refine (new_any w0').mono ?_
  rintro e w1 ⟨g, rfl, -, m1, f1⟩
  have M1 : Hid (Kd g (sU 0) (fU from_ 0) (fun k => k < w0'.heap.size) w1) := m1
  have F1 := hide f1
  clear m1 f1
  go_wp2_with fail
  go_loopw [8, 9] (fun u v wr => ∃ i : Nat, v = .int .i64 i ∧ i ≤ m ∧ u = .int .i64 (6 + (sU i : Int)) ∧ Hid (Kd g (sU i) (fU from_ i) (fun k => k < w0'.heap.size) wr) ∧ Hid (Below w0'.heap.size w0' wr)) (fun _ v _ => (m - intOf v).toNat)
  case atStart => exact ⟨0, rfl, by omega, rfl, M1.out, F1.out⟩
  case round =>
    obtain ⟨i, rfl, hi, rfl, MW, FW⟩ := hrel
    by_cases him : i < m
    · have T2 := HT.out.below FW.out Hsz.out
      have P := kput_new MW.out T2 (by show 0 < _; have := Hsz.out; omega) (by show 1 < _; have := Hsz.out; omega) (btK from_ 7 i) (btK_lt _ _ _) (fU_new from_ i (by omega)) (i + 1) (by omega) (by omega)
      rw [sU_up from_ i (by omega), show ((i + 1 : Nat) : Int) = (i : Int) + 1 by omega, ← btc from_ 7 i (by omega) 7 (by omega)] at P
      have HP := hide P
      clear P T2
      go_wp2_with fail
      refine HP.out.mono ?_
      rintro r w2 ⟨rfl, m2, k2⟩
      have M2 : Hid (Kd g (sU (i + 1)) (fU from_ (i + 1)) (fun k => k < w0'.heap.size) w2) := m2
      have F2 := hide (bk9 (w0 := w0') k2 FW.out)
      have ES := hide (sU_step i)
      have hS := sU_le i
      have hS' := sU_le (i + 1)
      obtain ⟨f, hf⟩ : ∃ f, f = fU from_ (i + 1) := ⟨_, rfl⟩
      have hc : Hid (cntF f = i + 1) := by show _ = _; rw [hf]; exact fU_cnt from_ (i + 1) (by omega)
      have HF := hide hf
      rw [← hf] at M2
      clear m2 k2 HP hf
      generalize hSS : sU (i + 1) = S' at M2 ES hS'
      have HSS := hide hSS
      clear hSS
      by_cases hj : i + 1 = 5 ∨ i + 1 = 17 ∨ i + 1 = 49
      · have es := ES.out
        rw [if_pos hj] at es
        subst es
        go_wp2_with (first
          | (go_at_call 16; refine (kind_any M2.out).mono ?_; rintro r w3 ⟨rfl, st⟩; have M3 := hide ((Kd.lies _ _ _).still M2.out st); have F3 := hide (bk9 (w0 := w0') (st.kp _) F2.out); have P := len_any M3.out; rw [hc.out] at P; have HP := hide P; clear P)
          | (go_at_call 17; refine HP.out.mono ?_; rintro r w4 ⟨rfl, hw⟩; subst hw))
        all_goals first | (exfalso; rename_i hx hy; simp only [beq_eq_false_iff_ne, beq_iff_eq, ne_eq] at hx hy; omega) | exact ⟨⟨i + 1, by first | rfl | (simp; done) | (simp; omega), by omega, by rw [HSS.out]; first | rfl | (simp; done) | (simp; omega), by rw [HSS.out, ← HF.out]; exact M3, F3⟩, by simp [intOf]; omega⟩
      · have es := ES.out
        rw [if_neg hj] at es
        subst es
        go_wp2_with (first
          | (go_at_call 16; refine (kind_any M2.out).mono ?_; rintro r w3 ⟨rfl, st⟩; have M3 := hide ((Kd.lies _ _ _).still M2.out st); have F3 := hide (bk9 (w0 := w0') (st.kp _) F2.out); have P := len_any M3.out; rw [hc.out] at P; have HP := hide P; clear P)
          | (go_at_call 17; refine HP.out.mono ?_; rintro r w4 ⟨rfl, hw⟩; subst hw))
        all_goals first | (exfalso; rename_i hx hy; simp only [beq_eq_false_iff_ne, beq_iff_eq, ne_eq] at hx hy; omega) | exact ⟨⟨i + 1, by simp, by omega, by rw [HSS.out], by rw [HSS.out, ← HF.out]; exact M3, F3⟩, by simp [intOf]; omega⟩
    · obtain rfl : i = m := by omega
      have hi256 : i ≤ 256 := by omega
      have A0 := hide (ample_up i)
      clear M1 F1 hi him
      generalize hS : sU i = S at MW A0
      clear hS
      go_wp2_with fail
      go_loopw [8, 10] (fun u v wr => ∃ j S : Nat, v = .int .i64 j ∧ j ≤ i ∧ u = .int .i64 (6 + (S : Int)) ∧ Hid (Ample S (i - j)) ∧ Hid (Kd g S (fD from_ i j) (fun k => k < w0'.heap.size) wr) ∧ Hid (Below w0'.heap.size w0' wr)) (fun _ v _ => (i - intOf v).toNat)
      case atStart => exact ⟨0, S, rfl, by omega, rfl, A0, MW, FW⟩
      case round =>
        obtain ⟨j, S, rfl, hj, rfl, AJ, MJ, FJ⟩ := hrel
        by_cases hji : j < i
        · by_cases hjt : j < t
          · have T2 := HT.out.below FJ.out Hsz.out
            have hat := fD_at from_ i j hji hi256 j (by omega)
            have P := kdrop_there MJ.out T2 (by show 0 < _; have := Hsz.out; omega) (by show 1 < _; have := Hsz.out; omega) (btK from_ 7 j) (btK_lt _ _ _) (by rw [hat]; omega)
            obtain ⟨C, hC⟩ : ∃ C : Nat, C = i - (j + 1) := ⟨_, rfl⟩
            have hcn : cntF (upd (fD from_ i j) (btK from_ 7 j) 0) = C := by rw [hC]; exact fD_cnt from_ i hi256 (j + 1) (by omega)
            have A1 : Ample S (C + 1) := by have := AJ.out; rw [show i - j = C + 1 by omega] at this; exact this
            have hS3 := A1.1
            rw [hcn, hat, show ((j + 1 : Nat) : Int) = (j : Int) + 1 by omega, ← btc from_ 7 j (by omega) 7 (by omega), down_when A1] at P
            have AN := hide (ample_down A1)
            rw [down_when A1] at AN
            have HP := hide P
            have hCi : Hid ((C : Int) = (i : Int) - 1 - (j : Int)) := by show _ = _; omega
            have HCN := hide hcn
            have HC := hide hC
            clear P T2 hat hcn A1 hC
            go_wp2_with fail
            refine HP.out.mono ?_
            rintro r w2 ⟨rfl, m2, k2⟩
            obtain ⟨f, hf⟩ : ∃ f, f = fD from_ i (j + 1) := ⟨_, rfl⟩
            have hf2 : upd (fD from_ i j) (btK from_ 7 j) 0 = f := hf.symm
            rw [hf2] at m2
            have hcl := HCN.out
            rw [hf2] at hcl
            have M2 := hide m2
            have F2 := hide (bk9 (w0 := w0') k2 FJ.out)
            have HF := hide hf
            have P := len_any m2
            rw [hcl, hCi.out] at P
            have HL := hide P
            clear P hf hf2 hcl m2 k2 HP HCN
            have kk := fun s' (h : Kd g s' f (fun k => k < w0'.heap.size) w2) => kind_any h
            by_cases hz : S = 3 ∧ C = 40 ∨ S = 2 ∧ C = 12 ∨ S = 1 ∧ C = 3
            · rw [if_pos hz] at M2 AN
              have hp : 0 < S := by omega
              go_wp2_with (first
                | (go_at_call 17; refine HL.out.mono ?_; rintro r w4 ⟨rfl, hw⟩; subst hw)
                | (go_at_call 16; refine (kind_any M2.out).mono ?_; rintro r w3 ⟨rfl, st⟩; have M3 := hide ((Kd.lies _ _ _).still M2.out st); have F3 := hide (bk9 (w0 := w0') (st.kp _) F2.out)))
              all_goals have hcc := hCi.out
              all_goals first
                | exact ⟨⟨j + 1, S - 1, congrArg (Value.int .i64) (by omega), by omega, congrArg (Value.int .i64) (by omega), by rw [← HC.out]; exact AN, by rw [← HF.out]; exact M3, F3⟩, by simp [intOf]; omega⟩
                | (exfalso; try simp only [beq_eq_false_iff_ne, beq_iff_eq, bne_iff_ne, bne_eq_false_iff_eq, ne_eq] at *
                   omega)
            · rw [if_neg hz] at M2 AN
              go_wp2_with (first
                | (go_at_call 17; refine HL.out.mono ?_; rintro r w4 ⟨rfl, hw⟩; subst hw)
                | (go_at_call 16; refine (kind_any M2.out).mono ?_; rintro r w3 ⟨rfl, st⟩; have M3 := hide ((Kd.lies _ _ _).still M2.out st); have F3 := hide (bk9 (w0 := w0') (st.kp _) F2.out)))
              all_goals have hcc := hCi.out
              all_goals first
                | exact ⟨⟨j + 1, S, congrArg (Value.int .i64) (by omega), by omega, congrArg (Value.int .i64) (by omega), by rw [← HC.out]; exact AN, by rw [← HF.out]; exact M3, F3⟩, by simp [intOf]; omega⟩
                | (exfalso; try simp only [beq_eq_false_iff_ne, beq_iff_eq, bne_iff_ne, bne_eq_false_iff_eq, ne_eq] at *
                   omega)
          · have hjt' : ¬ ((j : Int) < (t : Int)) := by omega
            clear MJ AJ MW A0
            have AW := hide (awakek_any _ (HT.out.below FJ.out Hsz.out))
            go_wp2_with (first
              | (go_at_call 12; refine (kdrop_nil 1).mono ?_; rintro r w3 ⟨rfl, hw⟩; subst hw)
              | (go_at_call 10; refine (kput_nil 1 1).mono ?_; rintro r w3 ⟨rfl, hw⟩; subst hw)
              | (go_at_call 17; refine (klen_nil _).mono ?_; rintro r w3 ⟨rfl, hw⟩; subst hw)
              | (go_at_call 16; refine (kkind_nil _).mono ?_; rintro r w3 ⟨rfl, hw⟩; subst hw)
              | (go_at_call 18; refine (kbytes_nil _).mono ?_; rintro r w3 ⟨rfl, hw⟩; subst hw)
              | (go_at_call 7; refine AW.out.mono ?_; rintro r w9 ⟨rfl, f9⟩; have F9 := hide (FJ.out.trans (f9.mono FJ.out.size)); clear f9))
            go_ret
            exact ⟨rfl, F9.out⟩
        · have hji' : ¬ ((j : Int) < (i : Int)) := by omega
          clear MJ AJ MW A0
          have AW := hide (awakek_any _ (HT.out.below FJ.out Hsz.out))
          go_wp2_with (first
            | (go_at_call 12; refine (kdrop_nil 1).mono ?_; rintro r w3 ⟨rfl, hw⟩; subst hw)
            | (go_at_call 10; refine (kput_nil 1 1).mono ?_; rintro r w3 ⟨rfl, hw⟩; subst hw)
            | (go_at_call 17; refine (klen_nil _).mono ?_; rintro r w3 ⟨rfl, hw⟩; subst hw)
            | (go_at_call 16; refine (kkind_nil _).mono ?_; rintro r w3 ⟨rfl, hw⟩; subst hw)
            | (go_at_call 18; refine (kbytes_nil _).mono ?_; rintro r w3 ⟨rfl, hw⟩; subst hw)
            | (go_at_call 7; refine AW.out.mono ?_; rintro r w9 ⟨rfl, f9⟩; have F9 := hide (FJ.out.trans (f9.mono FJ.out.size)); clear f9))
          go_ret
          exact ⟨rfl, F9.out⟩
end Go.Proofs.YtmogjhljmljpfaaDoor
