/- KidOrders. -/
import Derived.Test.YtmogjhljmljpfaaDoorKBd9
namespace Go.Proofs.YtmogjhljmljpfaaDoor
set_option maxRecDepth 20000
open Go.RowKit Go.Sort
set_option linter.unusedVariables false
set_option linter.unusedSimpArgs false

/-- Each of the first m bytes has its number, and no other one has any. -/
def Holds (F : Int) (m : Nat) (f : Nat → Nat) : Prop := (∀ j, j < m → f (btK F 13 j) = j + 1) ∧ ∀ b, (∀ j, j < m → btK F 13 j ≠ b) → f b = 0
theorem Holds.same {F : Int} {m : Nat} {f h : Nat → Nat} (a : Holds F m f) (b : Holds F m h) : f = h := by
  funext c
  by_cases e : ∃ j, j < m ∧ btK F 13 j = c
  · obtain ⟨j, hj, rfl⟩ := e
    rw [a.1 j hj, b.1 j hj]
  · rw [a.2 c (fun j hj e2 => e ⟨j, hj, e2⟩), b.2 c (fun j hj e2 => e ⟨j, hj, e2⟩)]
/-- The i-th in the turned order. -/
def kk (t m i : Nat) : Nat := (i + t) % m
theorem kk_eq {t m i : Nat} (hi : i < m) : kk t m i = if i + t % m < m then i + t % m else i + t % m - m := by
  have hr : t % m < m := Nat.mod_lt _ (by omega)
  unfold kk
  rw [Nat.add_mod, Nat.mod_eq_of_lt hi]
  split
  · exact Nat.mod_eq_of_lt (by assumption)
  · rw [Nat.mod_eq_sub_mod (by omega), Nat.mod_eq_of_lt (by omega)]
theorem kk_lt {t m i : Nat} (hi : i < m) : kk t m i < m := Nat.mod_lt _ (by omega)
theorem kk_inj {t m i j : Nat} (hi : i < m) (hj : j < m) (h : kk t m i = kk t m j) : i = j := by
  have hr : t % m < m := Nat.mod_lt _ (by omega)
  rw [kk_eq hi, kk_eq hj] at h
  split at h <;> split at h <;> omega
theorem kk_onto {t m j : Nat} (hj : j < m) : ∃ i, i < m ∧ kk t m i = j := by
  have hr : t % m < m := Nat.mod_lt _ (by omega)
  by_cases h : t % m ≤ j
  · refine ⟨j - t % m, by omega, ?_⟩
    rw [kk_eq (by omega), if_pos (by omega)]; omega
  · refine ⟨j + m - t % m, by omega, ?_⟩
    rw [kk_eq (by omega), if_neg (by omega)]; omega
/-- Put in the order of c. -/
def fO (F : Int) (c : Nat → Nat) : Nat → Nat → Nat
  | 0 => f0
  | i + 1 => upd (fO F c i) (btK F 13 (c i)) (c i + 1)
/-- An order of the numbers below m. -/
structure Rota (m : Nat) (c : Nat → Nat) : Prop where
  le : m ≤ 256
  lt : ∀ i, i < m → c i < m
  inj : ∀ i j, i < m → j < m → c i = c j → i = j
section
variable {F : Int} {c : Nat → Nat} {m : Nat}
theorem fO_zero (o : Rota m c) (b : Nat) : ∀ i, i ≤ m → (∀ j, j < i → btK F 13 (c j) ≠ b) → fO F c i b = 0
  | 0, _, _ => rfl
  | i + 1, hi, h => by
    show upd _ _ _ b = 0
    rw [upd_other _ _ _ _ (fun e => h i (by omega) e.symm)]
    exact fO_zero o b i (by omega) (fun j hj => h j (by omega))
theorem fO_new (o : Rota m c) (i : Nat) (hi : i < m) : fO F c i (btK F 13 (c i)) = 0 := fO_zero o _ i (by omega) (fun j hj e => by
  have hm := o.le
  have e1 := bt13 F (by have := o.lt j (by omega); omega) (by have := o.lt i hi; omega) e
  have := o.inj j i (by omega) hi e1; omega)
theorem fO_cnt (o : Rota m c) : ∀ i, i ≤ m → cntF (fO F c i) = i
  | 0, _ => by show cntF f0 = 0; decide +kernel
  | i + 1, h => by
    show cntF (upd _ _ _) = _
    rw [cnt_more _ _ _ (btK_lt _ _ _) (fO_new o i (by omega)) (by omega), fO_cnt o i (by omega)]
theorem fO_at (o : Rota m c) (j : Nat) : ∀ i, j < i → i ≤ m → fO F c i (btK F 13 (c j)) = c j + 1
  | i + 1, h, hi => by
    show upd _ _ _ _ = _
    have hm := o.le
    by_cases e : j = i
    · subst e; rw [upd_same]
    · rw [upd_other _ _ _ _ (fun e2 => e (o.inj j i (by omega) (by omega) (bt13 F (by have := o.lt j (by omega); omega) (by have := o.lt i (by omega); omega) e2))), fO_at o j i (by omega) (by omega)]
theorem fO_up (o : Rota m c) (i : Nat) (hi : i < m) : upK (sU i) (cntF (upd (fO F c i) (btK F 13 (c i)) (c i + 1))) = sU (i + 1) := by
  have hm := o.le
  have : cntF (upd (fO F c i) (btK F 13 (c i)) (c i + 1)) = i + 1 := fO_cnt o (i + 1) (by omega)
  rw [this]
  have h7 := sU_up 0 i (by omega)
  have : cntF (upd (fU 0 i) (btK 0 7 i) (i + 1)) = i + 1 := fU_cnt 0 (i + 1) (by omega)
  rwa [this] at h7
theorem fO_holds (o : Rota m c) (h3 : ∀ j, j < m → ∃ i, i < m ∧ c i = j) : Holds F m (fO F c m) := by
  refine ⟨fun j hj => ?_, fun b hb => fO_zero o b m (by omega) (fun j hj => hb _ (o.lt j hj))⟩
  obtain ⟨i, hi, rfl⟩ := h3 j hj
  exact fO_at o i m hi (by omega)
end
theorem rota_id {m : Nat} (hm : m ≤ 256) : Rota m id := ⟨hm, fun _ h => h, fun _ _ _ _ h => h⟩
theorem rota_kk {m : Nat} (hm : m ≤ 256) (t : Nat) : Rota m (kk t m) := ⟨hm, fun _ h => kk_lt h, fun _ _ => kk_inj⟩
theorem fO_both (F : Int) {m : Nat} (hm : m ≤ 256) (t : Nat) : fO F (kk t m) m = fO F id m :=
  (fO_holds (rota_kk hm t) (fun j hj => kk_onto hj)).same (fO_holds (rota_id hm) (fun j hj => ⟨j, hj, rfl⟩))
/-- The first i of them put again. -/
def fAg (F : Int) (f : Nat → Nat) : Nat → Nat → Nat
  | 0 => f
  | i + 1 => upd (fAg F f i) (btK F 13 i) (1000 + i)
theorem fAg_at {F : Int} {m : Nat} {f : Nat → Nat} (h : Holds F m f) (hm : m ≤ 256) (j : Nat) (hj : j < m) : ∀ i, i ≤ j → fAg F f i (btK F 13 j) = j + 1
  | 0, _ => h.1 j hj
  | i + 1, hi => by
    show upd _ _ _ _ = _
    rw [upd_other _ _ _ _ (fun e => by have := bt13 F (by omega) (by omega) e; omega), fAg_at h hm j hj i (by omega)]
theorem fAg_cnt {F : Int} {m : Nat} {f : Nat → Nat} (h : Holds F m f) (hm : m ≤ 256) : ∀ i, i ≤ m → cntF (fAg F f i) = cntF f
  | 0, _ => rfl
  | i + 1, hi => by
    show cntF (upd _ _ _) = _
    rw [cnt_same _ _ _ (btK_lt _ _ _) (by rw [fAg_at h hm i (by omega) i (by omega)]; omega) (by omega), fAg_cnt h hm i (by omega)]

section
variable {A B : Shape} {ga gb s : Nat} {f : Nat → Nat} {K : Nat → Prop} {w : World}
theorem b_putL (h : Both (Kd ga s f) B K w) (T : Tb w) (hK0 : K 0) (hK1 : K 1) (b : Nat) (hb : b < 256) (hf : f b = 0) (x : Nat) (hx : x ≠ 0) (hx2 : x < 4294967296) : Calls Tryd.prog 10 #[.pointer (some ⟨ga, 0, none⟩), .int .u8 (b : Int), .int .u32 (x : Int)] w fun r w' => r = .returned (.int .i64 0) ∧ Both (Kd ga (upK s (cntF (upd f b x))) (upd f b x)) B K w' ∧ Kp K w w' := by
  obtain ⟨K1, hk, a, back⟩ := h.left
  exact (kput_new a T (hk 0 hK0) (hk 1 hK1) b hb hf x hx hx2).mono (fun r w' ⟨e, a', k⟩ => ⟨e, back w' _ (Kd.lies _ _ _) a' k⟩)
theorem b_putR (h : Both A (Kd gb s f) K w) (T : Tb w) (hK0 : K 0) (hK1 : K 1) (b : Nat) (hb : b < 256) (hf : f b = 0) (x : Nat) (hx : x ≠ 0) (hx2 : x < 4294967296) : Calls Tryd.prog 10 #[.pointer (some ⟨gb, 0, none⟩), .int .u8 (b : Int), .int .u32 (x : Int)] w fun r w' => r = .returned (.int .i64 0) ∧ Both A (Kd gb (upK s (cntF (upd f b x))) (upd f b x)) K w' ∧ Kp K w w' := by
  obtain ⟨K1, hk, a, back⟩ := h.right
  exact (kput_new a T (hk 0 hK0) (hk 1 hK1) b hb hf x hx hx2).mono (fun r w' ⟨e, a', k⟩ => ⟨e, back w' _ (Kd.lies _ _ _) a' k⟩)
theorem b_againL (h : Both (Kd ga s f) B K w) (b : Nat) (hb : b < 256) (hf : f b ≠ 0) (x : Nat) (hx : x ≠ 0) (hx2 : x < 4294967296) : Calls Tryd.prog 10 #[.pointer (some ⟨ga, 0, none⟩), .int .u8 (b : Int), .int .u32 (x : Int)] w fun r w' => r = .returned (.int .i64 0) ∧ Both (Kd ga s (upd f b x)) B K w' ∧ Kp K w w' := by
  obtain ⟨K1, hk, a, back⟩ := h.left
  exact (kput_there a b hb hf x hx hx2).mono (fun r w' ⟨e, a', k⟩ => ⟨e, back w' _ (Kd.lies _ _ _) a' k⟩)
theorem b_L (h : Both (Kd ga s f) B K w) : ∃ K1, Kd ga s f K1 w := let ⟨K1, _, a, _⟩ := h.left; ⟨K1, a⟩
theorem b_R (h : Both A (Kd gb s f) K w) : ∃ K1, Kd gb s f K1 w := let ⟨K1, _, a, _⟩ := h.right; ⟨K1, a⟩
end

set_option maxHeartbeats 3200000 in
theorem orders_any (many turn from_ : Int) (h0 : -9223372036854775808 ≤ many) (h1 : many ≤ 9223372036854775807) (h4 : -9223372036854775808 ≤ turn) (h5 : turn ≤ 9223372036854775807) (h2 : -9223372036854775808 ≤ from_) (h3 : from_ ≤ 9223372036854775807) (w : World) (T : Tb w) :
    Calls Tryd.prog 6 #[.int .i64 many, .int .i64 turn, .int .i64 from_] w fun e w' => e = .returned (.bool true) ∧ Below w.heap.size w w' := by
  obtain ⟨m, hm, -, L0⟩ := low_nat many 257 h0 h1 (by omega) (by omega)
  obtain ⟨t, ht, -, L1⟩ := low_nat turn 256 h4 h5 (by omega) (by omega)
  have HL0 := hide L0
  have HL1 := hide L1
  have HT := hide T
  have Hsz := hide T.two
  clear L0 L1 h0 h1 h4 h5 T
  go_enter Tryd.func6, Tryd.ntmps6
  go_wp2_with fail
  refine (HL0.out _).mono ?_
  rintro e w0 ⟨rfl, rfl⟩
  clear HL0
  go_wp2_with fail
  refine (new_any w0).mono ?_
  rintro e w1 ⟨ga, rfl, -, m1, f1⟩
  have M1 := hide m1
  have F1 := hide f1
  clear m1 f1
  go_wp2_with fail
  refine (new_any w1).mono ?_
  rintro e w2 ⟨gb, rfl, -, m2, f2⟩
  have M2 := hide (Both.of (Kd.lies _ _ _) (Kd.lies _ _ _) M1.out m2 f2)
  have F2 := hide (F1.out.trans (f2.mono F1.out.size))
  clear m2 f2 M1 F1
  go_wp2_with fail
  go_loopw [9] (fun v wr => ∃ i : Nat, v = .int .i64 i ∧ i ≤ m ∧ Hid (Both (Kd ga (sU i) (fO from_ id i)) (Kd gb (sU i) (fO from_ (kk t m) i)) (fun k => k < w0.heap.size) wr) ∧ Hid (Below w0.heap.size w0 wr)) (fun v _ => (m - intOf v).toNat)
  case atStart => exact ⟨0, rfl, by omega, M2.out, F2.out⟩
  case round =>
    obtain ⟨i, rfl, hi, MW, FW⟩ := hrel
    by_cases him : i < m
    · have T2 := HT.out.below FW.out Hsz.out
      have P := b_putL MW.out T2 (by show 0 < _; have := Hsz.out; omega) (by show 1 < _; have := Hsz.out; omega) (btK from_ 13 i) (btK_lt _ _ _) (fO_new (rota_id (by omega)) i him) (i + 1) (by omega) (by omega)
      have eu := fO_up (F := from_) (rota_id (m := m) (by omega)) i him
      simp only [id] at eu
      rw [eu, show ((i + 1 : Nat) : Int) = (i : Int) + 1 by omega, ← btc from_ 13 i (by omega) 13 (by omega)] at P
      have HP := hide P
      have hkl := kk_lt (t := t) him
      have hke : (((i : Int) + (t : Int)).tmod (m : Int)) = ((kk t m i : Nat) : Int) := by
        unfold kk; rw [Int.natCast_emod, Int.natCast_add, Int.tmod_eq_emod_of_nonneg (by omega)]
      clear P T2 eu
      go_wp2_with fail
      refine (HL1.out _).mono ?_
      rintro e w3 ⟨rfl, hw⟩
      subst hw
      go_wp2_with fail
      refine HP.out.mono ?_
      rintro r w4 ⟨rfl, m4, k4⟩
      have M4 : Hid (Both (Kd ga (sU (i + 1)) (fO from_ id (i + 1))) (Kd gb (sU i) (fO from_ (kk t m) i)) (fun k => k < w0.heap.size) w4) := m4
      have F4 := hide (bk9 (w0 := w0) k4 FW.out)
      clear m4 k4 HP
      have T4 := HT.out.below F4.out Hsz.out
      have P := b_putR M4.out T4 (by show 0 < _; have := Hsz.out; omega) (by show 1 < _; have := Hsz.out; omega) (btK from_ 13 (kk t m i)) (btK_lt _ _ _) (fO_new (rota_kk (by omega) t) i him) (kk t m i + 1) (by omega) (by omega)
      rw [fO_up (rota_kk (by omega) t) i him, show ((kk t m i + 1 : Nat) : Int) = (kk t m i : Int) + 1 by omega, ← btc from_ 13 (kk t m i) (by omega) 13 (by omega)] at P
      have HP := hide P
      clear P T4
      go_wp2_with fail
      refine HP.out.mono ?_
      rintro r w5 ⟨rfl, m5, k5⟩
      have M5 : Hid (Both (Kd ga (sU (i + 1)) (fO from_ id (i + 1))) (Kd gb (sU (i + 1)) (fO from_ (kk t m) (i + 1))) (fun k => k < w0.heap.size) w5) := m5
      have F5 := hide (bk9 (w0 := w0) k5 F4.out)
      clear m5 k5 HP
      go_wp2
      go_roundw
      case rel => exact ⟨i + 1, by go_num, by omega, M5.out, F5.out⟩
      case measure => simp [intOf]; omega
    · obtain rfl : i = m := by omega
      have hi256 : i ≤ 256 := by omega
      have hH := fO_holds (F := from_) (rota_id hi256) (fun j hj => ⟨j, hj, rfl⟩)
      rw [fO_both from_ hi256 t] at MW
      have hc := fO_cnt (F := from_) (rota_id hi256) i (by omega)
      have hs3 := sU_le i
      generalize fO from_ id i = f at MW hH hc
      generalize sU i = S at MW hs3
      have HH := hide hH
      have HC := hide hc
      clear hH hc HL1 M2 F2
      have T2 := HT.out.below FW.out Hsz.out
      obtain ⟨KA, a0⟩ := b_L MW.out
      go_wp2_with fail
      refine (kind_any a0).mono ?_
      rintro r w3 ⟨rfl, st⟩
      have M3 := hide ((Both.lies _ _).still MW.out st)
      have F3 := hide (bk9 (w0 := w0) (st.kp _) FW.out)
      clear st a0 KA MW T2
      obtain ⟨KB, b0⟩ := b_R M3.out
      go_wp2_with fail
      refine (kind_any b0).mono ?_
      rintro r w4 ⟨rfl, st⟩
      have M4 := hide ((Both.lies _ _).still M3.out st)
      have F4 := hide (bk9 (w0 := w0) (st.kp _) F3.out)
      clear st b0 KB M3
      obtain ⟨KA, a0⟩ := b_L M4.out
      have P := len_any a0
      rw [HC.out] at P
      have HP := hide P
      clear P
      go_wp2_with fail
      refine HP.out.mono ?_
      rintro r w5 ⟨rfl, hw⟩
      subst hw
      clear HP a0 KA
      obtain ⟨KB, b0⟩ := b_R M4.out
      have P := len_any b0
      rw [HC.out] at P
      have HP := hide P
      clear P
      go_wp2_with fail
      refine HP.out.mono ?_
      rintro r w6 ⟨rfl, hw⟩
      subst hw
      clear HP b0 KB
      obtain ⟨KA, a0⟩ := b_L M4.out
      have P := hide (kbytes_any a0 (HT.out.below F4.out Hsz.out))
      clear a0
      go_wp2_with fail
      refine P.out.mono ?_
      rintro r w7 ⟨v7, rfl, o7, f7⟩
      obtain ⟨a7, c7, rfl, r7⟩ := owns_ints o7 (fun x hx => by simp [bsOf] at hx; omega)
      have R7 := hide r7
      have M7 := hide ((Both.lies _ _).below M4.out f7)
      have F7 := hide (F4.out.trans (f7.mono F4.out.size))
      clear r7 o7 f7 M4 P KA
      obtain ⟨KB, b0⟩ := b_R M7.out
      have P := hide (kbytes_any b0 (HT.out.below F7.out Hsz.out))
      clear b0
      go_wp2_with fail
      refine P.out.mono ?_
      rintro r w8 ⟨v8, rfl, o8, f8⟩
      obtain ⟨a8, c8, rfl, r8⟩ := owns_ints o8 (fun x hx => by simp [bsOf] at hx; omega)
      have R8 := hide (R7.out.below f8 (Nat.le_refl _))
      have R8b := hide r8
      have M8 := hide ((Both.lies _ _).below M7.out f8)
      have F8 := hide (F7.out.trans (f8.mono F7.out.size))
      clear r8 o8 f8 M7 P KB R7
      go_wp2_with fail
      refine (same4 a7 a8 (bsOf f) c7 c8 _ R8.out R8b.out).mono ?_
      rintro r w9 ⟨rfl, f9⟩
      have M9 := hide ((Both.lies _ _).below M8.out f9)
      have F9 := hide (F8.out.trans (f9.mono F8.out.size))
      clear f9 M8 R8 R8b
      go_wp2_with fail
      go_loopw [12] (fun v wr => ∃ j : Nat, v = .int .i64 j ∧ j ≤ i ∧ Hid (Both (Kd ga S (fAg from_ f j)) (Kd gb S f) (fun k => k < w0.heap.size) wr) ∧ Hid (Below w0.heap.size w0 wr)) (fun v _ => (i - intOf v).toNat)
      case atStart => exact ⟨0, rfl, by omega, M9.out, F9.out⟩
      case round =>
        obtain ⟨j, rfl, hj, MJ, FJ⟩ := hrel
        by_cases hji : j < i
        · have hat := fAg_at HH.out hi256 j hji j (by omega)
          have hat2 := HH.out.1 j hji
          obtain ⟨KA, a0⟩ := b_L MJ.out
          have P := get_any a0 (btK from_ 13 j) (btK_lt _ _ _)
          rw [hat, ← btc from_ 13 j (by omega) 13 (by omega)] at P
          have HP := hide P
          clear P a0 KA
          go_wp2_with fail
          refine HP.out.mono ?_
          rintro r w3 ⟨rfl, f3⟩
          have M3 := hide ((Both.lies _ _).below MJ.out f3)
          have F3 := hide (FJ.out.trans (f3.mono FJ.out.size))
          clear f3 HP
          obtain ⟨KB, b0⟩ := b_R M3.out
          have P := get_any b0 (btK from_ 13 j) (btK_lt _ _ _)
          rw [hat2, ← btc from_ 13 j (by omega) 13 (by omega)] at P
          have HP := hide P
          clear P b0 KB
          go_wp2_with fail
          refine HP.out.mono ?_
          rintro r w4 ⟨rfl, f4⟩
          have M4 := hide ((Both.lies _ _).below M3.out f4)
          have F4 := hide (F3.out.trans (f4.mono F3.out.size))
          clear f4 HP M3
          have P := b_againL M4.out (btK from_ 13 j) (btK_lt _ _ _) (by rw [hat]; omega) (1000 + j) (by omega) (by omega)
          rw [show ((1000 + j : Nat) : Int) = 1000 + (j : Int) by omega, ← btc from_ 13 j (by omega) 13 (by omega)] at P
          have HP := hide P
          clear P
          go_wp2_with fail
          refine HP.out.mono ?_
          rintro r w5 ⟨rfl, m5, k5⟩
          have M5 : Hid (Both (Kd ga S (fAg from_ f (j + 1))) (Kd gb S f) (fun k => k < w0.heap.size) w5) := m5
          have F5 := hide (bk9 (w0 := w0) k5 F4.out)
          clear m5 k5 HP M4
          obtain ⟨KA, a0⟩ := b_L M5.out
          have P := get_any a0 (btK from_ 13 j) (btK_lt _ _ _)
          rw [show fAg from_ f (j + 1) (btK from_ 13 j) = 1000 + j from upd_same _ _ _, show ((1000 + j : Nat) : Int) = 1000 + (j : Int) by omega, ← btc from_ 13 j (by omega) 13 (by omega)] at P
          have HP := hide P
          clear P a0 KA
          go_wp2_with fail
          refine HP.out.mono ?_
          rintro r w6 ⟨rfl, f6⟩
          have M6 := hide ((Both.lies _ _).below M5.out f6)
          have F6 := hide (F5.out.trans (f6.mono F5.out.size))
          clear f6 HP M5
          go_wp2
          go_roundw
          case rel => exact ⟨j + 1, by go_num, by omega, M6.out, F6.out⟩
          case measure => simp [intOf]; omega
        · obtain rfl : j = i := by omega
          have hcg := fAg_cnt HH.out hi256 j (by omega)
          rw [HC.out] at hcg
          generalize fAg from_ f j = h at MJ hcg
          have HCG := hide hcg
          clear hcg
          obtain ⟨KA, a0⟩ := b_L MJ.out
          go_wp2_with fail
          refine (kind_any a0).mono ?_
          rintro r w3 ⟨rfl, st⟩
          have M3 := hide ((Both.lies _ _).still MJ.out st)
          have F3 := hide (bk9 (w0 := w0) (st.kp _) FJ.out)
          clear st a0 KA
          obtain ⟨KA, a0⟩ := b_L M3.out
          have P := len_any a0
          rw [HCG.out] at P
          have HP := hide P
          clear P a0
          go_wp2_with fail
          refine HP.out.mono ?_
          rintro r w5 ⟨rfl, hw⟩
          subst hw
          have AW := hide (awakek_any _ (HT.out.below F3.out Hsz.out))
          clear HP
          go_wp2_with fail
          refine AW.out.mono ?_
          rintro r w9 ⟨rfl, f9⟩
          have F10 := hide (F3.out.trans (f9.mono F3.out.size))
          clear f9
          go_wp2
          go_ret
          exact ⟨rfl, F10.out⟩
end Go.Proofs.YtmogjhljmljpfaaDoor
