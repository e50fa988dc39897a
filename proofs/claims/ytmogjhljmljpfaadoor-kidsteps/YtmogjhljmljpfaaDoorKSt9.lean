/- KidSteps. -/
import Derived.Test.YtmogjhljmljpfaaDoorKSc9
namespace Go.Proofs.YtmogjhljmljpfaaDoor
open Go.RowKit Go.Sort
set_option linter.unusedVariables false
set_option linter.unusedSimpArgs false
set_option maxRecDepth 100000

set_option maxHeartbeats 3200000 in
theorem steps_any9 (a : Option Addr) (xs : List Nat) (ca : Nat) (w : World) (ha : Rd w a (ints xs)) (hx : ∀ x ∈ xs, x < 256) (b : Option Addr) (bs : List Bool) (cb : Nat) (hbo : Bo w b bs) (T : Tb w) (hxl : xs.length ≤ 256) (hbl : bs.length ≤ 256) :
    Calls Tryd.prog 5 #[.slice a xs.length ca, .slice b bs.length cb] w fun e w' => e = .returned (.bool true) ∧ Below w.heap.size w w' := by
  have HT := hide T
  have Hsz := hide T.two
  have HA := hide ha
  have HB := hide hbo
  have HX : Hid (∀ i, xs.getD i 0 < 256) := fun i => by
    rw [List.getD_eq_getElem?_getD]
    by_cases hi : i < xs.length
    · rw [List.getElem?_eq_getElem hi]; exact hx _ (List.getElem_mem _)
    · rw [List.getElem?_eq_none (by omega)]; decide
  clear T ha hbo hx
  obtain ⟨zv, zs⟩ := zero_arr
  obtain ⟨Z, hZ⟩ : ∃ Z, Z = (u32s (arrF f0)).toArray := ⟨_, rfl⟩
  rw [← hZ] at zv
  have HZ := hide hZ
  clear hZ
  go_enter Tryd.func5, Tryd.ntmps5
  go_wp2_with fail
  refine (new_any w).mono ?_
  rintro e w1 ⟨g, rfl, -, m1, f1⟩
  have S1 := hide (StK.of m1 f1 Z HZ.out)
  clear m1 f1
  obtain ⟨hb, hhb⟩ : ∃ hb, hb = w1.heap.size := ⟨_, rfl⟩
  go_wp2_with fail
  rw [← hhb] at S1 ⊢
  clear hhb
  go_loopw [7] (fun v wr => ∃ (i S : Nat) (f : Nat → Nat), v = .int .i64 i ∧ i ≤ xs.length ∧ Hid (StK w g hb S f f wr)) (fun v _ => (xs.length - intOf v).toNat)
  case atStart => exact ⟨0, 0, f0, rfl, by omega, S1⟩
  case round =>
    obtain ⟨i, S, f, rfl, hi, SW⟩ := hrel
    by_cases hil : i < xs.length
    · obtain ⟨qa, oa, rfl, hca⟩ := rdn_at (HA.out.below SW.out.bl (Nat.le_refl _)) i hil
      have ci := hca i hil
      have hy := HX.out i
      have P := SW.out.put HT.out (xs.getD i 0) hy (i + 1) (by omega) (by omega)
      rw [show ((i + 1 : Nat) : Int) = (i : Int) + 1 by omega] at P
      have HP := hide P
      clear hca P
      have hyi : Hid (∀ u, Rd u (some ⟨qa, oa, none⟩) (ints xs) → u.cell? ⟨qa, oa + i, none⟩ = some (.int .u8 ((xs.getD i 0 : Nat) : Int))) := fun u hu => by
        obtain ⟨q', o', e, hc⟩ := rdn_at hu i hil
        simp only [Option.some.injEq, Addr.mk.injEq] at e
        obtain ⟨rfl, rfl, -⟩ := e
        exact hc i hil
      generalize xs.getD i 0 = y at *
      go_wp2_with fail
      refine HP.out.mono ?_
      rintro r w2 ⟨rfl, S', s2⟩
      have ci2 := hyi.out w2 (HA.out.below s2.bl (Nat.le_refl _))
      have fz := s2.ar.frozen y
      have cy := s2.cell y hy
      have S2 := hide s2
      clear ci s2 HP
      go_wp2_with fail
      go_roundw
      case rel =>
        have S3 := S2.out.store y (i + 1) hy
        rw [show ((i + 1 : Nat) : Int) = (i : Int) + 1 by omega] at S3
        exact ⟨i + 1, S', _, by go_num, by omega, S3⟩
      case measure => simp [intOf]; omega
    · clear S1
      go_wp2_with fail
      go_loopw [8] (fun v wr => ∃ (i S : Nat) (f : Nat → Nat), v = .int .i64 i ∧ i ≤ xs.length ∧ Hid (StK w g hb S f f wr)) (fun v _ => (xs.length - intOf v).toNat)
      case atStart => exact ⟨0, S, f, rfl, by omega, SW⟩
      case round =>
        clear hil hi SW
        obtain ⟨i, S, f, rfl, hi, SW⟩ := hrel
        by_cases hc : i < xs.length ∧ i < bs.length
        · obtain ⟨hil, hib⟩ := hc
          obtain ⟨qa, oa, rfl, hca⟩ := rdn_at (HA.out.below SW.out.bl (Nat.le_refl _)) i hil
          obtain ⟨qb, ob, rfl, hcb⟩ := (HB.out.below SW.out.bl (Nat.le_refl _)).at i hib
          have ci := hca i hil
          have cb' := hcb i hib
          have hy := HX.out i
          have P := hide (SW.out.drop HT.out (xs.getD i 0) hy)
          clear hca hcb
          have hyi : Hid (∀ u, Rd u (some ⟨qa, oa, none⟩) (ints xs) → u.cell? ⟨qa, oa + i, none⟩ = some (.int .u8 ((xs.getD i 0 : Nat) : Int))) := fun u hu => by
            obtain ⟨q', o', e, hc⟩ := rdn_at hu i hil
            simp only [Option.some.injEq, Addr.mk.injEq] at e
            obtain ⟨rfl, rfl, -⟩ := e
            exact hc i hil
          generalize xs.getD i 0 = y at *
          cases hbv : bs.getD i false with
          | true =>
            rw [hbv] at cb'
            go_wp2_with fail
            refine P.out.mono ?_
            rintro r w2 ⟨rfl, S', s2⟩
            have ci2 := hyi.out w2 (HA.out.below s2.bl (Nat.le_refl _))
            have fz := s2.ar.frozen y
            have cy := s2.cell y hy
            have S2 := hide s2
            clear ci cb' s2 P
            go_wp2_with fail
            go_roundw
            case rel => exact ⟨i + 1, S', _, by go_num, by omega, S2.out.store y 0 hy⟩
            case measure => simp [intOf]; omega
          | false =>
            rw [hbv] at cb'
            go_wp2_with fail
            go_roundw
            case rel => exact ⟨i + 1, S, f, by go_num, by omega, SW⟩
            case measure => simp [intOf]; omega
        · have hc' : ¬ (i < xs.length) ∨ i < xs.length ∧ ¬ (i < bs.length) := by omega
          clear hc
          rcases hc' with hc | ⟨hc, hc2⟩
          all_goals (
            clear HX HB HA
            go_wp2_with fail
            obtain ⟨L, hL⟩ : ∃ L, L = (bsOf f).length := ⟨_, rfl⟩
            have hL256 : L ≤ 256 := by rw [hL, bs_len]; exact cntF_le f
            have HL := hide hL
            clear hL
            go_loopw [9, 10, 11] (fun m l v wr => ∃ k : Nat, v = .int .i64 k ∧ m = .int .i64 k ∧ l = .int .i64 (dnF f k) ∧ k ≤ L ∧ Hid (StK w g hb S f f wr)) (fun _ _ v _ => (257 - intOf v).toNat)
            case atStart => exact ⟨0, rfl, rfl, rfl, by omega, SW⟩
            case round =>
              obtain ⟨k, rfl, rfl, rfl, hk, SK⟩ := hrel
              have hdn : Hid (dnF f k + 1 = dnF f k + 1) := rfl
              have hlo : -1 ≤ dnF f k ∧ dnF f k < 256 := by
                unfold dnF
                split
                · have := (bs_at f (k - 1) (by rw [← HL.out]; omega)).1; omega
                · omega
              have P := knext_any SK.out.kd (SK.out.tb HT.out) (dnF f k + 1) (by omega)
              rw [nxt_dn SK.out.kd k (by rw [← HL.out]; exact hk)] at P
              clear hdn
              by_cases hkl : k < L
              · have hat := bs_at f k (by rw [← HL.out]; exact hkl)
                have hlt := dn_lt f k (by rw [← HL.out]; exact hkl)
                have hnx : Hid (dnF f (k + 1) = ((bsOf f).getD k 0 : Int)) := by show _ = _; unfold dnF; rw [if_pos (by omega)]; rfl
                rw [show upF f k = ((bsOf f).getD k 0 : Int) by unfold upF; rw [if_pos (by rw [← HL.out]; exact hkl)]] at P
                generalize (bsOf f).getD k 0 = y at *
                obtain ⟨hy, hfy⟩ := hat
                have eat : atF f (y : Int) = f y := by unfold atF; rw [if_neg (by omega)]; simp
                rw [eat] at P
                have HP := hide P
                clear P eat
                have hfy0 : ((f y : Int) == 0) = false := by simp; omega
                have ey : IntKind.u8.wrap (y : Int) = (y : Int) := by rw [IntKind.wrap_u8]; omega
                generalize dnF f k = l at *
                go_wp2_with fail
                refine HP.out.mono ?_
                rintro r w2 ⟨rfl, f2⟩
                have S2 := hide (SK.out.below f2)
                have cy := S2.out.cell y hy
                have HG := hide (get_any S2.out.kd y hy)
                clear f2 HP
                go_wp2_with fail
                refine HG.out.mono ?_
                rintro r w3 ⟨rfl, f3⟩
                have S3 := hide (S2.out.below f3)
                clear f3 HG cy
                go_wp2
                go_roundw
                case rel => exact ⟨k + 1, by go_num, by go_num, by rw [hnx.out], by omega, S3⟩
                case measure => simp [intOf]; omega
              · obtain rfl : k = L := by omega
                rw [show upF f k = -1 by unfold upF; rw [if_neg (by rw [← HL.out]; omega)]] at P
                rw [show atF f (-1) = 0 by rfl] at P
                have HP := hide P
                have hpv := prv_end SK.out.kd
                rw [← HL.out] at hpv
                have HPV := hide hpv
                have hd0 : Hid (k = 0 ∧ dnF f k = -1 ∨ 0 < k ∧ ∃ q : Nat, dnF f k = q ∧ q < 256 ∧ f q ≠ 0) := by
                  by_cases h0 : 0 < k
                  · refine .inr ⟨h0, (bsOf f).getD (k - 1) 0, by unfold dnF; rw [if_pos h0], ?_⟩
                    exact bs_at f (k - 1) (by rw [← HL.out]; omega)
                  · exact .inl ⟨by omega, by unfold dnF; rw [if_neg h0]⟩
                clear P hpv
                generalize dnF f k = l at *
                go_wp2_with fail
                refine HP.out.mono ?_
                rintro r w2 ⟨rfl, f2⟩
                have S2 := hide (SK.out.below f2)
                clear f2 HP SK SW
                go_wp2_with fail
                go_loopw [14, 15] (fun m v wr => ∃ j : Nat, v = .int .i64 j ∧ m = .int .i64 (cntTo f j : Nat) ∧ j ≤ 256 ∧ Hid (StK w g hb S f f wr)) (fun _ v _ => (256 - intOf v).toNat)
                case atStart => exact ⟨0, rfl, rfl, by omega, S2⟩
                case round =>
                  obtain ⟨j, rfl, rfl, hj, SJ⟩ := hrel
                  have hjc := cntTo_le f j
                  by_cases hjl : j < 256
                  · have cy := SJ.out.cell j hjl
                    have h1 := cntTo_yes f j
                    have h2 := cntTo_no f j
                    by_cases hf : f j = 0
                    · have hf0 : ((f j : Int) != 0) = false := by simp; omega
                      have h2 := h2 hf
                      go_wp2_with fail
                      go_roundw
                      case rel => exact ⟨j + 1, by go_num, by rw [h2], by omega, SJ⟩
                      case measure => simp [intOf]; omega
                    · have hf0 : ((f j : Int) != 0) = true := by simp; omega
                      have h1 := h1 hf
                      go_wp2_with fail
                      go_roundw
                      case rel => exact ⟨j + 1, by go_num, by rw [h1]; go_num, by omega, SJ⟩
                      case measure => simp [intOf]; omega
                  · obtain rfl : j = 256 := by omega
                    have ec : cntTo f 256 = k := by rw [HL.out]; rfl
                    rw [ec]
                    clear ec hjc
                    have P := kprev_any SJ.out.kd 255 (by omega)
                    rw [HPV.out] at P
                    have HP := hide P
                    clear P
                    have hlen : cntF f = k := by rw [HL.out, bs_len]
                    have HLN := hide hlen
                    clear hlen
                    have HD0 := hd0.out
                    clear hd0 HL hk hkl hlo hL256
                    have hk256 : k ≤ 256 := by have := cntF_le f; have := HLN.out; omega
                    rcases HD0 with ⟨hk0, rfl⟩ | ⟨hk0, q, rfl, hq, hfq⟩
                    · have hkz : ((k : Int) == 0) = true := by simp; omega
                      rw [show atF f (-1) = 0 by rfl] at HP
                      clear hk0
                      go_wp2_with fail
                      refine HP.out.mono ?_
                      rintro r w4 ⟨rfl, f4⟩
                      have S4 := hide (SJ.out.below f4)
                      clear f4 HP SJ
                      have P := len_any S4.out.kd
                      rw [HLN.out] at P
                      have HL := hide P
                      clear P
                      have AW := hide (awakek_any _ (S4.out.tb HT.out))
                      go_wp2_with (first
                        | (go_at_call 17; refine HL.out.mono ?_; rintro r w5 ⟨rfl, hw⟩; subst hw)
                        | (go_at_call 7; refine AW.out.mono ?_; rintro r w9 ⟨rfl, f9⟩; have F9 := hide (S4.out.bl.trans (f9.mono S4.out.bl.size)); clear f9))
                      go_ret
                      exact ⟨rfl, F9.out⟩
                    · have hkz : ((k : Int) == 0) = false := by simp; omega
                      have hkp : (0 : Int) < (k : Int) := by omega
                      have eat : atF f (q : Int) = f q := by unfold atF; rw [if_neg (by omega)]; simp
                      rw [eat] at HP
                      clear eat hk0
                      go_wp2_with fail
                      refine HP.out.mono ?_
                      rintro r w4 ⟨rfl, f4⟩
                      have S4 := hide (SJ.out.below f4)
                      clear f4 HP SJ
                      have P := len_any S4.out.kd
                      rw [HLN.out] at P
                      have HL := hide P
                      clear P
                      have cq := S4.out.cell q hq
                      have AW := hide (awakek_any _ (S4.out.tb HT.out))
                      go_wp2_with (first
                        | (go_at_call 17; refine HL.out.mono ?_; rintro r w5 ⟨rfl, hw⟩; subst hw)
                        | (go_at_call 7; refine AW.out.mono ?_; rintro r w9 ⟨rfl, f9⟩; have F9 := hide (S4.out.bl.trans (f9.mono S4.out.bl.size)); clear f9))
                      go_ret
                      exact ⟨rfl, F9.out⟩)

set_option maxHeartbeats 1000000 in
theorem steps_all9 (a : Option Addr) (xs : List Int) (ca : Nat) (hx : ∃ ys : List Nat, xs = ints ys ∧ ∀ y ∈ ys, y < 256) (b : Option Addr) (bs : List Bool) (cb : Nat) (w : World) (ha : Rd w a xs) (hbo : Bo w b bs) (T : Tb w) :
    Calls Tryd.prog 5 #[.slice a xs.length ca, .slice b bs.length cb] w fun e w' => e = .returned (.bool true) ∧ Below w.heap.size w w' := by
  obtain ⟨ys, rfl, hy⟩ := hx
  by_cases h : ys.length ≤ 256 ∧ bs.length ≤ 256
  · rw [ints_len]
    exact steps_any9 a ys ca w ha hy b bs cb hbo T h.1 h.2
  · have AW := hide (awakek_any w T)
    have h' : 256 < ys.length ∨ ¬ (256 < ys.length) ∧ 256 < bs.length := by omega
    clear h ha hbo hy T
    rw [ints_len]
    generalize ys.length = n at *
    generalize bs.length = m at *
    rcases h' with h | ⟨h, h2⟩
    · have h1 : (256 : Int) < (n : Int) := by omega
      go_enter Tryd.func5, Tryd.ntmps5
      go_wp2_with (go_at_call 7; refine AW.out.mono ?_; rintro r w9 ⟨rfl, f9⟩; have F9 := hide f9; clear f9)
      go_ret
      exact ⟨rfl, F9.out⟩
    · have h1 : ¬ ((256 : Int) < (n : Int)) := by omega
      have h3 : (256 : Int) < (m : Int) := by omega
      go_enter Tryd.func5, Tryd.ntmps5
      go_wp2_with (go_at_call 7; refine AW.out.mono ?_; rintro r w9 ⟨rfl, f9⟩; have F9 := hide f9; clear f9)
      go_ret
      exact ⟨rfl, F9.out⟩
end Go.Proofs.YtmogjhljmljpfaaDoor
