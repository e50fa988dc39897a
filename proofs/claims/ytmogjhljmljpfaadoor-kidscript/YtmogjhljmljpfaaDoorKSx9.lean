/- KidScript. -/
import Derived.Test.YtmogjhljmljpfaaDoorKSr9
namespace Go.Proofs.YtmogjhljmljpfaaDoor
set_option maxRecDepth 20000
open Go.RowKit Go.Sort
set_option linter.unusedVariables false
set_option linter.unusedSimpArgs false

set_option maxHeartbeats 3200000 in
theorem kscript_any (a : Option Addr) (xs : List Nat) (ca : Nat) (w : World) (ha : Rd w a (ints xs)) (hx : ∀ x ∈ xs, x < 256) (b : Option Addr) (bs : List Bool) (cb : Nat) (hbo : Bo w b bs) (T : Tb w) (hxl : xs.length ≤ 300) (hbl : bs.length ≤ 300) (n : Int) (hn : -9223372036854775808 ≤ n ∧ n ≤ 9223372036854775807) :
    Calls Tryd.prog 3 #[.slice a xs.length ca, .slice b bs.length cb, .int .i64 n] w fun e w' => e = .returned (.bool true) ∧ Below w.heap.size w w' := by
  have HT := hide T
  have HA := hide ha
  have HB := hide hbo
  have HX : Hid (∀ i, xs.getD i 0 < 256) := fun i => by
    rw [List.getD_eq_getElem?_getD]
    by_cases hi : i < xs.length
    · rw [List.getElem?_eq_getElem hi]; exact hx _ (List.getElem_mem _)
    · rw [List.getElem?_eq_none (by omega)]; decide
  clear T ha hbo hx
  go_enter Tryd.func3, Tryd.ntmps3
  go_wp2_with fail
  refine (new_any w).mono ?_
  rintro e w1 ⟨g, rfl, -, m1, f1⟩
  have M1 := hide m1
  have F1 := hide f1
  clear m1 f1
  go_wp2_with fail
  refine (rnew_any w1).mono ?_
  rintro e w2 ⟨r, rfl, m2, f2⟩
  have S2 : Hid (Tw w g r 0 f0 w2) := ⟨Both.of (Kd.lies _ _ _) (Rs.lies _ _ _) M1.out m2 f2, F1.out.trans (f2.mono F1.out.size), by show cntF f0 ≤ 4; decide +kernel, by omega⟩
  clear m2 f2 M1 F1
  go_wp2_with fail
  go_loopw [9] (fun v wr => ∃ (i s : Nat) (f : Nat → Nat), v = .int .i64 i ∧ i ≤ xs.length ∧ Hid (Tw w g r s f wr)) (fun v _ => (xs.length - intOf v).toNat)
  case atStart => exact ⟨0, 0, f0, rfl, by omega, S2⟩
  case round =>
    obtain ⟨i, s, f, rfl, hi, SW⟩ := hrel
    by_cases hil : i < xs.length
    · obtain ⟨qa, oa, rfl, hca⟩ := rdn_at (HA.out.below SW.out.bl (Nat.le_refl _)) i hil
      have ci := hca i hil
      have hy := HX.out i
      have hyi : Hid (∀ u, Below w.heap.size w u → u.cell? ⟨qa, oa + i, none⟩ = some (.int .u8 ((xs.getD i 0 : Nat) : Int))) := fun u hu => by
        obtain ⟨q', o', e, hc⟩ := rdn_at (HA.out.below hu (Nat.le_refl _)) i hil
        simp only [Option.some.injEq, Addr.mk.injEq] at e
        obtain ⟨rfl, rfl, -⟩ := e
        exact hc i hil
      clear hca
      generalize xs.getD i 0 = y at *
      have hyr : -9223372036854775808 ≤ (y : Int) ∧ (y : Int) ≤ 9223372036854775807 := by omega
      have ewi : IntKind.u32.wrap (i : Int) = (i : Int) := by rw [IntKind.wrap_u32]; omega
      rcases (show bs.length ≤ i ∨ i < bs.length by omega) with hib | hib
      · clear HB HX HA
        have hibi : (bs.length : Int) ≤ (i : Int) := by omega
        rcases (show i = 0 ∨ i ≠ 0 by omega) with hi0 | hi0
        · have HI0 := hide hi0
          clear hi0
          go_wp2_with fail
          have SWd := hide SW.out.drew
          have cd := hyi.out _ SWd.out.bl
          go_region_held3 (fun w' => w'.cell? ⟨qa, oa + i, none⟩ = some (.int .u8 (y : Int))) (first | exact cd)
            (first
            | (go_at_call 10; refine (kput_zero' y i HI0.out).mono ?_; rintro e w5 ⟨rfl, hw⟩; subst hw)
            | (go_at_call 11; refine (rput_zero' y i HI0.out).mono ?_; rintro e w6 ⟨rfl, hw⟩; subst hw))
          all_goals (
            have S9 := SWd
            clear SWd cd ci SW
            have c9 := hyi.out _ S9.out.bl
            go_wp2_with fail
            refine (S9.out.same HT.out n hn).mono ?_
            rintro e w10 ⟨rfl, t10⟩
            have g10 := hyi.out _ t10.bl
            have S10 := hide t10
            clear t10 c9
            go_wp2_with fail
            refine (S10.out.same HT.out (y : Int) hyr).mono ?_
            rintro e w11 ⟨rfl, t11⟩
            have S11 := hide t11
            clear t11
            go_wp2
            go_roundw
            case rel => exact ⟨i + 1, _, _, by go_num, by omega, S11.out⟩
            case measure => simp [intOf]; omega
          )
        · have HI0 := hide hi0
          clear hi0
          go_wp2_with fail
          have SWd := hide SW.out.drew
          have cd := hyi.out _ SWd.out.bl
          have hi4 : i < 4294967296 := by omega
          go_region_held3 (fun w' => w'.cell? ⟨qa, oa + i, none⟩ = some (.int .u8 (y : Int))) (first | exact g6 | exact g5 | exact cd)
            (first
            | (go_at_call 10; refine (SWd.out.put HT.out y hy i HI0.out hi4).mono ?_; rintro e w5 ⟨rfl, t5⟩; have g5 := hyi.out _ t5.bl; have S5 := hide t5; clear t5)
            | (go_at_call 11; refine (S5.out.put SWd.out.fit SWd.out.sz hy HI0.out hi4).mono ?_; rintro e w6 ⟨rfl, t6⟩; have g6 := hyi.out _ t6.bl; have S6 := hide t6; clear t6))
          all_goals (
            have S9 := S6
            clear SWd cd ci SW S5 g5 g6 S6
            have c9 := hyi.out _ S9.out.bl
            go_wp2_with fail
            refine (S9.out.same HT.out n hn).mono ?_
            rintro e w10 ⟨rfl, t10⟩
            have g10 := hyi.out _ t10.bl
            have S10 := hide t10
            clear t10 c9
            go_wp2_with fail
            refine (S10.out.same HT.out (y : Int) hyr).mono ?_
            rintro e w11 ⟨rfl, t11⟩
            have S11 := hide t11
            clear t11
            go_wp2
            go_roundw
            case rel => exact ⟨i + 1, _, _, by go_num, by omega, S11.out⟩
            case measure => simp [intOf]; omega
          )

      · obtain ⟨qb, ob, rfl, hcb⟩ := (HB.out.below SW.out.bl (Nat.le_refl _)).at i hib
        have cbb := hcb i hib
        clear hcb
        have hibi : ¬ ((bs.length : Int) ≤ (i : Int)) := by omega
        cases hbv : bs.getD i false with
        | true =>
          rw [hbv] at cbb
          clear HB HX HA
          rcases (show i = 0 ∨ i ≠ 0 by omega) with hi0 | hi0
          · have HI0 := hide hi0
            clear hi0
            go_wp2_with fail
            have SWd := hide SW.out.drew
            have cd := hyi.out _ SWd.out.bl
            go_region_held3 (fun w' => w'.cell? ⟨qa, oa + i, none⟩ = some (.int .u8 (y : Int))) (first | exact cd)
              (first
              | (go_at_call 10; refine (kput_zero' y i HI0.out).mono ?_; rintro e w5 ⟨rfl, hw⟩; subst hw)
              | (go_at_call 11; refine (rput_zero' y i HI0.out).mono ?_; rintro e w6 ⟨rfl, hw⟩; subst hw))
            all_goals (
              have S9 := SWd
              clear SWd cd ci SW
              have c9 := hyi.out _ S9.out.bl
              go_wp2_with fail
              refine (S9.out.same HT.out n hn).mono ?_
              rintro e w10 ⟨rfl, t10⟩
              have g10 := hyi.out _ t10.bl
              have S10 := hide t10
              clear t10 c9
              go_wp2_with fail
              refine (S10.out.same HT.out (y : Int) hyr).mono ?_
              rintro e w11 ⟨rfl, t11⟩
              have S11 := hide t11
              clear t11
              go_wp2
              go_roundw
              case rel => exact ⟨i + 1, _, _, by go_num, by omega, S11.out⟩
              case measure => simp [intOf]; omega
            )
          · have HI0 := hide hi0
            clear hi0
            go_wp2_with fail
            have SWd := hide SW.out.drew
            have cd := hyi.out _ SWd.out.bl
            have hi4 : i < 4294967296 := by omega
            go_region_held3 (fun w' => w'.cell? ⟨qa, oa + i, none⟩ = some (.int .u8 (y : Int))) (first | exact g6 | exact g5 | exact cd)
              (first
              | (go_at_call 10; refine (SWd.out.put HT.out y hy i HI0.out hi4).mono ?_; rintro e w5 ⟨rfl, t5⟩; have g5 := hyi.out _ t5.bl; have S5 := hide t5; clear t5)
              | (go_at_call 11; refine (S5.out.put SWd.out.fit SWd.out.sz hy HI0.out hi4).mono ?_; rintro e w6 ⟨rfl, t6⟩; have g6 := hyi.out _ t6.bl; have S6 := hide t6; clear t6))
            all_goals (
              have S9 := S6
              clear SWd cd ci SW S5 g5 g6 S6
              have c9 := hyi.out _ S9.out.bl
              go_wp2_with fail
              refine (S9.out.same HT.out n hn).mono ?_
              rintro e w10 ⟨rfl, t10⟩
              have g10 := hyi.out _ t10.bl
              have S10 := hide t10
              clear t10 c9
              go_wp2_with fail
              refine (S10.out.same HT.out (y : Int) hyr).mono ?_
              rintro e w11 ⟨rfl, t11⟩
              have S11 := hide t11
              clear t11
              go_wp2
              go_roundw
              case rel => exact ⟨i + 1, _, _, by go_num, by omega, S11.out⟩
              case measure => simp [intOf]; omega
            )

        | false =>
          rw [hbv] at cbb
          clear HB HX HA
          go_wp2_with fail
          have SWd := hide SW.out.drew
          have cd := hyi.out _ SWd.out.bl
          go_quiet (fail)
          have SV := hide (SW.out.drewN nq)
          have cv := hyi.out _ SV.out.bl
          obtain ⟨dx, dt, P⟩ := SV.out.dropL HT.out hy
          have HP := hide P
          clear P SWd cd ci SW
          go_wp2_with fail
          refine HP.out.mono ?_
          rintro e w5 ⟨rfl, p5, b5⟩
          have c5 := hyi.out _ b5
          have HP5 := hide p5
          clear p5 b5 HP cv
          go_wp2_with fail
          refine HP5.out.mono ?_
          rintro e w6 ⟨rfl, s6, f6, t6⟩
          have S9 := hide t6
          clear t6 HP5 c5

          have c9 := hyi.out _ S9.out.bl
          go_wp2_with fail
          refine (S9.out.same HT.out n hn).mono ?_
          rintro e w10 ⟨rfl, t10⟩
          have g10 := hyi.out _ t10.bl
          have S10 := hide t10
          clear t10 c9
          go_wp2_with fail
          refine (S10.out.same HT.out (y : Int) hyr).mono ?_
          rintro e w11 ⟨rfl, t11⟩
          have S11 := hide t11
          clear t11
          go_wp2
          go_roundw
          case rel => exact ⟨i + 1, _, _, by go_num, by omega, S11.out⟩
          case measure => simp [intOf]; omega
    · have AW := hide (awakek_any _ (HT.out.below SW.out.bl HT.out.two))
      clear HA HB HX S2
      go_wp2_with (go_at_call 7; refine AW.out.mono ?_; rintro r w9 ⟨rfl, f9⟩; have F9 := hide (SW.out.bl.trans (f9.mono SW.out.bl.size)); clear f9)
      go_ret
      exact ⟨rfl, F9.out⟩

set_option maxHeartbeats 1000000 in
theorem kscript_all (a : Option Addr) (xs : List Int) (ca : Nat) (hx : ∃ ys : List Nat, xs = ints ys ∧ ∀ y ∈ ys, y < 256) (b : Option Addr) (bs : List Bool) (cb : Nat) (n : Int) (hn1 : -9223372036854775808 ≤ n) (hn2 : n ≤ 9223372036854775807) (w : World) (ha : Rd w a xs) (hbo : Bo w b bs) (T : Tb w) :
    Calls Tryd.prog 3 #[.slice a xs.length ca, .slice b bs.length cb, .int .i64 n] w fun e w' => e = .returned (.bool true) ∧ Below w.heap.size w w' := by
  obtain ⟨ys, rfl, hy⟩ := hx
  by_cases h : ys.length ≤ 300 ∧ bs.length ≤ 300
  · rw [ints_len]
    exact kscript_any a ys ca w ha hy b bs cb hbo T h.1 h.2 n ⟨hn1, hn2⟩
  · have AW := hide (awakek_any w T)
    have h' : 300 < ys.length ∨ ¬ (300 < ys.length) ∧ 300 < bs.length := by omega
    clear h ha hbo hy T
    rw [ints_len]
    generalize ys.length = k at *
    generalize bs.length = m at *
    rcases h' with h | ⟨h, h2⟩
    · have h1 : (300 : Int) < (k : Int) := by omega
      go_enter Tryd.func3, Tryd.ntmps3
      go_wp2_with (go_at_call 7; refine AW.out.mono ?_; rintro r w9 ⟨rfl, f9⟩; have F9 := hide f9; clear f9)
      go_ret
      exact ⟨rfl, F9.out⟩
    · have h1 : ¬ ((300 : Int) < (k : Int)) := by omega
      have h3 : (300 : Int) < (m : Int) := by omega
      go_enter Tryd.func3, Tryd.ntmps3
      go_wp2_with (go_at_call 7; refine AW.out.mono ?_; rintro r w9 ⟨rfl, f9⟩; have F9 := hide f9; clear f9)
      go_ret
      exact ⟨rfl, F9.out⟩
end Go.Proofs.YtmogjhljmljpfaaDoor
