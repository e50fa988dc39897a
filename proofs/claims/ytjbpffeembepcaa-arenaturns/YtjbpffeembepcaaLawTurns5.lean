/- ArenaTurns. -/
import Derived.Test.YtjbpffeembepcaaHand5
namespace Go.Proofs.Ytjbpffeembepcaa
open Go.RowKit
set_option linter.unusedVariables false
set_option linter.unusedSimpArgs false

theorem hOf_count (cs : Cells) : ∀ k, k ≤ cs.length → (hOf cs k).length + (cs.take k).countP (·.isNone) = k
  | 0, _ => by simp [hOf]
  | k + 1, h => by
    have ih := hOf_count cs k (by omega)
    have hk : k < cs.length := by omega
    rw [List.take_succ_eq_append_getElem hk, List.countP_append, hOf]
    have e : takenAt cs k = cs[k].isSome := by
      unfold takenAt
      rw [List.getElem?_eq_getElem hk]
      rfl
    rw [e]
    cases hc : cs[k] with
    | none => simp; omega
    | some ws => simp; omega
theorem hOf_len {most : Int} {cs : Cells} {back : List Nat} (G : Good most cs back) : (hOf cs cs.length).length = cs.length - back.length := by
  have h := hOf_count cs cs.length (Nat.le_refl _)
  rw [List.take_length, ← G.cnt] at h
  omega
theorem hOf_mem (cs : Cells) : ∀ k x, x ∈ hOf cs k → 1 ≤ x ∧ x ≤ k ∧ takenAt cs (x - 1) = true
  | 0, x, h => by simp [hOf] at h
  | k + 1, x, h => by
    rw [hOf, List.mem_append] at h
    rcases h with h | h
    · obtain ⟨h1, h2, h3⟩ := hOf_mem cs k x h
      exact ⟨h1, by omega, h3⟩
    · split at h
      · rename_i ht
        simp at h
        subst h
        exact ⟨by omega, by omega, by simpa using ht⟩
      · simp at h
theorem takenAt_some {cs : Cells} {n : Nat} (h : takenAt cs n = true) : ∃ ws, cs[n]? = some (some ws) := by
  unfold takenAt at h
  cases hc : cs[n]? with
  | none => rw [hc] at h; simp at h
  | some r =>
    cases r with
    | none => rw [hc] at h; simp at h
    | some ws => exact ⟨ws, rfl⟩
/-- They rise. -/
theorem hOf_rise (cs : Cells) : ∀ k j, j + 1 < (hOf cs k).length → (hOf cs k).getD j 0 < (hOf cs k).getD (j + 1) 0
  | 0, j, h => by simp [hOf] at h
  | k + 1, j, h => by
    rw [hOf] at h ⊢
    split
    · rename_i ht
      simp only [ht, if_true, List.length_append, List.length_singleton] at h
      by_cases h1 : j + 1 < (hOf cs k).length
      · have := hOf_rise cs k j h1
        rw [List.getD_eq_getElem?_getD, List.getD_eq_getElem?_getD, List.getElem?_append_left (by omega), List.getElem?_append_left h1]
        rw [List.getD_eq_getElem?_getD, List.getD_eq_getElem?_getD] at this
        exact this
      · have hj : j < (hOf cs k).length := by omega
        have hm : (hOf cs k)[j] ∈ hOf cs k := List.getElem_mem _
        have := (hOf_mem cs k _ hm).2.1
        rw [List.getD_eq_getElem?_getD, List.getD_eq_getElem?_getD, List.getElem?_append_left hj, List.getElem?_append_right (by omega), List.getElem?_eq_getElem hj, show j + 1 - (hOf cs k).length = 0 by omega]
        simp
        omega
    · rename_i ht
      simp only [ht, if_false, List.append_nil] at h
      simp only [List.append_nil]
      exact hOf_rise cs k j (by simpa using h)
theorem hOf_at (cs : Cells) (k j : Nat) (h : j < (hOf cs k).length) : (hOf cs k).getD j 0 ∈ hOf cs k := by
  rw [List.getD_eq_getElem?_getD, List.getElem?_eq_getElem h]
  exact List.getElem_mem _

/-- What Take of one word answers, whatever stands. -/
def TakeQ (K : Nat → Prop) (w w' : World) (g : Nat) (m : Int) (cs : Cells) (back : List Nat) (e : Ending) : Prop :=
  Kp K w w' ∧ ((∃ h : Nat, h < 4294967296 ∧ (∀ x ∈ hOf cs cs.length, x ≠ h) ∧ e = .returned (.tuple #[.int .u32 (h : Int), .int .i64 0]) ∧ ((cs.length - back.length : Nat) : Int) < m ∧ ∃ cs' back', Ar K w' g m cs' back' ∧ cs'.length - back'.length = cs.length - back.length + 1) ∨
    (e = .returned (.tuple #[.int .u32 0, .int .i64 4]) ∧ ¬ ((cs.length - back.length : Nat) : Int) < m ∧ Ar K w' g m cs back))
theorem take_q {K : Nat → Prop} {w : World} {g : Nat} {m : Int} {cs : Cells} {back : List Nat} (A : Ar K w g m cs back) (x : Int) :
    Calls Try.prog 11 #[.pointer (some ⟨g, 0, none⟩), .slice (some ⟨w.heap.size, 0, none⟩) 1 1] (w.alloc (.cells #[.int .u64 x] 32)) fun e w' => TakeQ K w w' g m cs back e := by
  have hfit := A.fit
  have hlen := A.good.len
  have hbl := A.good.blen
  by_cases hf : m = ((cs.length - back.length : Nat) : Int)
  · refine (take_full_lit A hf [x] (by simp)).mono ?_
    rintro e w' ⟨rfl, h, k⟩
    exact ⟨k, .inr ⟨rfl, by omega, h⟩⟩
  · rcases List.eq_nil_or_concat back with rfl | ⟨back', h, rfl⟩
    · refine (take_new_lit A (by simp at hf; omega) [x] (by simp)).mono ?_
      rintro e w' ⟨rfl, h, k⟩
      refine ⟨k, .inl ⟨cs.length + 1, by omega, fun y hy => ?_, rfl, by simp at hf ⊢; omega, _, _, h, by simp⟩⟩
      have := (hOf_mem cs _ y hy).2.1
      omega
    · rw [List.concat_eq_append] at A hbl ⊢
      obtain ⟨f1, f2⟩ := A.good.free h (by simp)
      have hlt := (List.getElem?_eq_some_iff.1 f2).1
      refine (take_back_lit A [x] (by simp)).mono ?_
      rintro e w' ⟨rfl, hA, k⟩
      simp at hbl
      refine ⟨k, .inl ⟨h, by omega, fun y hy hyh => ?_, rfl, by simp; omega, _, _, hA, by simp; omega⟩⟩
      subst hyh
      obtain ⟨ws, hw⟩ := takenAt_some (hOf_mem cs _ y hy).2.2
      rw [hw] at f2
      simp at f2

set_option maxRecDepth 20000 in
set_option maxHeartbeats 6400000 in
theorem turns_any (a : Option Addr) (xs : List Int) (ca : Nat) (most : Int) (h0 : -9223372036854775808 ≤ most ∧ most ≤ 9223372036854775807) (w : World) (ha : Ri w a xs) :
    Calls Try.prog 7 #[.slice a xs.length ca, .int .i64 most] w fun e w' => e = .returned (.bool true) ∧ Below w.heap.size w w' := by
  have R := hide ha
  have H0 := hide h0
  clear ha h0
  by_cases hlen : 60 < xs.length
  · go_enter Try.func7, Try.ntmps7
    go_wp2_with (go_at_call 8; refine (awake_any _).mono ?_; rintro e w' ⟨rfl, hw⟩)
    go_ret
    exact ⟨rfl, hw⟩
  obtain ⟨m, hm, -, L0⟩ := low_nat most 21 H0.out.1 H0.out.2 (by omega) (by omega)
  have HL0 := hide L0
  clear L0
  go_enter Try.func7, Try.ntmps7
  go_wp2_with fail
  refine (HL0.out _).mono ?_
  rintro e w0 ⟨rfl, rfl⟩
  go_wp2_with fail
  refine (new_v _ (m : Int) (by omega) (by omega)).mono ?_
  rintro e w1 ⟨g, rfl, a1, k1⟩
  have A1 := hide a1
  have K1 := hide k1
  clear a1 k1
  go_wp2_with fail
  go_loopw [6, 7] (fun v6 v wr => ∃ (i : Nat) (cs : Cells) (back : List Nat), v6 = .int .i64 ((cs.length - back.length : Nat) : Int) ∧ v = .int .i64 i ∧ i ≤ xs.length ∧ Ar (fun k => k < w0.heap.size) wr g m cs back ∧ Kp (fun k => k < w0.heap.size) w0 wr) (fun _ v _ => xs.length - (intOf v).toNat)
  case atStart => exact ⟨0, [], [], rfl, rfl, by omega, A1.out, K1.out⟩
  case round =>
    obtain ⟨i, cs, back, rfl, rfl, hi, ha, hkp⟩ := hrel
    have A2 := hide ha
    have K2 := hide hkp
    have hsz := hkp.size
    have hfit := ha.fit
    have hlm := ha.good.len
    have hbl := ha.good.blen
    have hol := hOf_len ha.good
    clear ha hkp
    obtain ⟨lv, hlv⟩ : ∃ lv, lv = cs.length - back.length := ⟨_, rfl⟩
    rw [← hlv] at hol ⊢
    have hlvm : (lv : Int) ≤ (m : Int) := by omega
    have HLV := hide hlv
    have HOL := hide hol
    clear hlv hol
    by_cases hix : i < xs.length
    · obtain ⟨b, off, rfl, hrg, hc⟩ := R.out.at i hix
      have ci := hc wr K2.out
      obtain ⟨n, hn⟩ : ∃ n, n = lowN (wAt xs i) 100 := ⟨_, rfl⟩
      have hn1 : n < 100 := by rw [hn]; exact lowN_lt _ 100 (by omega)
      have L := fun w => low_i (wAt xs i) 100 hrg (by omega) (by omega) w
      rw [← hn] at L
      have HL := hide L
      clear L hc hrg hn
      go_wp2_with fail
      refine (HL.out _).mono ?_
      rintro e w2 ⟨rfl, rfl⟩
      go_wp2_with fail
      refine (a_handles A2.out).mono ?_
      rintro e w3 ⟨ah, ch, rfl, o3, k3⟩
      rw [HOL.out] at o3 ⊢
      have A3 : Hid (Ar (KB w0.heap.size (.slice ah lv ch)) w3 g m cs back) := by
        refine (A2.out.kpmore k3 (fun k hk _ => hk)).weaken ?_
        rintro k (hk | hk)
        · exact .inl hk
        · exact .inr (o3.lt k hk)
      have K3 : Hid (Kp (fun k => k < w0.heap.size) w0 w3) := K2.out.trans (k3.mono (fun k hk => by omega))
      have O3 := hide o3
      have V := a_live A3.out
      rw [← HLV.out] at V
      have HV := hide V
      clear k3 o3 V
      go_wp2_with fail
      refine HV.out.mono ?_
      rintro e w4 ⟨rfl, s4⟩
      have A4 := hide (A3.out.still s4)
      have k34 := s4.kp (KB w0.heap.size (.slice ah lv ch))
      have K4 := hide (K3.out.trans k34.kb)
      have O4 := hide (owns_kb O3.out k34)
      clear s4 k34 A3 O3 K3 HV A2 K2
      have t3 : Int.tmod (n : Int) 3 = ((n % 3 : Nat) : Int) := by rw [Int.tmod_eq_emod_of_nonneg (by omega)]; omega
      have t3' : (n : Int) % 3 = ((n % 3 : Nat) : Int) := by omega
      by_cases hg3 : n % 3 = 0 ∧ 0 < lv
      · obtain ⟨hn3, hlv0⟩ := hg3
        rw [hn3] at t3 t3'
        have hol := HOL.out
        have hlv := HLV.out
        obtain ⟨d, hd⟩ : ∃ d, d = n % lv := ⟨_, rfl⟩
        have hdl : d < lv := by rw [hd]; exact Nat.mod_lt _ hlv0
        have td : Int.tmod (n : Int) (lv : Int) = (d : Int) := by rw [Int.tmod_eq_emod_of_nonneg (by omega), hd]; omega
        obtain ⟨gh, ch', e⟩ := owns_slice O4.out (by omega)
        simp only [Value.slice.injEq] at e
        obtain ⟨rfl, -, rfl⟩ := e
        obtain ⟨y, hy⟩ : ∃ y, y = (hOf cs cs.length).getD d 0 := ⟨_, rfl⟩
        have hmem : y ∈ hOf cs cs.length := by rw [hy]; exact hOf_at cs _ d (by omega)
        obtain ⟨hy1, hy2, hy3⟩ := hOf_mem cs _ y hmem
        obtain ⟨p, rfl⟩ : ∃ p, y = p + 1 := ⟨y - 1, by omega⟩
        simp only [Nat.add_sub_cancel] at hy3
        obtain ⟨ws, hws⟩ := takenAt_some hy3
        have c4 : w4.cell? ⟨gh, d, none⟩ = some (.int .u32 ((p : Int) + 1)) := by
          have := (O4.out.cellAt d (by omega)).trans (u32s_get _ d (by omega))
          rw [← hy] at this
          exact this
        have HG := hide (give_has A4.out p ws hws)
        have hlvn : ¬ ((lv : Int) = 0) := by omega
        have hlvp : (0 : Int) < (lv : Int) := by omega
        have hdi : (d : Int) < (lv : Int) := by omega
        have hp : p < cs.length := by omega
        have td' : (n : Int) % (lv : Int) = (d : Int) := by rw [hd]; omega
        clear hy hmem hy3 hd hol hlv
        go_wp2_with fail
        refine HG.out.mono ?_
        rintro e w5 ⟨rfl, h5, k5⟩
        have A5 := hide h5
        have O5 := hide (owns_kb O4.out k5)
        have K5 := hide (K4.out.trans k5.kb)
        have c5 : w5.cell? ⟨gh, d, none⟩ = some (.int .u32 ((p : Int) + 1)) := by
          rw [World.cell?_of_block (w := w4) (w' := w5) (a := ⟨gh, d, none⟩) (k5.block gh (.inr rfl) (O4.out.lt gh rfl).2)]
          exact c4
        have Z := a_size_none A5.out (p + 1) (by omega) (.inr (.inr (by simp [hp])))
        rw [show ((p + 1 : Nat) : Int) = (p : Int) + 1 by omega] at Z
        have HZ := hide Z
        clear h5 k5 HG Z c4
        go_wp2_with fail
        refine HZ.out.mono ?_
        rintro e w6 ⟨rfl, rfl⟩
        go_wp2_with fail
        go_roundw
        case measure => simp only [intOf]; omega
        case rel =>
          refine ⟨i + 1, cs.set p none, back ++ [p + 1], ?_, by go_num, by omega, A5.out.weaken (fun k hk => .inl hk), K5.out⟩
          simp only [List.length_set, List.length_append, List.length_singleton]
          have hlv := HLV.out
          congr 1
          omega
      · have hng : ¬ (n % 3 = 0) ∨ n % 3 = 0 ∧ lv = 0 := by omega
        have HT := hide (take_q A4.out (n : Int))
        have e1 : IntKind.u64.wrap (n : Int) = (n : Int) := by rw [IntKind.wrap_u64]; omega
        have hT : ∀ w', Calls Try.prog 0 #[] w' (fun _ _ => True) → True := fun _ _ => trivial
        rcases hng with hn3 | ⟨hn3, hlv0⟩
        · have hn3' : ((n : Int) % 3 == 0) = false := beq_false_of_ne (by omega)
          have hn3a : (Int.tmod (n : Int) 3 == 0) = false := by rw [t3]; exact beq_false_of_ne (by omega)
          clear t3 t3'
          have hn3'' : (n % 3 == 0) = false := beq_false_of_ne hn3
          clear hT hg3
          go_wp2_with fail
          refine HT.out.mono ?_
          rintro e w5 ⟨k5, ⟨h, hh, hx, rfl, hll, cs', back', h5, hlv'⟩ | ⟨rfl, hll, h5⟩⟩
          · rw [← HLV.out] at hll hlv'
            have A5 := hide h5
            have O5 := hide (owns_kb O4.out k5)
            have K5 := hide (K4.out.trans k5.kb)
            clear h5 k5 HT
            go_wp2_with fail
            go_loopw [12] (fun v wq => ∃ (k : Nat), v = .int .i64 k ∧ k ≤ lv ∧ Still w5 wq) (fun v _ => lv - (intOf v).toNat)
            case atStart => exact ⟨0, rfl, by omega, 0, rfl⟩
            case round =>
              obtain ⟨k, rfl, hk, hst⟩ := hrel
              have SW := hide hst
              have O6 := hide (owns_kp O5.out (hst.kp (fun _ => True)) (fun _ _ => trivial))
              clear hst
              by_cases hkl : k < lv
              · obtain ⟨gh, ch', e⟩ := owns_slice O6.out (by omega)
                simp only [Value.slice.injEq] at e
                obtain ⟨rfl, -, rfl⟩ := e
                obtain ⟨y, hy⟩ : ∃ y, y = (hOf cs cs.length).getD k 0 := ⟨_, rfl⟩
                have hol := HOL.out
                have c6 : wr.cell? ⟨gh, k, none⟩ = some (.int .u32 (y : Int)) := by rw [hy]; exact (O6.out.cellAt k (by omega)).trans (u32s_get _ k (by omega))
                have hmem : y ∈ hOf cs cs.length := by rw [hy]; exact hOf_at cs _ k (by omega)
                have hy1 := (hOf_mem cs _ y hmem).1
                have hne : ((y : Int) == (h : Int)) = false := beq_false_of_ne (by have := hx y hmem; omega)
                have hlt1 : ¬ ((y : Int) < 1) := by omega
                have hne2 : (y == h) = false := beq_false_of_ne (by exact hx y hmem)
                have hki : (k : Int) < (lv : Int) := by omega
                by_cases hk0 : k = 0
                · subst hk0
                  have c6' : wr.cell? ⟨gh, 0, none⟩ = some (.int .u32 (y : Int)) := c6
                  clear hy hmem c6 hol
                  go_wp2_with fail
                  go_quiet (fail)
                  go_wp2_with fail
                  go_roundw
                  case measure => simp only [intOf]; omega
                  case rel => exact ⟨1, by go_num, by omega, by obtain ⟨q, hq⟩ := SW.out; exact ⟨q + nq, by rw [hq]; simp⟩⟩
                · obtain ⟨p, rfl⟩ : ∃ p, k = p + 1 := ⟨k - 1, by omega⟩
                  obtain ⟨z, hz⟩ : ∃ z, z = (hOf cs cs.length).getD p 0 := ⟨_, rfl⟩
                  have c7 : wr.cell? ⟨gh, p, none⟩ = some (.int .u32 (z : Int)) := by rw [hz]; exact (O6.out.cellAt p (by omega)).trans (u32s_get _ p (by omega))
                  have hzy : z < y := by rw [hz, hy]; exact hOf_rise cs _ p (by omega)
                  have hzy' : ¬ ((y : Int) ≤ (z : Int)) := by omega
                  have hp0 : (0 : Int) ≤ (p : Int) + 1 := by omega
                  have hp1 : (p : Int) < (lv : Int) := by omega
                  have hp2 : (p : Int) + 1 < (lv : Int) := by omega
                  have hp3 : IntKind.i64.wrap (p : Int) = (p : Int) := by rw [IntKind.wrap_i64]; omega
                  have hp4 : p < lv := by omega
                  clear hy hz hmem hk0 hol
                  go_wp2_with fail
                  go_quiet (fail)
                  go_wp2_with fail
                  go_roundw
                  case measure => simp only [intOf]; omega
                  case rel => exact ⟨p + 2, by go_num, by omega, by obtain ⟨q, hq⟩ := SW.out; exact ⟨q + nq, by rw [hq]; simp⟩⟩
              · have hkl' : k = lv := by omega
                clear O6
                go_wp2_with fail
                go_roundw
                case measure => simp only [intOf]; omega
                case rel =>
                  obtain ⟨q, hq⟩ := SW.out
                  refine ⟨i + 1, cs', back', by rw [hlv']; go_num, by go_num, by omega, (A5.out.still SW.out).weaken (fun k hk => .inl hk), K5.out.trans (SW.out.kp _)⟩
          · rw [← HLV.out] at hll
            have A5 := hide h5
            have O5 := hide (owns_kb O4.out k5)
            have K5 := hide (K4.out.trans k5.kb)
            clear h5 k5 HT
            go_wp2_with fail
            go_loopw [12] (fun v wq => ∃ (k : Nat), v = .int .i64 k ∧ k ≤ lv ∧ Still w5 wq) (fun v _ => lv - (intOf v).toNat)
            case atStart => exact ⟨0, rfl, by omega, 0, rfl⟩
            case round =>
              obtain ⟨k, rfl, hk, hst⟩ := hrel
              have SW := hide hst
              have O6 := hide (owns_kp O5.out (hst.kp (fun _ => True)) (fun _ _ => trivial))
              clear hst
              by_cases hkl : k < lv
              · obtain ⟨gh, ch', e⟩ := owns_slice O6.out (by omega)
                simp only [Value.slice.injEq] at e
                obtain ⟨rfl, -, rfl⟩ := e
                obtain ⟨y, hy⟩ : ∃ y, y = (hOf cs cs.length).getD k 0 := ⟨_, rfl⟩
                have hol := HOL.out
                have c6 : wr.cell? ⟨gh, k, none⟩ = some (.int .u32 (y : Int)) := by rw [hy]; exact (O6.out.cellAt k (by omega)).trans (u32s_get _ k (by omega))
                have hmem : y ∈ hOf cs cs.length := by rw [hy]; exact hOf_at cs _ k (by omega)
                have hy1 := (hOf_mem cs _ y hmem).1
                have hne : ((y : Int) == (0 : Int)) = false := beq_false_of_ne (by omega)
                have hlt1 : ¬ ((y : Int) < 1) := by omega
                have hne2 : (y == 0) = false := beq_false_of_ne (by omega)
                have hki : (k : Int) < (lv : Int) := by omega
                by_cases hk0 : k = 0
                · subst hk0
                  have c6' : wr.cell? ⟨gh, 0, none⟩ = some (.int .u32 (y : Int)) := c6
                  clear hy hmem c6 hol
                  go_wp2_with fail
                  go_quiet (fail)
                  go_wp2_with fail
                  go_simp
                  go_roundw
                  case measure => simp only [intOf]; omega
                  case rel => exact ⟨1, by first | rfl | go_num, by omega, by obtain ⟨q, hq⟩ := SW.out; exact ⟨q + nq, by rw [hq]; simp⟩⟩
                · obtain ⟨p, rfl⟩ : ∃ p, k = p + 1 := ⟨k - 1, by omega⟩
                  obtain ⟨z, hz⟩ : ∃ z, z = (hOf cs cs.length).getD p 0 := ⟨_, rfl⟩
                  have c7 : wr.cell? ⟨gh, p, none⟩ = some (.int .u32 (z : Int)) := by rw [hz]; exact (O6.out.cellAt p (by omega)).trans (u32s_get _ p (by omega))
                  have hzy : z < y := by rw [hz, hy]; exact hOf_rise cs _ p (by omega)
                  have hzy' : ¬ ((y : Int) ≤ (z : Int)) := by omega
                  have hp0 : (0 : Int) ≤ (p : Int) + 1 := by omega
                  have hp1 : (p : Int) < (lv : Int) := by omega
                  have hp2 : (p : Int) + 1 < (lv : Int) := by omega
                  have hp3 : IntKind.i64.wrap (p : Int) = (p : Int) := by rw [IntKind.wrap_i64]; omega
                  have hp4 : p < lv := by omega
                  clear hy hz hmem hk0 hol
                  go_wp2_with fail
                  go_quiet (fail)
                  go_wp2_with fail
                  go_simp
                  go_roundw
                  case measure => simp only [intOf]; omega
                  case rel => exact ⟨p + 2, by first | go_num | omega, by omega, by obtain ⟨q, hq⟩ := SW.out; exact ⟨q + nq, by rw [hq]; simp⟩⟩
              · have hkl' : k = lv := by omega
                clear O6
                go_wp2_with fail
                go_roundw
                case measure => simp only [intOf]; omega
                case rel =>
                  refine ⟨i + 1, cs, back, by rw [← HLV.out], by go_num, by omega, (A5.out.still SW.out).weaken (fun k hk => .inl hk), K5.out.trans (SW.out.kp _)⟩
        · have hlv0' : (lv : Int) = 0 := by omega
          have hlv1 : ¬ ((0 : Int) < (lv : Int)) := by omega
          have hlv2 : ¬ (0 < lv) := by omega
          have t3a : Int.tmod (n : Int) 3 = 0 := by rw [t3, hn3]; rfl
          have t3b : (n : Int) % 3 = 0 := by omega
          have hn0 : n % 3 = 0 := hn3
          have HL9 := hide hlv0
          clear t3 t3' hlv0' hlv0 hn3
          clear hT hg3
          go_wp2_with fail
          refine HT.out.mono ?_
          rintro e w5 ⟨k5, ⟨h, hh, hx, rfl, hll, cs', back', h5, hlv'⟩ | ⟨rfl, hll, h5⟩⟩
          · rw [← HLV.out] at hll hlv'
            have A5 := hide h5
            have O5 := hide (owns_kb O4.out k5)
            have K5 := hide (K4.out.trans k5.kb)
            clear h5 k5 HT
            go_wp2_with fail
            go_loopw [12] (fun v wq => ∃ (k : Nat), v = .int .i64 k ∧ k ≤ lv ∧ Still w5 wq) (fun v _ => lv - (intOf v).toNat)
            case atStart => exact ⟨0, rfl, by omega, 0, rfl⟩
            case round =>
              obtain ⟨k, rfl, hk, hst⟩ := hrel
              have SW := hide hst
              have O6 := hide (owns_kp O5.out (hst.kp (fun _ => True)) (fun _ _ => trivial))
              clear hst
              by_cases hkl : k < lv
              · exact absurd hkl (by have := HL9.out; omega)
              · have hkl' : k = lv := by omega
                clear O6
                go_wp2_with fail
                go_roundw
                case measure => simp only [intOf]; omega
                case rel =>
                  obtain ⟨q, hq⟩ := SW.out
                  refine ⟨i + 1, cs', back', by rw [hlv']; go_num, by go_num, by omega, (A5.out.still SW.out).weaken (fun k hk => .inl hk), K5.out.trans (SW.out.kp _)⟩
          · rw [← HLV.out] at hll
            have A5 := hide h5
            have O5 := hide (owns_kb O4.out k5)
            have K5 := hide (K4.out.trans k5.kb)
            clear h5 k5 HT
            go_wp2_with fail
            go_loopw [12] (fun v wq => ∃ (k : Nat), v = .int .i64 k ∧ k ≤ lv ∧ Still w5 wq) (fun v _ => lv - (intOf v).toNat)
            case atStart => exact ⟨0, rfl, by omega, 0, rfl⟩
            case round =>
              obtain ⟨k, rfl, hk, hst⟩ := hrel
              have SW := hide hst
              have O6 := hide (owns_kp O5.out (hst.kp (fun _ => True)) (fun _ _ => trivial))
              clear hst
              by_cases hkl : k < lv
              · exact absurd hkl (by have := HL9.out; omega)
              · have hkl' : k = lv := by omega
                clear O6
                go_wp2_with fail
                go_roundw
                case measure => simp only [intOf]; omega
                case rel =>
                  refine ⟨i + 1, cs, back, by rw [← HLV.out], by go_num, by omega, (A5.out.still SW.out).weaken (fun k hk => .inl hk), K5.out.trans (SW.out.kp _)⟩
    · have F := a_free A2.out
      rw [← HLV.out] at F
      have HF := hide F
      clear F
      go_wp2_with fail
      refine HF.out.mono ?_
      rintro e w3 ⟨rfl, s3⟩
      have K3 := hide (K2.out.trans (s3.kp _))
      clear s3
      go_wp2_with (go_at_call 8; refine (awake_any _).mono ?_; rintro e w12 ⟨rfl, f12⟩; have F12 := hide f12; clear f12)
      go_ret
      exact ⟨rfl, (K3.out.below (Nat.le_refl _) (fun k hk => hk)).trans (F12.out.mono K3.out.size)⟩
end Go.Proofs.Ytjbpffeembepcaa
