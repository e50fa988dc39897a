/- SpanRoom. -/
import Derived.Test.YtaoabjcbolncoaaAwake6
import Derived.Test.YtaoabjcbolncoaaLow6
namespace Go.Proofs.Ytaoabjcbolncoaa
open Go.RowKit
set_option linter.unusedVariables false
set_option linter.unusedSimpArgs false

theorem total1 (a : List Int) : total [some a] = a.length := by simp [total, lenO]
theorem total2 (a b : List Int) : total [some a, some b] = a.length + b.length := by simp [total, lenO]
theorem total3 (a b c : List Int) : total [some a, some b, some c] = a.length + b.length + c.length := by simp [total, lenO]; omega
theorem total3n (a c : List Int) : total [some a, none, some c] = a.length + c.length := by simp [total, lenO]

theorem long_i (x : Int) (n : Nat) (hx : x = n) (b : Int) (w : World) (hn : n ≤ 70000) :
    Calls Try.prog 25 #[.int .i64 x, .int .u8 b] w fun e w' => ∃ a c, e = .returned (.slice a n c) ∧ w'.ownsRow w.heap.size 5 1 (.slice a n c) n (u8s (longK n b)) ∧ Below w.heap.size w w' := by
  subst hx
  exact long_any n b w hn
section
variable {K : Nat → Prop} {w : World} {g : Nat} {most : Int} {cs : Strs} {back : List Nat}
theorem used_v (A : Sp g most cs back K w) (u : Int) (hu : (total cs : Int) = u) : Calls Try.prog 21 #[.pointer (some ⟨g, 0, none⟩)] w fun e w' => e = .returned (.int .i64 u) ∧ w' = w := by
  have := a_used A
  rwa [hu] at this
end
theorem same_yes (a b : Option Addr) (xs : List Int) (n m ca cb : Nat) (w : World) (hn : n = xs.length) (hm : m = xs.length) (ha : Rd w a xs) (hb : Rd w b xs) :
    Calls Try.prog 20 #[.slice a n ca, .slice b m cb] w fun e w' => e = .returned (.bool true) ∧ Still w w' := by
  subst hn
  rw [hm]
  have h := same_b a b xs xs ca cb w ha hb
  rwa [decide_eq_true rfl] at h
/-- The rest of a slice of one's own, from its n-th byte on. -/
theorem own_from {w : World} {base : Nat} {e : TypeId} {a : Option Addr} {c n : Nat} {xs : List Int} (o : w.ownsRow base e 1 (.slice a n c) n (u8s xs)) (hb : IsBytes xs) : (a = none ∧ n = 0 ∧ c = 0) ∨ (∃ g, a = some ⟨g, 0, none⟩ ∧ n ≤ c ∧ ∀ m, Rd w (some ⟨g, m, none⟩) (xs.drop m)) := by
  rcases o.2 with ⟨h, h0⟩ | ⟨g, cap, cur, h, hbg, hg, hnc, hcm, hcs, htake⟩
  · simp only [Value.slice.injEq] at h
    exact .inl ⟨h.1, h.2.1, h.2.2⟩
  · simp only [Value.slice.injEq] at h
    obtain ⟨rfl, -, rfl⟩ := h
    refine .inr ⟨g, rfl, hnc, fun m => ?_⟩
    obtain ⟨a', c', e', hr, _⟩ := owns_rd o hb
    simp only [Value.slice.injEq] at e'
    obtain ⟨rfl, -, -⟩ := e'
    have := hr.drop m
    rwa [Nat.zero_add] at this

set_option maxRecDepth 20000 in
set_option maxHeartbeats 3200000 in
theorem room_any (most long cut : Int) (h0 : -9223372036854775808 ≤ most) (h1 : most ≤ 9223372036854775807) (h2 : -9223372036854775808 ≤ long) (h3 : long ≤ 9223372036854775807) (h4 : -9223372036854775808 ≤ cut) (h5 : cut ≤ 9223372036854775807) (w : World) :
    Calls Try.prog 5 #[.int .i64 most, .int .i64 long, .int .i64 cut] w fun e w' => e = .returned (.bool true) ∧ Below w.heap.size w w' := by
  obtain ⟨M, hM, -, L0⟩ := low_nat most 201 h0 h1 (by omega) (by omega)
  obtain ⟨L, hL, -, L1⟩ := low_nat long (M + 1) h2 h3 (by omega) (by omega)
  obtain ⟨C, hC, -, L2⟩ := low_nat cut (L + 1) h4 h5 (by omega) (by omega)
  rw [nat_succ] at L1 L2
  have HL0 := hide L0
  have HL1 := hide L1
  have HL2 := hide L2
  clear L0 L1 L2 h0 h1 h2 h3 h4 h5
  go_enter Try.func5, Try.ntmps5
  go_wp2_with fail
  refine (HL0.out _).mono ?_
  rintro e w0 ⟨rfl, rfl⟩
  go_wp2_with fail
  refine (HL1.out _).mono ?_
  rintro e w0' ⟨rfl, rfl⟩
  go_wp2_with fail
  refine (HL2.out _).mono ?_
  rintro e w0'' ⟨rfl, rfl⟩
  clear HL0 HL1 HL2
  go_wp2_with fail
  refine (new_v _ (M : Int) (by omega) (by omega)).mono ?_
  rintro e w1 ⟨g, rfl, a1, k1⟩
  have A1 := hide a1
  have K1 := hide k1
  clear a1 k1
  go_wp2_with fail
  refine (long_any L 7 _ (by omega)).mono ?_
  rintro e w2 ⟨b2, c2, rfl, o2, f2⟩
  obtain ⟨fr2, n2⟩ := Fresh.of_own o2 (longK_bytes L 7 (by omega))
  have FR2 := hide fr2
  have F2 := hide f2
  clear o2 f2 fr2 n2
  go_wp2_with fail
  refine (f_put_new A1.out F2.out (by simp) FR2.out (longK_length L 7).symm _ (by simp [total, longK_length]; omega)).mono ?_
  rintro e w3 ⟨rfl, a3, k3⟩
  have A3 := hide a3
  have K3 := hide (K1.out.trans k3)
  clear a3 k3 A1 K1 F2 FR2
  go_wp2_with fail
  refine (long_i _ (M - L + 1) (by omega) 8 _ (by omega)).mono ?_
  rintro e w4 ⟨b4, c4, rfl, o4, f4⟩
  have F4 := hide f4
  clear o4 f4
  go_wp2_with fail
  refine (f_put_full A3.out F4.out _ _ _ (by simp [total, lenO, longK_length]; omega)).mono ?_
  rintro e w5 ⟨rfl, a5, k5⟩
  have A5 := hide a5
  have K5 := hide (K3.out.trans k5)
  clear a5 k5 A3 K3 F4
  go_wp2_with fail
  refine (long_i _ (M - L) (by omega) 9 _ (by omega)).mono ?_
  rintro e w6 ⟨b6, c6, rfl, o6, f6⟩
  obtain ⟨fr6, n6⟩ := Fresh.of_own o6 (longK_bytes _ 9 (by omega))
  have FR6 := hide fr6
  have F6 := hide f6
  clear o6 f6 fr6 n6
  go_wp2_with fail
  refine (f_put_new A5.out F6.out (by simp) FR6.out (longK_length _ _).symm _ (by simp [total, lenO, longK_length]; omega)).mono ?_
  rintro e w7 ⟨rfl, a7, k7⟩
  have A7 := hide a7
  have K7 := hide (K5.out.trans k7)
  clear a7 k7 A5 K5 F6 FR6
  go_wp2_with fail
  refine (used_v A7.out (M : Int) (by simp [total, lenO, longK_length]; omega)).mono ?_
  rintro e w8 ⟨rfl, rfl⟩
  go_wp2_with fail
  refine (cut_has A7.out (by simp) 0 C (longK L 7) rfl (by rw [longK_length]; omega)).mono ?_
  rintro e w9 ⟨rfl, a9, k9⟩
  have A9 := hide a9
  have K9 := hide (K7.out.trans k9)
  clear a9 k9 A7 K7
  go_wp2_with fail
  refine (long_i _ (C + 1) (by omega) 1 _ (by omega)).mono ?_
  rintro e w10 ⟨b10, c10, rfl, o10, f10⟩
  have F10 := hide f10
  clear o10 f10
  go_wp2_with fail
  refine (f_put_full A9.out F10.out _ _ _ (by simp [total, lenO, longK_length]; omega)).mono ?_
  rintro e w11 ⟨rfl, a11, k11⟩
  have A11 := hide a11
  have K11 := hide (K9.out.trans k11)
  clear a11 k11 A9 K9 F10
  go_wp2_with fail
  refine (long_i _ C (by omega) 2 _ (by omega)).mono ?_
  rintro e w12 ⟨b12, c12, rfl, o12, f12⟩
  obtain ⟨fr12, n12⟩ := Fresh.of_own o12 (longK_bytes _ 2 (by omega))
  have FR12 := hide fr12
  have F12 := hide f12
  clear o12 f12 fr12 n12
  go_wp2_with fail
  refine (f_put_new A11.out F12.out (by simp) FR12.out (longK_length _ _).symm _ (by simp [total, lenO, longK_length]; omega)).mono ?_
  rintro e w13 ⟨rfl, a13, k13⟩
  have A13 := hide a13
  have K13 := hide (K11.out.trans k13)
  clear a13 k13 A11 K11 F12 FR12
  go_wp2_with fail
  refine (used_v A13.out (M : Int) (by simp [total, lenO, longK_length]; omega)).mono ?_
  rintro e w14 ⟨rfl, rfl⟩
  go_wp2_with fail
  refine (drop_has A13.out (by simp) 1 (longK (M - L) 9) rfl).mono ?_
  rintro e w15 ⟨rfl, a15, k15⟩
  have A15 := hide a15
  have K15 := hide (K13.out.trans k15)
  clear a15 k15 A13 K13
  go_wp2_with fail
  refine (used_v A15.out (L : Int) (by simp [total, lenO, longK_length]; omega)).mono ?_
  rintro e w16 ⟨rfl, rfl⟩
  go_wp2_with fail
  refine (a_get A15.out (by simp) 0 ((longK L 7).drop C) rfl).mono ?_
  rintro e w17 ⟨rfl, b17, f17⟩
  have A17 := hide ((Sp.lies _ _ _ _).below A15.out f17)
  have K17 := hide (K15.out.trans ((Kp.of_below f17).mono ((Sp.lies _ _ _ _).lt A15.out)))
  have B17 := hide b17
  have hy : Hid (IsBytes ((longK L 7).drop C) ∧ ((longK L 7).drop C).length = L - C ∧ (longK L 7).drop C = (longK L 7).drop C) := ⟨fun x hx => longK_bytes L 7 (by omega) x (List.mem_of_mem_drop hx), by rw [List.length_drop, longK_length], rfl⟩
  clear b17 f17 A15 K15
  generalize hys : (longK L 7).drop C = ys at A17 B17 hy ⊢
  have HYS := hide hys
  clear hys
  go_wp2_with fail
  refine (long_i _ L (by omega) 7 _ (by omega)).mono ?_
  rintro e w18 ⟨b18, c18, rfl, o18, f18⟩
  have A18 := hide ((Sp.lies _ _ _ _).below A17.out f18)
  have K18 := hide (K17.out.trans ((Kp.of_below f18).mono ((Sp.lies _ _ _ _).lt A17.out)))
  have B18 := hide (B17.out.below f18 B17.out.lt)
  have O18 := hide (own_from o18 (longK_bytes L 7 (by omega)))
  clear o18 f18 A17 K17 B17
  have S : ∀ (b' : Option Addr) (c' : Nat), Rd w18 b' ys → Hid (Calls Try.prog 20 #[.slice (some ⟨w16.heap.size, 0, none⟩) ys.length ys.length, .slice b' (L - C) c'] w18 fun e w' => e = .returned (.bool true) ∧ Still w18 w') := fun b' c' hr =>
    same_yes _ _ ys _ _ _ _ _ rfl hy.out.2.1.symm (blk_rd B18.out hy.out.1 (by rw [hy.out.2.1]; unfold maxLen; omega)) hr
  have HS := hide S
  clear S
  have X : Hid (∀ (b' : Option Addr) (c' : Nat), Rd w18 b' ys → Calls Try.prog 20 #[.slice (some ⟨w16.heap.size, 0, none⟩) ys.length ys.length, .slice b' (L - C) c'] w18 fun e w' => e = .returned (.bool true) ∧ Below w0''.heap.size w0'' w' ∧ Sp g (↑M) (List.set (List.set ([] ++ [some (longK L 7)] ++ [some (longK (M - L) 9)]) 0 (some ys) ++ [some (longK C 2)]) 1 none) ([] ++ [1 + 1]) (fun k => k < w0''.heap.size) w') := fun b' c' hr =>
    (HS.out b' c' hr).out.mono fun e w' ⟨he, hs⟩ => ⟨he, (K18.out.trans (hs.kp _)).below (Nat.le_refl _) (fun k hk => hk), (Sp.lies _ _ _ _).still A18.out hs⟩
  clear HS A18 K18 B18
  rcases O18.out with ⟨rfl, hL0, rfl⟩ | ⟨g', rfl, hlc, hrd⟩
  · subst hL0
    obtain rfl : C = 0 := by omega
    have Y := X.out none 0 (by rw [List.eq_nil_of_length_eq_zero hy.out.2.1]; exact Rd.nil _ _)
    clear O18 hy HYS X
    go_wp2_with fail
    refine Y.mono ?_
    rintro e w19 ⟨rfl, k19, a19⟩
    have K19 := hide k19
    clear k19
    go_wp2_with fail
    refine (a_live a19 (by simp)).mono ?_
    rintro e w20 ⟨rfl, s20⟩
    have K20 := hide (K19.out.trans (s20.below _))
    clear s20 a19 K19 Y
    go_wp2_with fail
    refine (awake_any _).mono ?_
    rintro e w21 ⟨rfl, f21⟩
    have K21 := hide (K20.out.trans (f21.mono K20.out.size))
    clear f21
    go_wp2_with fail
    go_ret
    exact ⟨rfl, K21.out⟩
  · have hrd' := hrd C
    rw [HYS.out] at hrd'
    have HR := hide hrd'
    clear hrd hrd' O18
    by_cases hCc : c18 = C
    · have Y := X.out (some ⟨g', 0, none⟩) 0 (by rw [List.eq_nil_of_length_eq_zero (show ys.length = 0 by have := hy.out.2.1; omega)]; exact Rd.nil _ _)
      clear hy HYS X HR
      go_wp2_with fail
      refine Y.mono ?_
      rintro e w19 ⟨rfl, k19, a19⟩
      have K19 := hide k19
      clear k19
      go_wp2_with fail
      refine (a_live a19 (by simp)).mono ?_
      rintro e w20 ⟨rfl, s20⟩
      have K20 := hide (K19.out.trans (s20.below _))
      clear s20 a19 K19 Y
      go_wp2_with fail
      refine (awake_any _).mono ?_
      rintro e w21 ⟨rfl, f21⟩
      have K21 := hide (K20.out.trans (f21.mono K20.out.size))
      clear f21
      go_wp2_with fail
      go_ret
      exact ⟨rfl, K21.out⟩
    · have Y := X.out (some ⟨g', C, none⟩) (c18 - C) HR.out
      clear hy HYS X HR
      go_wp2_with fail
      refine Y.mono ?_
      rintro e w19 ⟨rfl, k19, a19⟩
      have K19 := hide k19
      clear k19
      go_wp2_with fail
      refine (a_live a19 (by simp)).mono ?_
      rintro e w20 ⟨rfl, s20⟩
      have K20 := hide (K19.out.trans (s20.below _))
      clear s20 a19 K19 Y
      go_wp2_with fail
      refine (awake_any _).mono ?_
      rintro e w21 ⟨rfl, f21⟩
      have K21 := hide (K20.out.trans (f21.mono K20.out.size))
      clear f21
      go_wp2_with fail
      go_ret
      exact ⟨rfl, K21.out⟩
end Go.Proofs.Ytaoabjcbolncoaa
