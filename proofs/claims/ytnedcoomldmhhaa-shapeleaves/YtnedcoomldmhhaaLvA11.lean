/- ShapeLeaves. -/
import Derived.Test.YtnedcoomldmhhaaAw12
import Derived.Test.YtnedcoomldmhhaaLow6
namespace Go.Proofs.Ytnedcoomldmhhaa
set_option maxRecDepth 20000
open Go.RowKit Go.Sort
set_option linter.unusedVariables false
set_option linter.unusedSimpArgs false

theorem leafPs_len (kind : Int) (k : List Int) (v : Int) : (leafPs kind k v).length = 1 := by unfold leafPs; split <;> rfl
set_option maxHeartbeats 12800000 in
theorem leaves_any (a : Option Addr) (k : List Int) (kc : Nat) (v kind : Int) (w : World) (h : Rd w a k) (hv : 0 ≤ v ∧ v ≤ 18446744073709551615) (hi : -9223372036854775808 ≤ kind ∧ kind ≤ 9223372036854775807) :
    Calls Try.prog 7 #[.slice a k.length kc, .int .u64 v, .int .i64 kind] w fun e w' => e = .returned (.bool true) ∧ Below w.heap.size w w' := by
  have HR := hide h
  have hml := h.2.1
  unfold maxLen at hml
  clear h
  by_cases hl : 60 < k.length
  · have hl' : (60 : Int) < (k.length : Int) := by omega
    go_enter Try.func7, Try.ntmps7
    go_wp2_with (go_at_call 9; refine (awake_any _).mono ?_; rintro e w' ⟨rfl, hw⟩)
    go_ret
    exact ⟨rfl, hw⟩
  have hl' : ¬ (60 : Int) < (k.length : Int) := by omega
  go_enter Try.func7, Try.ntmps7
  go_wp2_with fail
  refine (low_any kind 11 hi.1 hi.2 (by omega) (by omega) _).mono ?_
  have hq := lowK_range kind 11 (by omega)
  generalize lowK kind 11 = q at *
  rintro e w' ⟨rfl, rfl⟩
  by_cases q0 : q = 0
  · subst q0
    obtain ⟨cA, hcA⟩ : ∃ cA : Cel, cA = ⟨1, 0, 1, 0, 0, false, v, a, kc, k, none, 0, []⟩ := ⟨_, rfl⟩
    have hA : Hid (cA.fields = [.int .i64 (1), .int .i64 0, .int .i64 1, .int .i64 0, .int .u8 0, .bool false, .int .u64 v, .slice a k.length kc, .slice none 0 0]) := by show _ = _; rw [hcA]; rfl
    have hP : Hid (cA.pure = leafC (1) k v) := by show _ = _; rw [hcA]; rfl
    have HK : Hid (1 ≤ (1 : Int) ∧ (1 : Int) ≤ 11) := by show _ ∧ _; omega
    have ok0 : Cok w' cA := by
      rw [hcA]
      exact ⟨by simp [I64], by simp [I64], by simp [I64], by simp [I64], by simp, hv, HR.out, Rp.nil _ _⟩
    have f1 := (Below.refl _ w').alloc (Nat.le_refl _) (.cells cA.fields.toArray 40 (0, 0))
    have CB1 := hide (Blk.new w' 40 cA.fields _ rfl)
    have OK1 := hide (ok0.below f1 (Nat.le_refl _))
    have F1 := hide f1
    rw [hA.out] at CB1 OK1 F1
    clear ok0 f1 hcA
    go_wp2_with fail
    generalize World.alloc _ _ = w1 at F1 CB1 OK1 ⊢
    go_loopw [9] (fun vi wr => ∃ t : Int, vi = .int .i64 t ∧ 1 ≤ t ∧ t ≤ 5 ∧ Hid (Below w'.heap.size w' wr) ∧ Hid (Blk wr w'.heap.size 40 [.int .i64 (1), .int .i64 0, .int .i64 1, .int .i64 0, .int .u8 0, .bool false, .int .u64 v, .slice a k.length kc, .slice none 0 0]) ∧ Hid (Cok wr cA)) (fun vi _ => (5 - intOf vi).toNat)
    case atStart => exact ⟨1, rfl, by omega, by omega, F1.out, CB1.out, OK1.out⟩
    case round =>
      clear F1 CB1 OK1
      obtain ⟨t, rfl, ht1, ht5, F2, CB2, OK2⟩ := hrel
      by_cases ht4 : t ≤ 4
      · have hT : Hid (1 ≤ t ∧ t ≤ 4) := ⟨ht1, ht4⟩
        by_cases ht : t = leafTag (1)
        · have htq : t = 1 := ht
          subst htq
          have HT := hide ht
          clear ht
          obtain ⟨c0, c1, c2, c3, c4, c5, c6, c7, c8, -, -, -, -, -, -, -, -, -⟩ := box9 CB2.out
          have rc := rc_lit1 wr cA 40 _ rfl OK2.out
          have fl := (Below.refl _ wr).alloc (Nat.le_refl _) (.cells cA.fields.toArray 40 (0, 0))
          rw [hA.out] at rc fl
          have SN := sound_any 1 _ [cA] 1 _ rc
          rw [show [cA].map Cel.pure = [leafC (1) k v] by simp [hP.out], look_leaf (1) 1 k v HK.out hT.out (by omega), if_pos HT.out] at SN
          simp only [Option.isSome_some] at SN
          simp only [List.length_cons, List.length_nil, Nat.zero_add] at SN
          have SN' := hide SN
          have FL := hide fl
          clear SN rc fl
          go_wp2_with fail
          refine SN'.out.mono ?_
          rintro r w3 ⟨rfl, f'⟩
          have f2 := FL.out.trans (f'.mono (by simp))
          have F3 := hide (F2.out.trans (f2.mono F2.out.size))
          have CB3 := hide (CB2.out.below f2 CB2.out.lt)
          have OK3 := hide (OK2.out.below f2 (Nat.le_refl _))
          clear SN' FL f' f2 c0 c1 c2 c3 c4 c5 c6 c7 c8 F2 CB2 OK2
          obtain ⟨c0, c1, c2, c3, c4, c5, c6, c7, c8, -, -, -, -, -, -, -, -, -⟩ := box9 CB3.out
          have rc := rc_lit1 w3 cA 40 _ rfl OK3.out
          have fl := (Below.refl _ w3).alloc (Nat.le_refl _) (.cells cA.fields.toArray 40 (0, 0))
          rw [hA.out] at rc fl
          have SN := deep_any 1 _ [cA] 1 _ rc
          rw [show [cA].map Cel.pure = [leafC (1) k v] by simp [hP.out], deep_leaf (1) 1 k v HK.out hT.out (by omega), if_pos HT.out] at SN
          simp only [List.length_cons, List.length_nil, Nat.zero_add] at SN
          have SN' := hide SN
          have FL := hide fl
          clear SN rc fl
          go_wp2_with fail
          refine SN'.out.mono ?_
          rintro r w4 ⟨rfl, f'⟩
          have f2 := FL.out.trans (f'.mono (by simp))
          have F4 := hide (F3.out.trans (f2.mono F3.out.size))
          have CB4 := hide (CB3.out.below f2 CB3.out.lt)
          have OK4 := hide (OK3.out.below f2 (Nat.le_refl _))
          clear SN' FL f' f2 c0 c1 c2 c3 c4 c5 c6 c7 c8 F3 CB3 OK3
          obtain ⟨c0, c1, c2, c3, c4, c5, c6, c7, c8, -, -, -, -, -, -, -, -, -⟩ := box9 CB4.out
          have rc := rc_lit1 w4 cA 40 _ rfl OK4.out
          have fl := (Below.refl _ w4).alloc (Nat.le_refl _) (.cells cA.fields.toArray 40 (0, 0))
          rw [hA.out] at rc fl
          have SN := pairs_leaf _ cA 1 (1) 1 k v _ rc hP.out HK.out hT.out (by omega)
          rw [if_pos HT.out] at SN
          have SN' := hide SN
          have FL := hide fl
          clear SN rc fl
          go_wp2_with fail
          refine SN'.out.mono ?_
          rintro r w5 ⟨a4, c4', fs, rfl, -, -, m4, f'⟩
          have f2 := FL.out.trans (f'.mono (by simp))
          have F5 := hide (F4.out.trans (f2.mono F4.out.size))
          have CB5 := hide (CB4.out.below f2 CB4.out.lt)
          have OK5 := hide (OK4.out.below f2 (Nat.le_refl _))
          have hfl : fs.length = 1 := by have := congrArg List.length m4; simpa [leafPs_len] using this
          clear m4 SN' FL f' f2 c0 c1 c2 c3 c4 c5 c6 c7 c8 F4 CB4 OK4
          rw [hfl]
          clear hfl
          obtain ⟨c0, c1, c2, c3, c4, c5, c6, c7, c8, -, -, -, -, -, -, -, -, -⟩ := box9 CB5.out
          have rc := rc_lit2 w5 cA 40 _ rfl OK5.out
          have fl := (Below.refl _ w5).alloc (Nat.le_refl _) (.cells (cA.fields ++ cA.fields).toArray 40 (0, 0))
          rw [hA.out] at rc fl
          simp only [List.cons_append, List.nil_append] at rc fl
          have SN := sound_any 1 _ [cA, cA] 2 _ rc
          rw [show [cA, cA].map Cel.pure = [leafC (1) k v, leafC (1) k v] by simp [hP.out], look_twice (1) 1 k v HK.out hT.out] at SN
          simp only [Option.isSome_none] at SN
          simp only [List.length_cons, List.length_nil, Nat.zero_add] at SN
          have SN' := hide SN
          have FL := hide fl
          clear SN rc fl
          go_wp2_with fail
          refine SN'.out.mono ?_
          rintro r w6 ⟨rfl, f'⟩
          have f2 := FL.out.trans (f'.mono (by simp))
          have F6 := hide (F5.out.trans (f2.mono F5.out.size))
          have CB6 := hide (CB5.out.below f2 CB5.out.lt)
          have OK6 := hide (OK5.out.below f2 (Nat.le_refl _))
          clear SN' FL f' f2 c0 c1 c2 c3 c4 c5 c6 c7 c8 F5 CB5 OK5
          go_wp2_with fail
          go_roundw
          case rel => exact ⟨1 + 1, by go_num, by have := hT.out; omega, by have := hT.out; omega, F6.out, CB6.out, OK6.out⟩
          case measure => first | (simp [intOf]; done) | (simp [intOf]; have := hT.out; omega)
        · have htq : ¬ t = 1 := ht
          have htb : (t == 1) = false := by simpa using htq
          have HT := hide ht
          clear ht htq
          obtain ⟨c0, c1, c2, c3, c4, c5, c6, c7, c8, -, -, -, -, -, -, -, -, -⟩ := box9 CB2.out
          have rc := rc_lit1 wr cA 40 _ rfl OK2.out
          have fl := (Below.refl _ wr).alloc (Nat.le_refl _) (.cells cA.fields.toArray 40 (0, 0))
          rw [hA.out] at rc fl
          have SN := sound_any t _ [cA] 1 _ rc
          rw [show [cA].map Cel.pure = [leafC (1) k v] by simp [hP.out], look_leaf (1) t k v HK.out hT.out (by omega), if_neg HT.out] at SN
          simp only [Option.isSome_none] at SN
          simp only [List.length_cons, List.length_nil, Nat.zero_add] at SN
          have SN' := hide SN
          have FL := hide fl
          clear SN rc fl
          go_wp2_with fail
          refine SN'.out.mono ?_
          rintro r w3 ⟨rfl, f'⟩
          have f2 := FL.out.trans (f'.mono (by simp))
          have F3 := hide (F2.out.trans (f2.mono F2.out.size))
          have CB3 := hide (CB2.out.below f2 CB2.out.lt)
          have OK3 := hide (OK2.out.below f2 (Nat.le_refl _))
          clear SN' FL f' f2 c0 c1 c2 c3 c4 c5 c6 c7 c8 F2 CB2 OK2
          obtain ⟨c0, c1, c2, c3, c4, c5, c6, c7, c8, -, -, -, -, -, -, -, -, -⟩ := box9 CB3.out
          have rc := rc_lit1 w3 cA 40 _ rfl OK3.out
          have fl := (Below.refl _ w3).alloc (Nat.le_refl _) (.cells cA.fields.toArray 40 (0, 0))
          rw [hA.out] at rc fl
          have SN := deep_any t _ [cA] 1 _ rc
          rw [show [cA].map Cel.pure = [leafC (1) k v] by simp [hP.out], deep_leaf (1) t k v HK.out hT.out (by omega), if_neg HT.out] at SN
          simp only [List.length_cons, List.length_nil, Nat.zero_add] at SN
          have SN' := hide SN
          have FL := hide fl
          clear SN rc fl
          go_wp2_with fail
          refine SN'.out.mono ?_
          rintro r w4 ⟨rfl, f'⟩
          have f2 := FL.out.trans (f'.mono (by simp))
          have F4 := hide (F3.out.trans (f2.mono F3.out.size))
          have CB4 := hide (CB3.out.below f2 CB3.out.lt)
          have OK4 := hide (OK3.out.below f2 (Nat.le_refl _))
          clear SN' FL f' f2 c0 c1 c2 c3 c4 c5 c6 c7 c8 F3 CB3 OK3
          obtain ⟨c0, c1, c2, c3, c4, c5, c6, c7, c8, -, -, -, -, -, -, -, -, -⟩ := box9 CB4.out
          have rc := rc_lit1 w4 cA 40 _ rfl OK4.out
          have fl := (Below.refl _ w4).alloc (Nat.le_refl _) (.cells cA.fields.toArray 40 (0, 0))
          rw [hA.out] at rc fl
          have SN := pairs_leaf _ cA 1 (1) t k v _ rc hP.out HK.out hT.out (by omega)
          rw [if_neg HT.out] at SN
          have SN' := hide SN
          have FL := hide fl
          clear SN rc fl
          go_wp2_with fail
          refine SN'.out.mono ?_
          rintro r w5 ⟨a4, c4', fs, rfl, -, -, m4, f'⟩
          have f2 := FL.out.trans (f'.mono (by simp))
          have F5 := hide (F4.out.trans (f2.mono F4.out.size))
          have CB5 := hide (CB4.out.below f2 CB4.out.lt)
          have OK5 := hide (OK4.out.below f2 (Nat.le_refl _))
          have hfl : fs.length = 0 := by have := congrArg List.length m4; simpa using this
          clear m4 SN' FL f' f2 c0 c1 c2 c3 c4 c5 c6 c7 c8 F4 CB4 OK4
          rw [hfl]
          clear hfl
          obtain ⟨c0, c1, c2, c3, c4, c5, c6, c7, c8, -, -, -, -, -, -, -, -, -⟩ := box9 CB5.out
          have rc := rc_lit2 w5 cA 40 _ rfl OK5.out
          have fl := (Below.refl _ w5).alloc (Nat.le_refl _) (.cells (cA.fields ++ cA.fields).toArray 40 (0, 0))
          rw [hA.out] at rc fl
          simp only [List.cons_append, List.nil_append] at rc fl
          have SN := sound_any t _ [cA, cA] 2 _ rc
          rw [show [cA, cA].map Cel.pure = [leafC (1) k v, leafC (1) k v] by simp [hP.out], look_twice (1) t k v HK.out hT.out] at SN
          simp only [Option.isSome_none] at SN
          simp only [List.length_cons, List.length_nil, Nat.zero_add] at SN
          have SN' := hide SN
          have FL := hide fl
          clear SN rc fl
          go_wp2_with fail
          refine SN'.out.mono ?_
          rintro r w6 ⟨rfl, f'⟩
          have f2 := FL.out.trans (f'.mono (by simp))
          have F6 := hide (F5.out.trans (f2.mono F5.out.size))
          have CB6 := hide (CB5.out.below f2 CB5.out.lt)
          have OK6 := hide (OK5.out.below f2 (Nat.le_refl _))
          clear SN' FL f' f2 c0 c1 c2 c3 c4 c5 c6 c7 c8 F5 CB5 OK5
          go_wp2_with fail
          go_roundw
          case rel => exact ⟨t + 1, by go_num, by have := hT.out; omega, by have := hT.out; omega, F6.out, CB6.out, OK6.out⟩
          case measure => first | (simp [intOf]; done) | (simp [intOf]; have := hT.out; omega)
      · have AW := hide (awake_any wr)
        go_wp2_with fail
        refine AW.out.mono ?_
        rintro r w3 ⟨rfl, f3⟩
        have F3 := hide (F2.out.trans (f3.mono F2.out.size))
        clear f3
        go_wp2_with fail
        go_ret
        exact ⟨rfl, F3.out⟩
  by_cases q2 : q = 2
  · subst q2
    obtain ⟨cA, hcA⟩ : ∃ cA : Cel, cA = ⟨3, 0, 1, 0, 0, false, v, none, 0, [], none, 0, []⟩ := ⟨_, rfl⟩
    have hA : Hid (cA.fields = [.int .i64 (3), .int .i64 0, .int .i64 1, .int .i64 0, .int .u8 0, .bool false, .int .u64 v, .slice none 0 0, .slice none 0 0]) := by show _ = _; rw [hcA]; rfl
    have hP : Hid (cA.pure = leafC (3) k v) := by show _ = _; rw [hcA]; rfl
    have HK : Hid (1 ≤ (3 : Int) ∧ (3 : Int) ≤ 11) := by show _ ∧ _; omega
    have ok0 : Cok w' cA := by
      rw [hcA]
      exact ⟨by simp [I64], by simp [I64], by simp [I64], by simp [I64], by simp, hv, Rd.nil _ _, Rp.nil _ _⟩
    have f1 := (Below.refl _ w').alloc (Nat.le_refl _) (.cells cA.fields.toArray 40 (0, 0))
    have CB1 := hide (Blk.new w' 40 cA.fields _ rfl)
    have OK1 := hide (ok0.below f1 (Nat.le_refl _))
    have F1 := hide f1
    rw [hA.out] at CB1 OK1 F1
    clear ok0 f1 hcA
    go_wp2_with fail
    generalize World.alloc _ _ = w1 at F1 CB1 OK1 ⊢
    go_loopw [9] (fun vi wr => ∃ t : Int, vi = .int .i64 t ∧ 1 ≤ t ∧ t ≤ 5 ∧ Hid (Below w'.heap.size w' wr) ∧ Hid (Blk wr w'.heap.size 40 [.int .i64 (3), .int .i64 0, .int .i64 1, .int .i64 0, .int .u8 0, .bool false, .int .u64 v, .slice none 0 0, .slice none 0 0]) ∧ Hid (Cok wr cA)) (fun vi _ => (5 - intOf vi).toNat)
    case atStart => exact ⟨1, rfl, by omega, by omega, F1.out, CB1.out, OK1.out⟩
    case round =>
      clear F1 CB1 OK1
      obtain ⟨t, rfl, ht1, ht5, F2, CB2, OK2⟩ := hrel
      by_cases ht4 : t ≤ 4
      · have hT : Hid (1 ≤ t ∧ t ≤ 4) := ⟨ht1, ht4⟩
        by_cases ht : t = leafTag (3)
        · have htq : t = 2 := ht
          subst htq
          have HT := hide ht
          clear ht
          obtain ⟨c0, c1, c2, c3, c4, c5, c6, c7, c8, -, -, -, -, -, -, -, -, -⟩ := box9 CB2.out
          have rc := rc_lit1 wr cA 40 _ rfl OK2.out
          have fl := (Below.refl _ wr).alloc (Nat.le_refl _) (.cells cA.fields.toArray 40 (0, 0))
          rw [hA.out] at rc fl
          have SN := sound_any 2 _ [cA] 1 _ rc
          rw [show [cA].map Cel.pure = [leafC (3) k v] by simp [hP.out], look_leaf (3) 2 k v HK.out hT.out (by omega), if_pos HT.out] at SN
          simp only [Option.isSome_some] at SN
          simp only [List.length_cons, List.length_nil, Nat.zero_add] at SN
          have SN' := hide SN
          have FL := hide fl
          clear SN rc fl
          go_wp2_with fail
          refine SN'.out.mono ?_
          rintro r w3 ⟨rfl, f'⟩
          have f2 := FL.out.trans (f'.mono (by simp))
          have F3 := hide (F2.out.trans (f2.mono F2.out.size))
          have CB3 := hide (CB2.out.below f2 CB2.out.lt)
          have OK3 := hide (OK2.out.below f2 (Nat.le_refl _))
          clear SN' FL f' f2 c0 c1 c2 c3 c4 c5 c6 c7 c8 F2 CB2 OK2
          obtain ⟨c0, c1, c2, c3, c4, c5, c6, c7, c8, -, -, -, -, -, -, -, -, -⟩ := box9 CB3.out
          have rc := rc_lit1 w3 cA 40 _ rfl OK3.out
          have fl := (Below.refl _ w3).alloc (Nat.le_refl _) (.cells cA.fields.toArray 40 (0, 0))
          rw [hA.out] at rc fl
          have SN := deep_any 2 _ [cA] 1 _ rc
          rw [show [cA].map Cel.pure = [leafC (3) k v] by simp [hP.out], deep_leaf (3) 2 k v HK.out hT.out (by omega), if_pos HT.out] at SN
          simp only [List.length_cons, List.length_nil, Nat.zero_add] at SN
          have SN' := hide SN
          have FL := hide fl
          clear SN rc fl
          go_wp2_with fail
          refine SN'.out.mono ?_
          rintro r w4 ⟨rfl, f'⟩
          have f2 := FL.out.trans (f'.mono (by simp))
          have F4 := hide (F3.out.trans (f2.mono F3.out.size))
          have CB4 := hide (CB3.out.below f2 CB3.out.lt)
          have OK4 := hide (OK3.out.below f2 (Nat.le_refl _))
          clear SN' FL f' f2 c0 c1 c2 c3 c4 c5 c6 c7 c8 F3 CB3 OK3
          obtain ⟨c0, c1, c2, c3, c4, c5, c6, c7, c8, -, -, -, -, -, -, -, -, -⟩ := box9 CB4.out
          have rc := rc_lit1 w4 cA 40 _ rfl OK4.out
          have fl := (Below.refl _ w4).alloc (Nat.le_refl _) (.cells cA.fields.toArray 40 (0, 0))
          rw [hA.out] at rc fl
          have SN := pairs_leaf _ cA 1 (3) 2 k v _ rc hP.out HK.out hT.out (by omega)
          rw [if_pos HT.out] at SN
          have SN' := hide SN
          have FL := hide fl
          clear SN rc fl
          go_wp2_with fail
          refine SN'.out.mono ?_
          rintro r w5 ⟨a4, c4', fs, rfl, -, -, m4, f'⟩
          have f2 := FL.out.trans (f'.mono (by simp))
          have F5 := hide (F4.out.trans (f2.mono F4.out.size))
          have CB5 := hide (CB4.out.below f2 CB4.out.lt)
          have OK5 := hide (OK4.out.below f2 (Nat.le_refl _))
          have hfl : fs.length = 1 := by have := congrArg List.length m4; simpa [leafPs_len] using this
          clear m4 SN' FL f' f2 c0 c1 c2 c3 c4 c5 c6 c7 c8 F4 CB4 OK4
          rw [hfl]
          clear hfl
          obtain ⟨c0, c1, c2, c3, c4, c5, c6, c7, c8, -, -, -, -, -, -, -, -, -⟩ := box9 CB5.out
          have rc := rc_lit2 w5 cA 40 _ rfl OK5.out
          have fl := (Below.refl _ w5).alloc (Nat.le_refl _) (.cells (cA.fields ++ cA.fields).toArray 40 (0, 0))
          rw [hA.out] at rc fl
          simp only [List.cons_append, List.nil_append] at rc fl
          have SN := sound_any 2 _ [cA, cA] 2 _ rc
          rw [show [cA, cA].map Cel.pure = [leafC (3) k v, leafC (3) k v] by simp [hP.out], look_twice (3) 2 k v HK.out hT.out] at SN
          simp only [Option.isSome_none] at SN
          simp only [List.length_cons, List.length_nil, Nat.zero_add] at SN
          have SN' := hide SN
          have FL := hide fl
          clear SN rc fl
          go_wp2_with fail
          refine SN'.out.mono ?_
          rintro r w6 ⟨rfl, f'⟩
          have f2 := FL.out.trans (f'.mono (by simp))
          have F6 := hide (F5.out.trans (f2.mono F5.out.size))
          have CB6 := hide (CB5.out.below f2 CB5.out.lt)
          have OK6 := hide (OK5.out.below f2 (Nat.le_refl _))
          clear SN' FL f' f2 c0 c1 c2 c3 c4 c5 c6 c7 c8 F5 CB5 OK5
          go_wp2_with fail
          go_roundw
          case rel => exact ⟨2 + 1, by go_num, by have := hT.out; omega, by have := hT.out; omega, F6.out, CB6.out, OK6.out⟩
          case measure => first | (simp [intOf]; done) | (simp [intOf]; have := hT.out; omega)
        · have htq : ¬ t = 2 := ht
          have htb : (t == 2) = false := by simpa using htq
          have HT := hide ht
          clear ht htq
          obtain ⟨c0, c1, c2, c3, c4, c5, c6, c7, c8, -, -, -, -, -, -, -, -, -⟩ := box9 CB2.out
          have rc := rc_lit1 wr cA 40 _ rfl OK2.out
          have fl := (Below.refl _ wr).alloc (Nat.le_refl _) (.cells cA.fields.toArray 40 (0, 0))
          rw [hA.out] at rc fl
          have SN := sound_any t _ [cA] 1 _ rc
          rw [show [cA].map Cel.pure = [leafC (3) k v] by simp [hP.out], look_leaf (3) t k v HK.out hT.out (by omega), if_neg HT.out] at SN
          simp only [Option.isSome_none] at SN
          simp only [List.length_cons, List.length_nil, Nat.zero_add] at SN
          have SN' := hide SN
          have FL := hide fl
          clear SN rc fl
          go_wp2_with fail
          refine SN'.out.mono ?_
          rintro r w3 ⟨rfl, f'⟩
          have f2 := FL.out.trans (f'.mono (by simp))
          have F3 := hide (F2.out.trans (f2.mono F2.out.size))
          have CB3 := hide (CB2.out.below f2 CB2.out.lt)
          have OK3 := hide (OK2.out.below f2 (Nat.le_refl _))
          clear SN' FL f' f2 c0 c1 c2 c3 c4 c5 c6 c7 c8 F2 CB2 OK2
          obtain ⟨c0, c1, c2, c3, c4, c5, c6, c7, c8, -, -, -, -, -, -, -, -, -⟩ := box9 CB3.out
          have rc := rc_lit1 w3 cA 40 _ rfl OK3.out
          have fl := (Below.refl _ w3).alloc (Nat.le_refl _) (.cells cA.fields.toArray 40 (0, 0))
          rw [hA.out] at rc fl
          have SN := deep_any t _ [cA] 1 _ rc
          rw [show [cA].map Cel.pure = [leafC (3) k v] by simp [hP.out], deep_leaf (3) t k v HK.out hT.out (by omega), if_neg HT.out] at SN
          simp only [List.length_cons, List.length_nil, Nat.zero_add] at SN
          have SN' := hide SN
          have FL := hide fl
          clear SN rc fl
          go_wp2_with fail
          refine SN'.out.mono ?_
          rintro r w4 ⟨rfl, f'⟩
          have f2 := FL.out.trans (f'.mono (by simp))
          have F4 := hide (F3.out.trans (f2.mono F3.out.size))
          have CB4 := hide (CB3.out.below f2 CB3.out.lt)
          have OK4 := hide (OK3.out.below f2 (Nat.le_refl _))
          clear SN' FL f' f2 c0 c1 c2 c3 c4 c5 c6 c7 c8 F3 CB3 OK3
          obtain ⟨c0, c1, c2, c3, c4, c5, c6, c7, c8, -, -, -, -, -, -, -, -, -⟩ := box9 CB4.out
          have rc := rc_lit1 w4 cA 40 _ rfl OK4.out
          have fl := (Below.refl _ w4).alloc (Nat.le_refl _) (.cells cA.fields.toArray 40 (0, 0))
          rw [hA.out] at rc fl
          have SN := pairs_leaf _ cA 1 (3) t k v _ rc hP.out HK.out hT.out (by omega)
          rw [if_neg HT.out] at SN
          have SN' := hide SN
          have FL := hide fl
          clear SN rc fl
          go_wp2_with fail
          refine SN'.out.mono ?_
          rintro r w5 ⟨a4, c4', fs, rfl, -, -, m4, f'⟩
          have f2 := FL.out.trans (f'.mono (by simp))
          have F5 := hide (F4.out.trans (f2.mono F4.out.size))
          have CB5 := hide (CB4.out.below f2 CB4.out.lt)
          have OK5 := hide (OK4.out.below f2 (Nat.le_refl _))
          have hfl : fs.length = 0 := by have := congrArg List.length m4; simpa using this
          clear m4 SN' FL f' f2 c0 c1 c2 c3 c4 c5 c6 c7 c8 F4 CB4 OK4
          rw [hfl]
          clear hfl
          obtain ⟨c0, c1, c2, c3, c4, c5, c6, c7, c8, -, -, -, -, -, -, -, -, -⟩ := box9 CB5.out
          have rc := rc_lit2 w5 cA 40 _ rfl OK5.out
          have fl := (Below.refl _ w5).alloc (Nat.le_refl _) (.cells (cA.fields ++ cA.fields).toArray 40 (0, 0))
          rw [hA.out] at rc fl
          simp only [List.cons_append, List.nil_append] at rc fl
          have SN := sound_any t _ [cA, cA] 2 _ rc
          rw [show [cA, cA].map Cel.pure = [leafC (3) k v, leafC (3) k v] by simp [hP.out], look_twice (3) t k v HK.out hT.out] at SN
          simp only [Option.isSome_none] at SN
          simp only [List.length_cons, List.length_nil, Nat.zero_add] at SN
          have SN' := hide SN
          have FL := hide fl
          clear SN rc fl
          go_wp2_with fail
          refine SN'.out.mono ?_
          rintro r w6 ⟨rfl, f'⟩
          have f2 := FL.out.trans (f'.mono (by simp))
          have F6 := hide (F5.out.trans (f2.mono F5.out.size))
          have CB6 := hide (CB5.out.below f2 CB5.out.lt)
          have OK6 := hide (OK5.out.below f2 (Nat.le_refl _))
          clear SN' FL f' f2 c0 c1 c2 c3 c4 c5 c6 c7 c8 F5 CB5 OK5
          go_wp2_with fail
          go_roundw
          case rel => exact ⟨t + 1, by go_num, by have := hT.out; omega, by have := hT.out; omega, F6.out, CB6.out, OK6.out⟩
          case measure => first | (simp [intOf]; done) | (simp [intOf]; have := hT.out; omega)
      · have AW := hide (awake_any wr)
        go_wp2_with fail
        refine AW.out.mono ?_
        rintro r w3 ⟨rfl, f3⟩
        have F3 := hide (F2.out.trans (f3.mono F2.out.size))
        clear f3
        go_wp2_with fail
        go_ret
        exact ⟨rfl, F3.out⟩
  by_cases q4 : q = 4
  · subst q4
    obtain ⟨cA, hcA⟩ : ∃ cA : Cel, cA = ⟨5, 0, 1, 0, 0, false, v, a, kc, k, none, 0, []⟩ := ⟨_, rfl⟩
    have hA : Hid (cA.fields = [.int .i64 (5), .int .i64 0, .int .i64 1, .int .i64 0, .int .u8 0, .bool false, .int .u64 v, .slice a k.length kc, .slice none 0 0]) := by show _ = _; rw [hcA]; rfl
    have hP : Hid (cA.pure = leafC (5) k v) := by show _ = _; rw [hcA]; rfl
    have HK : Hid (1 ≤ (5 : Int) ∧ (5 : Int) ≤ 11) := by show _ ∧ _; omega
    have ok0 : Cok w' cA := by
      rw [hcA]
      exact ⟨by simp [I64], by simp [I64], by simp [I64], by simp [I64], by simp, hv, HR.out, Rp.nil _ _⟩
    have f1 := (Below.refl _ w').alloc (Nat.le_refl _) (.cells cA.fields.toArray 40 (0, 0))
    have CB1 := hide (Blk.new w' 40 cA.fields _ rfl)
    have OK1 := hide (ok0.below f1 (Nat.le_refl _))
    have F1 := hide f1
    rw [hA.out] at CB1 OK1 F1
    clear ok0 f1 hcA
    go_wp2_with fail
    generalize World.alloc _ _ = w1 at F1 CB1 OK1 ⊢
    go_loopw [9] (fun vi wr => ∃ t : Int, vi = .int .i64 t ∧ 1 ≤ t ∧ t ≤ 5 ∧ Hid (Below w'.heap.size w' wr) ∧ Hid (Blk wr w'.heap.size 40 [.int .i64 (5), .int .i64 0, .int .i64 1, .int .i64 0, .int .u8 0, .bool false, .int .u64 v, .slice a k.length kc, .slice none 0 0]) ∧ Hid (Cok wr cA)) (fun vi _ => (5 - intOf vi).toNat)
    case atStart => exact ⟨1, rfl, by omega, by omega, F1.out, CB1.out, OK1.out⟩
    case round =>
      clear F1 CB1 OK1
      obtain ⟨t, rfl, ht1, ht5, F2, CB2, OK2⟩ := hrel
      by_cases ht4 : t ≤ 4
      · have hT : Hid (1 ≤ t ∧ t ≤ 4) := ⟨ht1, ht4⟩
        by_cases ht : t = leafTag (5)
        · have htq : t = 3 := ht
          subst htq
          have HT := hide ht
          clear ht
          obtain ⟨c0, c1, c2, c3, c4, c5, c6, c7, c8, -, -, -, -, -, -, -, -, -⟩ := box9 CB2.out
          have rc := rc_lit1 wr cA 40 _ rfl OK2.out
          have fl := (Below.refl _ wr).alloc (Nat.le_refl _) (.cells cA.fields.toArray 40 (0, 0))
          rw [hA.out] at rc fl
          have SN := sound_any 3 _ [cA] 1 _ rc
          rw [show [cA].map Cel.pure = [leafC (5) k v] by simp [hP.out], look_leaf (5) 3 k v HK.out hT.out (by omega), if_pos HT.out] at SN
          simp only [Option.isSome_some] at SN
          simp only [List.length_cons, List.length_nil, Nat.zero_add] at SN
          have SN' := hide SN
          have FL := hide fl
          clear SN rc fl
          go_wp2_with fail
          refine SN'.out.mono ?_
          rintro r w3 ⟨rfl, f'⟩
          have f2 := FL.out.trans (f'.mono (by simp))
          have F3 := hide (F2.out.trans (f2.mono F2.out.size))
          have CB3 := hide (CB2.out.below f2 CB2.out.lt)
          have OK3 := hide (OK2.out.below f2 (Nat.le_refl _))
          clear SN' FL f' f2 c0 c1 c2 c3 c4 c5 c6 c7 c8 F2 CB2 OK2
          obtain ⟨c0, c1, c2, c3, c4, c5, c6, c7, c8, -, -, -, -, -, -, -, -, -⟩ := box9 CB3.out
          have rc := rc_lit1 w3 cA 40 _ rfl OK3.out
          have fl := (Below.refl _ w3).alloc (Nat.le_refl _) (.cells cA.fields.toArray 40 (0, 0))
          rw [hA.out] at rc fl
          have SN := deep_any 3 _ [cA] 1 _ rc
          rw [show [cA].map Cel.pure = [leafC (5) k v] by simp [hP.out], deep_leaf (5) 3 k v HK.out hT.out (by omega), if_pos HT.out] at SN
          simp only [List.length_cons, List.length_nil, Nat.zero_add] at SN
          have SN' := hide SN
          have FL := hide fl
          clear SN rc fl
          go_wp2_with fail
          refine SN'.out.mono ?_
          rintro r w4 ⟨rfl, f'⟩
          have f2 := FL.out.trans (f'.mono (by simp))
          have F4 := hide (F3.out.trans (f2.mono F3.out.size))
          have CB4 := hide (CB3.out.below f2 CB3.out.lt)
          have OK4 := hide (OK3.out.below f2 (Nat.le_refl _))
          clear SN' FL f' f2 c0 c1 c2 c3 c4 c5 c6 c7 c8 F3 CB3 OK3
          obtain ⟨c0, c1, c2, c3, c4, c5, c6, c7, c8, -, -, -, -, -, -, -, -, -⟩ := box9 CB4.out
          have rc := rc_lit1 w4 cA 40 _ rfl OK4.out
          have fl := (Below.refl _ w4).alloc (Nat.le_refl _) (.cells cA.fields.toArray 40 (0, 0))
          rw [hA.out] at rc fl
          have SN := pairs_leaf _ cA 1 (5) 3 k v _ rc hP.out HK.out hT.out (by omega)
          rw [if_pos HT.out] at SN
          have SN' := hide SN
          have FL := hide fl
          clear SN rc fl
          go_wp2_with fail
          refine SN'.out.mono ?_
          rintro r w5 ⟨a4, c4', fs, rfl, -, -, m4, f'⟩
          have f2 := FL.out.trans (f'.mono (by simp))
          have F5 := hide (F4.out.trans (f2.mono F4.out.size))
          have CB5 := hide (CB4.out.below f2 CB4.out.lt)
          have OK5 := hide (OK4.out.below f2 (Nat.le_refl _))
          have hfl : fs.length = 1 := by have := congrArg List.length m4; simpa [leafPs_len] using this
          clear m4 SN' FL f' f2 c0 c1 c2 c3 c4 c5 c6 c7 c8 F4 CB4 OK4
          rw [hfl]
          clear hfl
          obtain ⟨c0, c1, c2, c3, c4, c5, c6, c7, c8, -, -, -, -, -, -, -, -, -⟩ := box9 CB5.out
          have rc := rc_lit2 w5 cA 40 _ rfl OK5.out
          have fl := (Below.refl _ w5).alloc (Nat.le_refl _) (.cells (cA.fields ++ cA.fields).toArray 40 (0, 0))
          rw [hA.out] at rc fl
          simp only [List.cons_append, List.nil_append] at rc fl
          have SN := sound_any 3 _ [cA, cA] 2 _ rc
          rw [show [cA, cA].map Cel.pure = [leafC (5) k v, leafC (5) k v] by simp [hP.out], look_twice (5) 3 k v HK.out hT.out] at SN
          simp only [Option.isSome_none] at SN
          simp only [List.length_cons, List.length_nil, Nat.zero_add] at SN
          have SN' := hide SN
          have FL := hide fl
          clear SN rc fl
          go_wp2_with fail
          refine SN'.out.mono ?_
          rintro r w6 ⟨rfl, f'⟩
          have f2 := FL.out.trans (f'.mono (by simp))
          have F6 := hide (F5.out.trans (f2.mono F5.out.size))
          have CB6 := hide (CB5.out.below f2 CB5.out.lt)
          have OK6 := hide (OK5.out.below f2 (Nat.le_refl _))
          clear SN' FL f' f2 c0 c1 c2 c3 c4 c5 c6 c7 c8 F5 CB5 OK5
          go_wp2_with fail
          go_roundw
          case rel => exact ⟨3 + 1, by go_num, by have := hT.out; omega, by have := hT.out; omega, F6.out, CB6.out, OK6.out⟩
          case measure => first | (simp [intOf]; done) | (simp [intOf]; have := hT.out; omega)
        · have htq : ¬ t = 3 := ht
          have htb : (t == 3) = false := by simpa using htq
          have HT := hide ht
          clear ht htq
          obtain ⟨c0, c1, c2, c3, c4, c5, c6, c7, c8, -, -, -, -, -, -, -, -, -⟩ := box9 CB2.out
          have rc := rc_lit1 wr cA 40 _ rfl OK2.out
          have fl := (Below.refl _ wr).alloc (Nat.le_refl _) (.cells cA.fields.toArray 40 (0, 0))
          rw [hA.out] at rc fl
          have SN := sound_any t _ [cA] 1 _ rc
          rw [show [cA].map Cel.pure = [leafC (5) k v] by simp [hP.out], look_leaf (5) t k v HK.out hT.out (by omega), if_neg HT.out] at SN
          simp only [Option.isSome_none] at SN
          simp only [List.length_cons, List.length_nil, Nat.zero_add] at SN
          have SN' := hide SN
          have FL := hide fl
          clear SN rc fl
          go_wp2_with fail
          refine SN'.out.mono ?_
          rintro r w3 ⟨rfl, f'⟩
          have f2 := FL.out.trans (f'.mono (by simp))
          have F3 := hide (F2.out.trans (f2.mono F2.out.size))
          have CB3 := hide (CB2.out.below f2 CB2.out.lt)
          have OK3 := hide (OK2.out.below f2 (Nat.le_refl _))
          clear SN' FL f' f2 c0 c1 c2 c3 c4 c5 c6 c7 c8 F2 CB2 OK2
          obtain ⟨c0, c1, c2, c3, c4, c5, c6, c7, c8, -, -, -, -, -, -, -, -, -⟩ := box9 CB3.out
          have rc := rc_lit1 w3 cA 40 _ rfl OK3.out
          have fl := (Below.refl _ w3).alloc (Nat.le_refl _) (.cells cA.fields.toArray 40 (0, 0))
          rw [hA.out] at rc fl
          have SN := deep_any t _ [cA] 1 _ rc
          rw [show [cA].map Cel.pure = [leafC (5) k v] by simp [hP.out], deep_leaf (5) t k v HK.out hT.out (by omega), if_neg HT.out] at SN
          simp only [List.length_cons, List.length_nil, Nat.zero_add] at SN
          have SN' := hide SN
          have FL := hide fl
          clear SN rc fl
          go_wp2_with fail
          refine SN'.out.mono ?_
          rintro r w4 ⟨rfl, f'⟩
          have f2 := FL.out.trans (f'.mono (by simp))
          have F4 := hide (F3.out.trans (f2.mono F3.out.size))
          have CB4 := hide (CB3.out.below f2 CB3.out.lt)
          have OK4 := hide (OK3.out.below f2 (Nat.le_refl _))
          clear SN' FL f' f2 c0 c1 c2 c3 c4 c5 c6 c7 c8 F3 CB3 OK3
          obtain ⟨c0, c1, c2, c3, c4, c5, c6, c7, c8, -, -, -, -, -, -, -, -, -⟩ := box9 CB4.out
          have rc := rc_lit1 w4 cA 40 _ rfl OK4.out
          have fl := (Below.refl _ w4).alloc (Nat.le_refl _) (.cells cA.fields.toArray 40 (0, 0))
          rw [hA.out] at rc fl
          have SN := pairs_leaf _ cA 1 (5) t k v _ rc hP.out HK.out hT.out (by omega)
          rw [if_neg HT.out] at SN
          have SN' := hide SN
          have FL := hide fl
          clear SN rc fl
          go_wp2_with fail
          refine SN'.out.mono ?_
          rintro r w5 ⟨a4, c4', fs, rfl, -, -, m4, f'⟩
          have f2 := FL.out.trans (f'.mono (by simp))
          have F5 := hide (F4.out.trans (f2.mono F4.out.size))
          have CB5 := hide (CB4.out.below f2 CB4.out.lt)
          have OK5 := hide (OK4.out.below f2 (Nat.le_refl _))
          have hfl : fs.length = 0 := by have := congrArg List.length m4; simpa using this
          clear m4 SN' FL f' f2 c0 c1 c2 c3 c4 c5 c6 c7 c8 F4 CB4 OK4
          rw [hfl]
          clear hfl
          obtain ⟨c0, c1, c2, c3, c4, c5, c6, c7, c8, -, -, -, -, -, -, -, -, -⟩ := box9 CB5.out
          have rc := rc_lit2 w5 cA 40 _ rfl OK5.out
          have fl := (Below.refl _ w5).alloc (Nat.le_refl _) (.cells (cA.fields ++ cA.fields).toArray 40 (0, 0))
          rw [hA.out] at rc fl
          simp only [List.cons_append, List.nil_append] at rc fl
          have SN := sound_any t _ [cA, cA] 2 _ rc
          rw [show [cA, cA].map Cel.pure = [leafC (5) k v, leafC (5) k v] by simp [hP.out], look_twice (5) t k v HK.out hT.out] at SN
          simp only [Option.isSome_none] at SN
          simp only [List.length_cons, List.length_nil, Nat.zero_add] at SN
          have SN' := hide SN
          have FL := hide fl
          clear SN rc fl
          go_wp2_with fail
          refine SN'.out.mono ?_
          rintro r w6 ⟨rfl, f'⟩
          have f2 := FL.out.trans (f'.mono (by simp))
          have F6 := hide (F5.out.trans (f2.mono F5.out.size))
          have CB6 := hide (CB5.out.below f2 CB5.out.lt)
          have OK6 := hide (OK5.out.below f2 (Nat.le_refl _))
          clear SN' FL f' f2 c0 c1 c2 c3 c4 c5 c6 c7 c8 F5 CB5 OK5
          go_wp2_with fail
          go_roundw
          case rel => exact ⟨t + 1, by go_num, by have := hT.out; omega, by have := hT.out; omega, F6.out, CB6.out, OK6.out⟩
          case measure => first | (simp [intOf]; done) | (simp [intOf]; have := hT.out; omega)
      · have AW := hide (awake_any wr)
        go_wp2_with fail
        refine AW.out.mono ?_
        rintro r w3 ⟨rfl, f3⟩
        have F3 := hide (F2.out.trans (f3.mono F2.out.size))
        clear f3
        go_wp2_with fail
        go_ret
        exact ⟨rfl, F3.out⟩
  by_cases q10 : q = 10
  · subst q10
    obtain ⟨cA, hcA⟩ : ∃ cA : Cel, cA = ⟨11, 0, 1, 1, 0, false, 0, none, 0, [], some ⟨w'.heap.size + 1, 0, none⟩, 1, [⟨a, kc, k, v⟩]⟩ := ⟨_, rfl⟩
    have hA : Hid (cA.fields = [.int .i64 (11), .int .i64 0, .int .i64 1, .int .i64 1, .int .u8 0, .bool false, .int .u64 0, .slice none 0 0, .slice (some ⟨w'.heap.size + 1, 0, none⟩) 1 1]) := by show _ = _; rw [hcA]; rfl
    have hP : Hid (cA.pure = leafC (11) k v) := by show _ = _; rw [hcA]; rfl
    have HK : Hid (1 ≤ (11 : Int) ∧ (11 : Int) ≤ 11) := by show _ ∧ _; omega
    have f0 := (Below.refl _ w').alloc (Nat.le_refl _) (.cells cA.fields.toArray 40 (0, 0))
    have f1 := (Below.refl _ (w'.alloc (.cells cA.fields.toArray 40 (0, 0)))).alloc (Nat.le_refl _) (.cells #[.slice a k.length kc, .int .u64 v] 47 (0, 0))
    have hs1 : (w'.alloc (.cells cA.fields.toArray 40 (0, 0))).heap.size = w'.heap.size + 1 := by simp
    have bp := Blk.new (w'.alloc (.cells cA.fields.toArray 40 (0, 0))) 47 [.slice a k.length kc, .int .u64 v] _ rfl
    rw [hs1] at bp
    have rp : Rp ((w'.alloc (.cells cA.fields.toArray 40 (0, 0))).alloc (.cells #[.slice a k.length kc, .int .u64 v] 47 (0, 0))) (some ⟨w'.heap.size + 1, 0, none⟩) [⟨a, kc, k, v⟩] := Rf.lit_rp (w := w') (e := ⟨a, kc, k, v⟩) bp ((HR.out.below f0 (Nat.le_refl _)).below f1 (Nat.le_refl _)) hv
    have ok0 : Cok ((w'.alloc (.cells cA.fields.toArray 40 (0, 0))).alloc (.cells #[.slice a k.length kc, .int .u64 v] 47 (0, 0))) cA := by
      have := rp
      rw [hcA] at this ⊢
      exact ⟨by simp [I64], by simp [I64], by simp [I64], by simp [I64], by simp, by simp, Rd.nil _ _, this⟩
    have OK1 := hide ok0
    have CB1 := hide ((Blk.new w' 40 cA.fields _ rfl).alloc (.cells #[.slice a k.length kc, .int .u64 v] 47 (0, 0)))
    have F1 := hide (f0.trans (f1.mono (by simp)))
    rw [hA.out] at CB1 OK1 F1
    clear ok0 f1 f0 hcA hs1 bp rp
    go_wp2_with fail
    generalize World.alloc _ _ = w1 at F1 CB1 OK1 ⊢
    go_loopw [9] (fun vi wr => ∃ t : Int, vi = .int .i64 t ∧ 1 ≤ t ∧ t ≤ 5 ∧ Hid (Below w'.heap.size w' wr) ∧ Hid (Blk wr w'.heap.size 40 [.int .i64 (11), .int .i64 0, .int .i64 1, .int .i64 1, .int .u8 0, .bool false, .int .u64 0, .slice none 0 0, .slice (some ⟨w'.heap.size + 1, 0, none⟩) 1 1]) ∧ Hid (Cok wr cA)) (fun vi _ => (5 - intOf vi).toNat)
    case atStart => exact ⟨1, rfl, by omega, by omega, F1.out, CB1.out, OK1.out⟩
    case round =>
      clear F1 CB1 OK1
      obtain ⟨t, rfl, ht1, ht5, F2, CB2, OK2⟩ := hrel
      by_cases ht4 : t ≤ 4
      · have hT : Hid (1 ≤ t ∧ t ≤ 4) := ⟨ht1, ht4⟩
        by_cases ht : t = leafTag (11)
        · have htq : t = 4 := ht
          subst htq
          have HT := hide ht
          clear ht
          obtain ⟨c0, c1, c2, c3, c4, c5, c6, c7, c8, -, -, -, -, -, -, -, -, -⟩ := box9 CB2.out
          have rc := rc_lit1 wr cA 40 _ rfl OK2.out
          have fl := (Below.refl _ wr).alloc (Nat.le_refl _) (.cells cA.fields.toArray 40 (0, 0))
          rw [hA.out] at rc fl
          have SN := sound_any 4 _ [cA] 1 _ rc
          rw [show [cA].map Cel.pure = [leafC (11) k v] by simp [hP.out], look_leaf (11) 4 k v HK.out hT.out (by omega), if_pos HT.out] at SN
          simp only [Option.isSome_some] at SN
          simp only [List.length_cons, List.length_nil, Nat.zero_add] at SN
          have SN' := hide SN
          have FL := hide fl
          clear SN rc fl
          go_wp2_with fail
          refine SN'.out.mono ?_
          rintro r w3 ⟨rfl, f'⟩
          have f2 := FL.out.trans (f'.mono (by simp))
          have F3 := hide (F2.out.trans (f2.mono F2.out.size))
          have CB3 := hide (CB2.out.below f2 CB2.out.lt)
          have OK3 := hide (OK2.out.below f2 (Nat.le_refl _))
          clear SN' FL f' f2 c0 c1 c2 c3 c4 c5 c6 c7 c8 F2 CB2 OK2
          obtain ⟨c0, c1, c2, c3, c4, c5, c6, c7, c8, -, -, -, -, -, -, -, -, -⟩ := box9 CB3.out
          have rc := rc_lit1 w3 cA 40 _ rfl OK3.out
          have fl := (Below.refl _ w3).alloc (Nat.le_refl _) (.cells cA.fields.toArray 40 (0, 0))
          rw [hA.out] at rc fl
          have SN := deep_any 4 _ [cA] 1 _ rc
          rw [show [cA].map Cel.pure = [leafC (11) k v] by simp [hP.out], deep_leaf (11) 4 k v HK.out hT.out (by omega), if_pos HT.out] at SN
          simp only [List.length_cons, List.length_nil, Nat.zero_add] at SN
          have SN' := hide SN
          have FL := hide fl
          clear SN rc fl
          go_wp2_with fail
          refine SN'.out.mono ?_
          rintro r w4 ⟨rfl, f'⟩
          have f2 := FL.out.trans (f'.mono (by simp))
          have F4 := hide (F3.out.trans (f2.mono F3.out.size))
          have CB4 := hide (CB3.out.below f2 CB3.out.lt)
          have OK4 := hide (OK3.out.below f2 (Nat.le_refl _))
          clear SN' FL f' f2 c0 c1 c2 c3 c4 c5 c6 c7 c8 F3 CB3 OK3
          obtain ⟨c0, c1, c2, c3, c4, c5, c6, c7, c8, -, -, -, -, -, -, -, -, -⟩ := box9 CB4.out
          have rc := rc_lit1 w4 cA 40 _ rfl OK4.out
          have fl := (Below.refl _ w4).alloc (Nat.le_refl _) (.cells cA.fields.toArray 40 (0, 0))
          rw [hA.out] at rc fl
          have SN := pairs_leaf _ cA 1 (11) 4 k v _ rc hP.out HK.out hT.out (by omega)
          rw [if_pos HT.out] at SN
          have SN' := hide SN
          have FL := hide fl
          clear SN rc fl
          go_wp2_with fail
          refine SN'.out.mono ?_
          rintro r w5 ⟨a4, c4', fs, rfl, -, -, m4, f'⟩
          have f2 := FL.out.trans (f'.mono (by simp))
          have F5 := hide (F4.out.trans (f2.mono F4.out.size))
          have CB5 := hide (CB4.out.below f2 CB4.out.lt)
          have OK5 := hide (OK4.out.below f2 (Nat.le_refl _))
          have hfl : fs.length = 1 := by have := congrArg List.length m4; simpa [leafPs_len] using this
          clear m4 SN' FL f' f2 c0 c1 c2 c3 c4 c5 c6 c7 c8 F4 CB4 OK4
          rw [hfl]
          clear hfl
          obtain ⟨c0, c1, c2, c3, c4, c5, c6, c7, c8, -, -, -, -, -, -, -, -, -⟩ := box9 CB5.out
          have rc := rc_lit2 w5 cA 40 _ rfl OK5.out
          have fl := (Below.refl _ w5).alloc (Nat.le_refl _) (.cells (cA.fields ++ cA.fields).toArray 40 (0, 0))
          rw [hA.out] at rc fl
          simp only [List.cons_append, List.nil_append] at rc fl
          have SN := sound_any 4 _ [cA, cA] 2 _ rc
          rw [show [cA, cA].map Cel.pure = [leafC (11) k v, leafC (11) k v] by simp [hP.out], look_twice (11) 4 k v HK.out hT.out] at SN
          simp only [Option.isSome_none] at SN
          simp only [List.length_cons, List.length_nil, Nat.zero_add] at SN
          have SN' := hide SN
          have FL := hide fl
          clear SN rc fl
          go_wp2_with fail
          refine SN'.out.mono ?_
          rintro r w6 ⟨rfl, f'⟩
          have f2 := FL.out.trans (f'.mono (by simp))
          have F6 := hide (F5.out.trans (f2.mono F5.out.size))
          have CB6 := hide (CB5.out.below f2 CB5.out.lt)
          have OK6 := hide (OK5.out.below f2 (Nat.le_refl _))
          clear SN' FL f' f2 c0 c1 c2 c3 c4 c5 c6 c7 c8 F5 CB5 OK5
          go_wp2_with fail
          go_roundw
          case rel => exact ⟨4 + 1, by go_num, by have := hT.out; omega, by have := hT.out; omega, F6.out, CB6.out, OK6.out⟩
          case measure => first | (simp [intOf]; done) | (simp [intOf]; have := hT.out; omega)
        · have htq : ¬ t = 4 := ht
          have htb : (t == 4) = false := by simpa using htq
          have HT := hide ht
          clear ht htq
          obtain ⟨c0, c1, c2, c3, c4, c5, c6, c7, c8, -, -, -, -, -, -, -, -, -⟩ := box9 CB2.out
          have rc := rc_lit1 wr cA 40 _ rfl OK2.out
          have fl := (Below.refl _ wr).alloc (Nat.le_refl _) (.cells cA.fields.toArray 40 (0, 0))
          rw [hA.out] at rc fl
          have SN := sound_any t _ [cA] 1 _ rc
          rw [show [cA].map Cel.pure = [leafC (11) k v] by simp [hP.out], look_leaf (11) t k v HK.out hT.out (by omega), if_neg HT.out] at SN
          simp only [Option.isSome_none] at SN
          simp only [List.length_cons, List.length_nil, Nat.zero_add] at SN
          have SN' := hide SN
          have FL := hide fl
          clear SN rc fl
          go_wp2_with fail
          refine SN'.out.mono ?_
          rintro r w3 ⟨rfl, f'⟩
          have f2 := FL.out.trans (f'.mono (by simp))
          have F3 := hide (F2.out.trans (f2.mono F2.out.size))
          have CB3 := hide (CB2.out.below f2 CB2.out.lt)
          have OK3 := hide (OK2.out.below f2 (Nat.le_refl _))
          clear SN' FL f' f2 c0 c1 c2 c3 c4 c5 c6 c7 c8 F2 CB2 OK2
          obtain ⟨c0, c1, c2, c3, c4, c5, c6, c7, c8, -, -, -, -, -, -, -, -, -⟩ := box9 CB3.out
          have rc := rc_lit1 w3 cA 40 _ rfl OK3.out
          have fl := (Below.refl _ w3).alloc (Nat.le_refl _) (.cells cA.fields.toArray 40 (0, 0))
          rw [hA.out] at rc fl
          have SN := deep_any t _ [cA] 1 _ rc
          rw [show [cA].map Cel.pure = [leafC (11) k v] by simp [hP.out], deep_leaf (11) t k v HK.out hT.out (by omega), if_neg HT.out] at SN
          simp only [List.length_cons, List.length_nil, Nat.zero_add] at SN
          have SN' := hide SN
          have FL := hide fl
          clear SN rc fl
          go_wp2_with fail
          refine SN'.out.mono ?_
          rintro r w4 ⟨rfl, f'⟩
          have f2 := FL.out.trans (f'.mono (by simp))
          have F4 := hide (F3.out.trans (f2.mono F3.out.size))
          have CB4 := hide (CB3.out.below f2 CB3.out.lt)
          have OK4 := hide (OK3.out.below f2 (Nat.le_refl _))
          clear SN' FL f' f2 c0 c1 c2 c3 c4 c5 c6 c7 c8 F3 CB3 OK3
          obtain ⟨c0, c1, c2, c3, c4, c5, c6, c7, c8, -, -, -, -, -, -, -, -, -⟩ := box9 CB4.out
          have rc := rc_lit1 w4 cA 40 _ rfl OK4.out
          have fl := (Below.refl _ w4).alloc (Nat.le_refl _) (.cells cA.fields.toArray 40 (0, 0))
          rw [hA.out] at rc fl
          have SN := pairs_leaf _ cA 1 (11) t k v _ rc hP.out HK.out hT.out (by omega)
          rw [if_neg HT.out] at SN
          have SN' := hide SN
          have FL := hide fl
          clear SN rc fl
          go_wp2_with fail
          refine SN'.out.mono ?_
          rintro r w5 ⟨a4, c4', fs, rfl, -, -, m4, f'⟩
          have f2 := FL.out.trans (f'.mono (by simp))
          have F5 := hide (F4.out.trans (f2.mono F4.out.size))
          have CB5 := hide (CB4.out.below f2 CB4.out.lt)
          have OK5 := hide (OK4.out.below f2 (Nat.le_refl _))
          have hfl : fs.length = 0 := by have := congrArg List.length m4; simpa using this
          clear m4 SN' FL f' f2 c0 c1 c2 c3 c4 c5 c6 c7 c8 F4 CB4 OK4
          rw [hfl]
          clear hfl
          obtain ⟨c0, c1, c2, c3, c4, c5, c6, c7, c8, -, -, -, -, -, -, -, -, -⟩ := box9 CB5.out
          have rc := rc_lit2 w5 cA 40 _ rfl OK5.out
          have fl := (Below.refl _ w5).alloc (Nat.le_refl _) (.cells (cA.fields ++ cA.fields).toArray 40 (0, 0))
          rw [hA.out] at rc fl
          simp only [List.cons_append, List.nil_append] at rc fl
          have SN := sound_any t _ [cA, cA] 2 _ rc
          rw [show [cA, cA].map Cel.pure = [leafC (11) k v, leafC (11) k v] by simp [hP.out], look_twice (11) t k v HK.out hT.out] at SN
          simp only [Option.isSome_none] at SN
          simp only [List.length_cons, List.length_nil, Nat.zero_add] at SN
          have SN' := hide SN
          have FL := hide fl
          clear SN rc fl
          go_wp2_with fail
          refine SN'.out.mono ?_
          rintro r w6 ⟨rfl, f'⟩
          have f2 := FL.out.trans (f'.mono (by simp))
          have F6 := hide (F5.out.trans (f2.mono F5.out.size))
          have CB6 := hide (CB5.out.below f2 CB5.out.lt)
          have OK6 := hide (OK5.out.below f2 (Nat.le_refl _))
          clear SN' FL f' f2 c0 c1 c2 c3 c4 c5 c6 c7 c8 F5 CB5 OK5
          go_wp2_with fail
          go_roundw
          case rel => exact ⟨t + 1, by go_num, by have := hT.out; omega, by have := hT.out; omega, F6.out, CB6.out, OK6.out⟩
          case measure => first | (simp [intOf]; done) | (simp [intOf]; have := hT.out; omega)
      · have AW := hide (awake_any wr)
        go_wp2_with fail
        refine AW.out.mono ?_
        rintro r w3 ⟨rfl, f3⟩
        have F3 := hide (F2.out.trans (f3.mono F2.out.size))
        clear f3
        go_wp2_with fail
        go_ret
        exact ⟨rfl, F3.out⟩
  have hTG : Hid (leafTag (1 + q) = 0) := by show _ = _; unfold leafTag; rw [if_neg (by omega), if_neg (by omega), if_neg (by omega), if_neg (by omega)]
  have b1 : (1 + q == 1) = false := by rw [beq_eq_false_iff_ne]; omega
  have b3 : (1 + q == 3) = false := by rw [beq_eq_false_iff_ne]; omega
  have b5 : (1 + q == 5) = false := by rw [beq_eq_false_iff_ne]; omega
  have b11 : (1 + q == 11) = false := by rw [beq_eq_false_iff_ne]; omega
  obtain ⟨cA, hcA⟩ : ∃ cA : Cel, cA = ⟨1 + q, 0, 1, 0, 0, false, v, a, kc, k, none, 0, []⟩ := ⟨_, rfl⟩
  have hA : Hid (cA.fields = [.int .i64 (1 + q), .int .i64 0, .int .i64 1, .int .i64 0, .int .u8 0, .bool false, .int .u64 v, .slice a k.length kc, .slice none 0 0]) := by show _ = _; rw [hcA]; rfl
  have hP : Hid (cA.pure = leafC (1 + q) k v) := by show _ = _; rw [hcA]; unfold leafC; rw [if_neg (by omega), if_neg (by omega)]; rfl
  have HK : Hid (1 ≤ (1 + q : Int) ∧ (1 + q : Int) ≤ 11) := by show _ ∧ _; omega
  have ok0 : Cok w' cA := by
    rw [hcA]
    exact ⟨by simp [I64]; omega, by simp [I64], by simp [I64], by simp [I64], by simp, hv, HR.out, Rp.nil _ _⟩
  have f1 := (Below.refl _ w').alloc (Nat.le_refl _) (.cells cA.fields.toArray 40 (0, 0))
  have CB1 := hide (Blk.new w' 40 cA.fields _ rfl)
  have OK1 := hide (ok0.below f1 (Nat.le_refl _))
  have F1 := hide f1
  rw [hA.out] at CB1 OK1 F1
  clear ok0 f1 hcA
  go_wp2_with fail
  generalize World.alloc _ _ = w1 at F1 CB1 OK1 ⊢
  go_loopw [9] (fun vi wr => ∃ t : Int, vi = .int .i64 t ∧ 1 ≤ t ∧ t ≤ 5 ∧ Hid (Below w'.heap.size w' wr) ∧ Hid (Blk wr w'.heap.size 40 [.int .i64 (1 + q), .int .i64 0, .int .i64 1, .int .i64 0, .int .u8 0, .bool false, .int .u64 v, .slice a k.length kc, .slice none 0 0]) ∧ Hid (Cok wr cA)) (fun vi _ => (5 - intOf vi).toNat)
  case atStart => exact ⟨1, rfl, by omega, by omega, F1.out, CB1.out, OK1.out⟩
  case round =>
    clear F1 CB1 OK1
    obtain ⟨t, rfl, ht1, ht5, F2, CB2, OK2⟩ := hrel
    by_cases ht4 : t ≤ 4
    · have hT : Hid (1 ≤ t ∧ t ≤ 4) := ⟨ht1, ht4⟩
      have ht : ¬ t = leafTag (1 + q) := by rw [hTG.out]; omega
      have htb : (t == 0) = false := by rw [beq_eq_false_iff_ne]; omega
      have HT := hide ht
      clear ht
      obtain ⟨c0, c1, c2, c3, c4, c5, c6, c7, c8, -, -, -, -, -, -, -, -, -⟩ := box9 CB2.out
      have rc := rc_lit1 wr cA 40 _ rfl OK2.out
      have fl := (Below.refl _ wr).alloc (Nat.le_refl _) (.cells cA.fields.toArray 40 (0, 0))
      rw [hA.out] at rc fl
      have SN := sound_any t _ [cA] 1 _ rc
      rw [show [cA].map Cel.pure = [leafC (1 + q) k v] by simp [hP.out], look_leaf (1 + q) t k v HK.out hT.out (by omega), if_neg HT.out] at SN
      simp only [Option.isSome_none] at SN
      simp only [List.length_cons, List.length_nil, Nat.zero_add] at SN
      have SN' := hide SN
      have FL := hide fl
      clear SN rc fl
      go_wp2_with fail
      refine SN'.out.mono ?_
      rintro r w3 ⟨rfl, f'⟩
      have f2 := FL.out.trans (f'.mono (by simp))
      have F3 := hide (F2.out.trans (f2.mono F2.out.size))
      have CB3 := hide (CB2.out.below f2 CB2.out.lt)
      have OK3 := hide (OK2.out.below f2 (Nat.le_refl _))
      clear SN' FL f' f2 c0 c1 c2 c3 c4 c5 c6 c7 c8 F2 CB2 OK2
      obtain ⟨c0, c1, c2, c3, c4, c5, c6, c7, c8, -, -, -, -, -, -, -, -, -⟩ := box9 CB3.out
      have rc := rc_lit1 w3 cA 40 _ rfl OK3.out
      have fl := (Below.refl _ w3).alloc (Nat.le_refl _) (.cells cA.fields.toArray 40 (0, 0))
      rw [hA.out] at rc fl
      have SN := deep_any t _ [cA] 1 _ rc
      rw [show [cA].map Cel.pure = [leafC (1 + q) k v] by simp [hP.out], deep_leaf (1 + q) t k v HK.out hT.out (by omega), if_neg HT.out] at SN
      simp only [List.length_cons, List.length_nil, Nat.zero_add] at SN
      have SN' := hide SN
      have FL := hide fl
      clear SN rc fl
      go_wp2_with fail
      refine SN'.out.mono ?_
      rintro r w4 ⟨rfl, f'⟩
      have f2 := FL.out.trans (f'.mono (by simp))
      have F4 := hide (F3.out.trans (f2.mono F3.out.size))
      have CB4 := hide (CB3.out.below f2 CB3.out.lt)
      have OK4 := hide (OK3.out.below f2 (Nat.le_refl _))
      clear SN' FL f' f2 c0 c1 c2 c3 c4 c5 c6 c7 c8 F3 CB3 OK3
      obtain ⟨c0, c1, c2, c3, c4, c5, c6, c7, c8, -, -, -, -, -, -, -, -, -⟩ := box9 CB4.out
      have rc := rc_lit1 w4 cA 40 _ rfl OK4.out
      have fl := (Below.refl _ w4).alloc (Nat.le_refl _) (.cells cA.fields.toArray 40 (0, 0))
      rw [hA.out] at rc fl
      have SN := pairs_leaf _ cA 1 (1 + q) t k v _ rc hP.out HK.out hT.out (by omega)
      rw [if_neg HT.out] at SN
      have SN' := hide SN
      have FL := hide fl
      clear SN rc fl
      go_wp2_with fail
      refine SN'.out.mono ?_
      rintro r w5 ⟨a4, c4', fs, rfl, -, -, m4, f'⟩
      have f2 := FL.out.trans (f'.mono (by simp))
      have F5 := hide (F4.out.trans (f2.mono F4.out.size))
      have CB5 := hide (CB4.out.below f2 CB4.out.lt)
      have OK5 := hide (OK4.out.below f2 (Nat.le_refl _))
      have hfl : fs.length = 0 := by have := congrArg List.length m4; simpa using this
      clear m4 SN' FL f' f2 c0 c1 c2 c3 c4 c5 c6 c7 c8 F4 CB4 OK4
      rw [hfl]
      clear hfl
      obtain ⟨c0, c1, c2, c3, c4, c5, c6, c7, c8, -, -, -, -, -, -, -, -, -⟩ := box9 CB5.out
      have rc := rc_lit2 w5 cA 40 _ rfl OK5.out
      have fl := (Below.refl _ w5).alloc (Nat.le_refl _) (.cells (cA.fields ++ cA.fields).toArray 40 (0, 0))
      rw [hA.out] at rc fl
      simp only [List.cons_append, List.nil_append] at rc fl
      have SN := sound_any t _ [cA, cA] 2 _ rc
      rw [show [cA, cA].map Cel.pure = [leafC (1 + q) k v, leafC (1 + q) k v] by simp [hP.out], look_twice (1 + q) t k v HK.out hT.out] at SN
      simp only [Option.isSome_none] at SN
      simp only [List.length_cons, List.length_nil, Nat.zero_add] at SN
      have SN' := hide SN
      have FL := hide fl
      clear SN rc fl
      go_wp2_with fail
      refine SN'.out.mono ?_
      rintro r w6 ⟨rfl, f'⟩
      have f2 := FL.out.trans (f'.mono (by simp))
      have F6 := hide (F5.out.trans (f2.mono F5.out.size))
      have CB6 := hide (CB5.out.below f2 CB5.out.lt)
      have OK6 := hide (OK5.out.below f2 (Nat.le_refl _))
      clear SN' FL f' f2 c0 c1 c2 c3 c4 c5 c6 c7 c8 F5 CB5 OK5
      go_wp2_with fail
      go_roundw
      case rel => exact ⟨t + 1, by go_num, by have := hT.out; omega, by have := hT.out; omega, F6.out, CB6.out, OK6.out⟩
      case measure => first | (simp [intOf]; done) | (simp [intOf]; have := hT.out; omega)
    · have AW := hide (awake_any wr)
      go_wp2_with fail
      refine AW.out.mono ?_
      rintro r w3 ⟨rfl, f3⟩
      have F3 := hide (F2.out.trans (f3.mono F2.out.size))
      clear f3
      go_wp2_with fail
      go_ret
      exact ⟨rfl, F3.out⟩
end Go.Proofs.Ytnedcoomldmhhaa
