/- MaskBack. -/
import Derived.Test.YtklakdhghmhapaaDoorBack4
import Derived.Lib.QuietBelow
namespace Go.Proofs.YtklakdhghmhapaaDoor
open Go.RowKit Go.Sort
set_option maxRecDepth 20000

theorem pass_if {c : Bool} {A B : Prop} (h : c = false) (hb : B) : if c = true then A else B := by rw [h]; exact hb
/-- An operation whose guard says no is passed over. -/
theorem wpQuiet_pass {P : Program} {ops : Array Oper} {C : World → Prop} {Q : Act → Prop} {a : Act} {o : Oper} {rest : List Oper} (hn : Region.wanted o (yielded ops a.tmps) = false) (h : wpQuiet P ops C Q rest (a.put o.dst undef)) : wpQuiet P ops C Q (o :: rest) a :=
  wpQuiet_step fun K hK => by
    rw [hn]
    exact hK _ h
theorem Blk.four' {w : World} {g : Nat} {e : TypeId} {a0 a1 a2 a3 : Value} (h : Blk w g e [a0, a1, a2, a3]) (b0 b1 b2 b3 : Value) : Blk ((((w.setCell ⟨g, 0, none⟩ b0).setCell ⟨g, 1, none⟩ b1).setCell ⟨g, 2, none⟩ b2).setCell ⟨g, 3, none⟩ b3) g e [b0, b1, b2, b3] :=
  (((h.set 0 b0).set 1 b1).set 2 b2).set 3 b3
theorem only_four' (w : World) (g : Nat) (b0 b1 b2 b3 : Value) : Only g w ((((w.setCell ⟨g, 0, none⟩ b0).setCell ⟨g, 1, none⟩ b1).setCell ⟨g, 2, none⟩ b2).setCell ⟨g, 3, none⟩ b3) :=
  ((((Only.refl g w).setCell 0 b0).setCell 1 b1).setCell 2 b2).setCell 3 b3
theorem rd_at {w : World} {a : Option Addr} {xs : List Nat} (h : Rd w a (ints xs)) (k : Nat) (hk : k < xs.length) : ∃ g o, a = some ⟨g, o, none⟩ ∧ ∀ i, i < xs.length → w.cell? ⟨g, o + i, none⟩ = some (.int .u8 ((xs.getD i 0 : Nat) : Int)) := by
  rcases h.2.2 with h | ⟨b, off, rfl, hc⟩
  · have : xs.length = 0 := by rw [← ints_len, h]; rfl
    omega
  · exact ⟨b, off, rfl, fun i hi => by rw [hc i (by rw [ints_len]; exact hi), ints_getD]⟩

set_option maxHeartbeats 8000000 in
theorem back_any (a : Option Addr) (xs : List Nat) (ca : Nat) (w : World) (hx : ∀ x ∈ xs, x < 256) (ha : Rd w a (ints xs)) (hT : Tab w) (hw : 0 < w.heap.size) :
    Calls Tryd.prog 4 #[.slice a xs.length ca] w fun e w' => e = .returned (.bool true) ∧ Below w.heap.size w w' := by
  have HT := hide hT
  have HX := hide hx
  have HA := hide ha
  clear hT hx ha
  by_cases h40 : 40 < xs.length
  · have h40' : (40 : Int) < (xs.length : Int) := by omega
    clear h40
    go_enter Tryd.func4, Tryd.ntmps4
    go_wp2_with (go_at_call 23; refine (awake_any _ HT.out hw).mono ?_; rintro e w5 ⟨rfl, f5⟩; have F5 := hide f5; clear f5)
    go_ret
    exact ⟨rfl, F5.out⟩
  · have h40' : (xs.length : Int) ≤ 40 := by omega
    obtain ⟨m, hmm⟩ : ∃ m, m = ofK xs := ⟨_, rfl⟩
    have HM : Hid (Ok m) := by rw [hmm]; exact ofK_ok xs HX.out
    obtain ⟨x0, x1, x2, x3, em⟩ := list4 m HM.out.len
    have EM := hide em
    have EO := hide hmm
    have CO : Calls Tryd.prog 24 #[.slice a xs.length ca] w fun e w' => e = .returned (ag x0 x1 x2 x3) ∧ Below w.heap.size w w' := by
      have := of_any a xs ca w HX.out HA.out
      rwa [← hmm, em] at this
    clear hmm em h40
    go_enter Tryd.func4, Tryd.ntmps4
    go_wp2_with (go_at_call 24; refine CO.mono ?_; rintro e w5 ⟨rfl, f5⟩; have F5 := hide f5; clear f5)
    have BM := hide ((Blk.new w5 24 (ag4 x0 x1 x2 x3) #[.int .u64 (x0 : Int), .int .u64 (x1 : Int), .int .u64 (x2 : Int), .int .u64 (x3 : Int)] rfl).alloc (.cells #[.int .u64 0, .int .u64 0, .int .u64 0, .int .u64 0] 24 (0, 0)))
    have BO := hide ((Blk.new (w5.alloc (.cells #[.int .u64 (x0 : Int), .int .u64 (x1 : Int), .int .u64 (x2 : Int), .int .u64 (x3 : Int)] 24 (0, 0))) 24 (u64s z0) #[.int .u64 0, .int .u64 0, .int .u64 0, .int .u64 0] rfl).to (show _ = w5.heap.size + 1 by simp))
    have F6 := hide (Below.alloc (Below.alloc F5.out F5.out.size (.cells #[.int .u64 (x0 : Int), .int .u64 (x1 : Int), .int .u64 (x2 : Int), .int .u64 (x3 : Int)] 24 (0, 0))) (Nat.le_trans F5.out.size (by simp)) (.cells #[.int .u64 0, .int .u64 0, .int .u64 0, .int .u64 0] 24 (0, 0)))
    generalize ((w5.alloc (.cells #[.int .u64 (x0 : Int), .int .u64 (x1 : Int), .int .u64 (x2 : Int), .int .u64 (x3 : Int)] 24 (0, 0))).alloc (.cells #[.int .u64 0, .int .u64 0, .int .u64 0, .int .u64 0] 24 (0, 0))) = w6 at *
    go_loopw [5] (fun v wr => ∃ k : Nat, v = .int .i64 ((k : Int) - 1) ∧ k ≤ xs.length ∧ Blk wr w5.heap.size 24 (ag4 x0 x1 x2 x3) ∧ Blk wr (w5.heap.size + 1) 24 (u64s (fromEnd xs k)) ∧ Below w.heap.size w wr) (fun v _ => (intOf v + 1).toNat)
    case atStart => exact ⟨xs.length, rfl, Nat.le_refl _, BM.out, by rw [fromEnd_none]; exact BO.out, F6.out⟩
    case round =>
      obtain ⟨k, rfl, hk, a1, a2, a3⟩ := hrel
      have RM := hide a1
      have RO := hide a2
      have RF := hide a3
      clear a1 a2 a3
      cases k with
      | succ k =>
        have hkk : ((k + 1 : Nat) : Int) - 1 = (k : Int) := by omega
        have hk1 : k < xs.length := by omega
        obtain ⟨ga, oa, rfl, hca⟩ := rd_at (HA.out.below RF.out (Nat.le_refl _)) k hk1
        have c9 := hca k hk1
        have HB := hide (HX.out (xs.getD k 0) (by rw [List.getD_eq_getElem?_getD, List.getElem?_eq_getElem hk1]; exact List.getElem_mem _))
        have HS := hide (fromEnd_step xs k hk1)
        have HK := hide (fromEnd_ok xs HX.out (k + 1))
        obtain ⟨y0, y1, y2, y3, ey⟩ := list4 (fromEnd xs (k + 1)) HK.out.len
        obtain ⟨t0, t1, t2, t3, et⟩ := list4 (fromEnd xs k) (fromEnd_ok xs HX.out k).len
        generalize xs.getD k 0 = b at *
        have CW : ∀ w, Calls Tryd.prog 10 #[ag y0 y1 y2 y3, .int .u8 b] w fun e w' => e = .returned (ag t0 t1 t2 t3) ∧ Below w.heap.size w w' := fun w => by
          have := with4 ey HK.out b HB.out w
          rwa [← HS.out, et] at this
        have ET := hide et
        rw [ey] at RO
        obtain ⟨c0, c1, c2, c3⟩ := RO.out.cells4
        have hki : (k : Int) < (xs.length : Int) := by omega
        have hkj : (0 : Int) ≤ (k : Int) := by omega
        have U0 : Hid (∀ w', Below wr.heap.size wr w' → Blk w' (w5.heap.size + 1) 24 (ag4 y0 y1 y2 y3)) := fun w' f => RO.out.below f RO.out.lt
        rw [hkk]
        clear hca ey et hkk
        go_wp2
        go_region_with (go_at_call 10; refine (CW _).mono ?_; rintro e w7 ⟨rfl, g7⟩; have f7 := (Below.drew (Below.refl wr.heap.size wr)).trans g7; have B7 := hide (U0.out w7 f7); have F7 := hide (RF.out.trans (f7.mono RF.out.size)); have M7 := hide (RM.out.below f7 RM.out.lt); obtain ⟨d0, d1, d2, d3⟩ := B7.out.cells4; obtain ⟨z0, z1, z2, z3⟩ := B7.out.frozen4; clear f7 g7)
        all_goals (
          go_wp2
          go_roundw
          case measure => simp only [intOf]; omega
          case rel =>
            have n5 := F5.out.size
            refine ⟨k, rfl, by omega, M7.out.only (only_four' _ _ _ _ _ _) (by omega), ?_, F7.out.trans ((only_four' _ _ _ _ _ _).below (by omega))⟩
            rw [ET.out]
            exact B7.out.four' _ _ _ _)
      | zero =>
        have hkk : ((0 : Nat) : Int) - 1 = -1 := by omega
        have e0 : u64s (fromEnd xs 0) = ag4 x0 x1 x2 x3 := by rw [fromEnd_all xs HX.out, ← EO.out, EM.out]; rfl
        rw [e0] at RO
        have HB := hide (elems_bytes m)
        have CA := fun w hT hw => all4 EM.out HM.out w hT hw
        obtain ⟨c0, c1, c2, c3⟩ := RM.out.cells4
        rw [hkk]
        clear hkk e0
        go_wp2_with (go_at_call 8; refine (CA _ (HT.out.below RF.out hw) (Nat.lt_of_lt_of_le hw RF.out.size)).mono ?_; rintro e w8 ⟨v8, rfl, o8, f8⟩; obtain ⟨aA, cA, rfl, rA⟩ := owns_ints o8 HB.out; have RA := hide rA; have M8 := hide (RM.out.below f8 RM.out.lt); have O8 := hide (RO.out.below f8 RO.out.lt); have F8 := hide (RF.out.trans (f8.mono RF.out.size)); clear f8 o8 rA)
        have A8 := hide (HA.out.below F8.out (Nat.le_refl _))
        clear CA
        have hel := elems_len m
        go_loopw [7] (fun v wr => ∃ k : Nat, v = .int .i64 k ∧ k ≤ (elems m).length ∧ Below w8.heap.size w8 wr) (fun v _ => (elems m).length - (intOf v).toNat)
        case atStart => exact ⟨0, rfl, by omega, Below.refl _ _⟩
        case round =>
          obtain ⟨k, rfl, hk2, hf⟩ := hrel
          have SF := hide hf
          clear hf
          by_cases h1 : k < (elems m).length
          · obtain ⟨gA, oA, rfl, hcA⟩ := rd_at (RA.out.below SF.out (Nat.le_refl _)) k h1
            have hki : (k : Int) < ((elems m).length : Int) := by omega
            have hkj : (0 : Int) ≤ (k : Int) := by omega
            obtain ⟨b, hb⟩ : ∃ b, b = (elems m).getD k 0 := ⟨_, rfl⟩
            have hb6 : b < 256 := by rw [hb]; exact (elems_at m k h1).1
            have CR : ∀ w, Calls Tryd.prog 17 #[ag x0 x1 x2 x3, .int .i64 b] w fun e w' => e = .returned (.int .i64 (k : Int)) ∧ Below w.heap.size w w' := fun w => by
              have := rank4 EM.out HM.out (b : Int) (by omega) w
              rwa [hb, rank_at m HM.out k h1, ← hb] at this
            have CN : ∀ w, Tab w → 0 < w.heap.size → Calls Tryd.prog 13 #[ag x0 x1 x2 x3, .int .i64 b] w fun e w' => e = .returned (.int .i64 (b : Int)) ∧ Below w.heap.size w w' := fun w hT hw => by
              have := next4 EM.out HM.out (b : Int) (by omega) w hT hw
              rwa [hb, nxt_self m k h1, ← hb] at this
            have CP : ∀ w, Calls Tryd.prog 15 #[ag x0 x1 x2 x3, .int .i64 b] w fun e w' => e = .returned (.int .i64 (b : Int)) ∧ Below w.heap.size w w' := fun w => by
              have := prev4 EM.out HM.out (b : Int) (by omega) w
              rwa [hb, prv_self m k h1, ← hb] at this
            have hcb : IntKind.i64.wrap (b : Int) = (b : Int) := by rw [IntKind.wrap_i64]; omega
            have TW : Hid (∀ w', Below w8.heap.size w8 w' → Tab w' ∧ 0 < w'.heap.size) := fun w' f => ⟨(HT.out.below F8.out hw).below f (Nat.lt_of_lt_of_le hw F8.out.size), Nat.lt_of_lt_of_le (Nat.lt_of_lt_of_le hw F8.out.size) f.size⟩
            by_cases h0 : k = 0
            · have hd : decide ((0 : Int) < (k : Int)) = false := decide_eq_false (by omega)
              have HD2 : Hid (decide (0 < k) = false) := decide_eq_false (by omega)
              have HD3 : Hid ((decide (0 < k) == true) = false) := by rw [HD2.out]; rfl
              have HD := hide hd
              clear hd
              have E9 : Hid (∀ w', Below w8.heap.size w8 w' → w'.cell? ⟨w5.heap.size, 0, none⟩ = some (.int .u64 (x0 : Int)) ∧ w'.cell? ⟨w5.heap.size, 1, none⟩ = some (.int .u64 (x1 : Int)) ∧ w'.cell? ⟨w5.heap.size, 2, none⟩ = some (.int .u64 (x2 : Int)) ∧ w'.cell? ⟨w5.heap.size, 3, none⟩ = some (.int .u64 (x3 : Int)) ∧ w'.cell? ⟨gA, oA + k, none⟩ = some (.int .u8 (b : Int))) := fun w' f => by
                obtain ⟨d0, d1, d2, d3⟩ := (M8.out.below f M8.out.lt).cells4
                obtain ⟨g', o', e', hc'⟩ := rd_at (RA.out.below f (Nat.le_refl _)) k h1
                cases e'
                have := hc' k h1
                rw [← hb] at this
                exact ⟨d0, d1, d2, d3, this⟩
              clear hcA hb h0
              obtain ⟨s0, s1, s2, s3, s4⟩ := E9.out _ SF.out
              have t0 := cell_regrown s0
              have t1 := cell_regrown s1
              have t2 := cell_regrown s2
              have t3 := cell_regrown s3
              have t4 := cell_regrown s4
              have GB : Hid (∀ d os, Below w8.heap.size w8 (grow (redrawn wr d) os)) := fun d os => SF.out.trans ((below_regrown wr d os).mono SF.out.size)
              have cR : ∀ d os, Calls Tryd.prog 17 #[ag x0 x1 x2 x3, .int .i64 b] (grow (redrawn wr d) os) fun e w'' => e = .returned (.int .i64 (k : Int)) ∧ ∃ p : Regrown, w'' = grow (redrawn wr p.d) p.os := fun d os => Calls.regrown_of (CR _)
              have cN : ∀ d os, Calls Tryd.prog 13 #[ag x0 x1 x2 x3, .int .i64 b] (grow (redrawn wr d) os) fun e w'' => e = .returned (.int .i64 (b : Int)) ∧ ∃ p : Regrown, w'' = grow (redrawn wr p.d) p.os := fun d os => Calls.regrown_of (CN _ (TW.out _ (GB.out d os)).1 (TW.out _ (GB.out d os)).2)
              have cP : ∀ d os, Calls Tryd.prog 15 #[ag x0 x1 x2 x3, .int .i64 b] (grow (redrawn wr d) os) fun e w'' => e = .returned (.int .i64 (b : Int)) ∧ ∃ p : Regrown, w'' = grow (redrawn wr p.d) p.os := fun d os => Calls.regrown_of (CP _)
              go_wp2
              refine wp_region_quiet_below (by kernel_rfl) (by kernel_rfl) ?_
              iterate 3 (refine wpQuiet_step (fun K hK => ?_); have HK := hide hK; clear hK; go_simp; refine HK.out _ ?_; clear HK K)
              iterate 10 (refine wpQuiet_step (fun K hK => ?_); refine pass_if (Eq.trans (b := (decide (0 < k) == true)) (by kernel_rfl) HD3.out) ?_; simp only [Act.put, List.setIfInBounds_toArray, List.set_cons_zero, List.set_cons_succ]; refine hK _ ?_; clear hK K)
              (refine wpQuiet_step (fun K hK => ?_); have HK := hide hK; clear hK; simp only [HD2.out]; go_simp; refine HK.out _ ?_; clear HK K)
              repeat (refine wpQuiet_step (fun K hK => ?_); have HK := hide hK; clear hK; go_simp; first | (refine HK.out _ ?_; clear HK K) | (apply Exists.intro; refine ⟨fun _ => ?_, HK.out _ ?_⟩; (first | (go_at_call 17; exact cR _ _) | (go_at_call 13; exact cN _ _) | (go_at_call 15; exact cP _ _)); clear HK K))
              refine wpQuiet_nil ?_
              intro _ hw'
              obtain ⟨⟨dq, osq⟩, hw''⟩ := hw'
              subst hw''
              go_wp2
              go_roundw
              case measure => simp only [intOf]; omega
              case rel => exact ⟨k + 1, by go_num, by omega, GB.out dq osq⟩
            · obtain ⟨p, rfl⟩ : ∃ p, k = p + 1 := ⟨k - 1, by omega⟩
              obtain ⟨pb, hpb⟩ : ∃ q, q = (elems m).getD p 0 := ⟨_, rfl⟩
              have hlt : pb < b := by rw [hb, hpb]; exact elems_lt m p (p + 1) (by omega) h1
              have E9 : Hid (∀ w', Below w8.heap.size w8 w' → w'.cell? ⟨w5.heap.size, 0, none⟩ = some (.int .u64 (x0 : Int)) ∧ w'.cell? ⟨w5.heap.size, 1, none⟩ = some (.int .u64 (x1 : Int)) ∧ w'.cell? ⟨w5.heap.size, 2, none⟩ = some (.int .u64 (x2 : Int)) ∧ w'.cell? ⟨w5.heap.size, 3, none⟩ = some (.int .u64 (x3 : Int)) ∧ w'.cell? ⟨gA, oA + (p + 1), none⟩ = some (.int .u8 (b : Int)) ∧ w'.cell? ⟨gA, oA + p, none⟩ = some (.int .u8 (pb : Int))) := fun w' f => by
                obtain ⟨d0, d1, d2, d3⟩ := (M8.out.below f M8.out.lt).cells4
                obtain ⟨g', o', e', hc'⟩ := rd_at (RA.out.below f (Nat.le_refl _)) (p + 1) h1
                cases e'
                have c1 := hc' (p + 1) h1
                have c2 := hc' p (by omega)
                rw [← hb] at c1
                rw [← hpb] at c2
                exact ⟨d0, d1, d2, d3, c1, c2⟩
              have hp0 : (0 : Int) ≤ (p : Int) + 1 := by omega
              have hp5 : IntKind.i64.wrap (p : Int) = (p : Int) := by rw [IntKind.wrap_i64]; omega
              have hp1 : (p : Int) < ((elems m).length : Int) := by omega
              have hp2 : (p : Int) + 1 < ((elems m).length : Int) := by omega
              have hp3 : p < (elems m).length := by omega
              have hp4 : IntKind.i64.wrap ((p : Int) + 1) = (p : Int) + 1 := by rw [IntKind.wrap_i64]; omega
              have hle : decide ((b : Int) ≤ (pb : Int)) = false := by simp; omega
              clear hcA hb hpb h0
              obtain ⟨s0, s1, s2, s3, s4, s5⟩ := E9.out _ SF.out
              have t0 := cell_regrown s0
              have t1 := cell_regrown s1
              have t2 := cell_regrown s2
              have t3 := cell_regrown s3
              have t4 := cell_regrown s4
              have t5 := cell_regrown s5
              have GB : Hid (∀ d os, Below w8.heap.size w8 (grow (redrawn wr d) os)) := fun d os => SF.out.trans ((below_regrown wr d os).mono SF.out.size)
              have cR : ∀ d os, Calls Tryd.prog 17 #[ag x0 x1 x2 x3, .int .i64 b] (grow (redrawn wr d) os) fun e w'' => e = .returned (.int .i64 ((p + 1 : Nat) : Int)) ∧ ∃ r : Regrown, w'' = grow (redrawn wr r.d) r.os := fun d os => Calls.regrown_of (CR _)
              have cN : ∀ d os, Calls Tryd.prog 13 #[ag x0 x1 x2 x3, .int .i64 b] (grow (redrawn wr d) os) fun e w'' => e = .returned (.int .i64 (b : Int)) ∧ ∃ p : Regrown, w'' = grow (redrawn wr p.d) p.os := fun d os => Calls.regrown_of (CN _ (TW.out _ (GB.out d os)).1 (TW.out _ (GB.out d os)).2)
              have cP : ∀ d os, Calls Tryd.prog 15 #[ag x0 x1 x2 x3, .int .i64 b] (grow (redrawn wr d) os) fun e w'' => e = .returned (.int .i64 (b : Int)) ∧ ∃ p : Regrown, w'' = grow (redrawn wr p.d) p.os := fun d os => Calls.regrown_of (CP _)
              go_wp2
              refine wp_region_quiet_below (by kernel_rfl) (by kernel_rfl) ?_
              repeat (quiet_step (first | (go_at_call 17; exact cR _ _) | (go_at_call 13; exact cN _ _) | (go_at_call 15; exact cP _ _)))
              refine wpQuiet_nil ?_
              intro _ hw'
              obtain ⟨⟨dq, osq⟩, hw''⟩ := hw'
              subst hw''
              go_wp2
              go_roundw
              case measure => simp only [intOf]; omega
              case rel => exact ⟨p + 2, by go_num, by omega, GB.out dq osq⟩
          · obtain rfl : k = (elems m).length := by omega
            obtain ⟨W9, rfl⟩ : ∃ W, W = wr := ⟨_, rfl⟩
            have TW : Hid (∀ w', Below w8.heap.size w8 w' → Tab w' ∧ 0 < w'.heap.size) := fun w' f => ⟨(HT.out.below F8.out hw).below f (Nat.lt_of_lt_of_le hw F8.out.size), Nat.lt_of_lt_of_le (Nat.lt_of_lt_of_le hw F8.out.size) f.size⟩
            go_wp2
            go_loopw [8] (fun v wr => ∃ k : Nat, v = .int .i64 k ∧ k ≤ xs.length ∧ Below w8.heap.size w8 wr) (fun v _ => xs.length - (intOf v).toNat)
            case atStart => exact ⟨0, rfl, by omega, SF.out⟩
            case round =>
              obtain ⟨k, rfl, hk3, hf⟩ := hrel
              have PF := hide hf
              clear hf
              by_cases h3 : k < xs.length
              · obtain ⟨ga, oa, rfl, hca⟩ := rd_at (A8.out.below PF.out (Nat.le_refl _)) k h3
                have hki : (k : Int) < (xs.length : Int) := by omega
                have hkj : (0 : Int) ≤ (k : Int) := by omega
                obtain ⟨b, hb⟩ : ∃ b, b = xs.getD k 0 := ⟨_, rfl⟩
                have hmem : b ∈ xs := by rw [hb, List.getD_eq_getElem?_getD, List.getElem?_eq_getElem h3]; exact List.getElem_mem _
                have hb6 : b < 256 := HX.out b hmem
                have CH : ∀ w, Calls Tryd.prog 9 #[ag x0 x1 x2 x3, .int .u8 b] w fun e w' => e = .returned (.bool true) ∧ Below w.heap.size w w' := fun w => by
                  have := has4 EM.out HM.out b hb6 w
                  rwa [show inM m b = true by rw [EO.out, inM_of xs HX.out b hb6]; exact decide_eq_true hmem] at this
                have E9 : Hid (∀ w', Below w8.heap.size w8 w' → w'.cell? ⟨w5.heap.size, 0, none⟩ = some (.int .u64 (x0 : Int)) ∧ w'.cell? ⟨w5.heap.size, 1, none⟩ = some (.int .u64 (x1 : Int)) ∧ w'.cell? ⟨w5.heap.size, 2, none⟩ = some (.int .u64 (x2 : Int)) ∧ w'.cell? ⟨w5.heap.size, 3, none⟩ = some (.int .u64 (x3 : Int)) ∧ w'.cell? ⟨ga, oa + k, none⟩ = some (.int .u8 (b : Int))) := fun w' f => by
                  obtain ⟨d0, d1, d2, d3⟩ := (M8.out.below f M8.out.lt).cells4
                  obtain ⟨g', o', e', hc'⟩ := rd_at (A8.out.below f (Nat.le_refl _)) k h3
                  cases e'
                  have c1 := hc' k h3
                  rw [← hb] at c1
                  exact ⟨d0, d1, d2, d3, c1⟩
                have S0 := E9.out _ PF.out
                have SD := hide (Below.drew PF.out)
                clear hca hb hmem
                go_wp2
                go_region_held3 (fun w' => w'.cell? ⟨w5.heap.size, 0, none⟩ = some (.int .u64 (x0 : Int)) ∧ w'.cell? ⟨w5.heap.size, 1, none⟩ = some (.int .u64 (x1 : Int)) ∧ w'.cell? ⟨w5.heap.size, 2, none⟩ = some (.int .u64 (x2 : Int)) ∧ w'.cell? ⟨w5.heap.size, 3, none⟩ = some (.int .u64 (x3 : Int)) ∧ w'.cell? ⟨ga, oa + k, none⟩ = some (.int .u8 (b : Int))) (first | exact S20 | exact S0)
                  (first
                  | (go_at_call 9; refine (CH _).mono ?_; rintro e w20 ⟨rfl, f20⟩; have G20 := hide (SD.out.trans (f20.mono SD.out.size)); have S20 := E9.out _ G20.out; clear f20))
                go_wp2
                go_roundw
                case measure => simp only [intOf]; omega
                case rel => exact ⟨k + 1, by go_num, by omega, G20.out⟩
              · obtain rfl : k = xs.length := by omega
                have E4 : Hid (∀ w', Below w8.heap.size w8 w' → w'.cell? ⟨w5.heap.size, 0, none⟩ = some (.int .u64 (x0 : Int)) ∧ w'.cell? ⟨w5.heap.size, 1, none⟩ = some (.int .u64 (x1 : Int)) ∧ w'.cell? ⟨w5.heap.size, 2, none⟩ = some (.int .u64 (x2 : Int)) ∧ w'.cell? ⟨w5.heap.size, 3, none⟩ = some (.int .u64 (x3 : Int)) ∧ w'.cell? ⟨w5.heap.size + 1, 0, none⟩ = some (.int .u64 (x0 : Int)) ∧ w'.cell? ⟨w5.heap.size + 1, 1, none⟩ = some (.int .u64 (x1 : Int)) ∧ w'.cell? ⟨w5.heap.size + 1, 2, none⟩ = some (.int .u64 (x2 : Int)) ∧ w'.cell? ⟨w5.heap.size + 1, 3, none⟩ = some (.int .u64 (x3 : Int))) := fun w' f => by
                  obtain ⟨c0, c1, c2, c3⟩ := (M8.out.below f M8.out.lt).cells4
                  obtain ⟨d0, d1, d2, d3⟩ := (O8.out.below f O8.out.lt).cells4
                  exact ⟨c0, c1, c2, c3, d0, d1, d2, d3⟩
                obtain ⟨s0, s1, s2, s3, s4, s5, s6, s7⟩ := E4.out _ PF.out
                have t0 := cell_regrown s0
                have t1 := cell_regrown s1
                have t2 := cell_regrown s2
                have t3 := cell_regrown s3
                have t4 := cell_regrown s4
                have t5 := cell_regrown s5
                have t6 := cell_regrown s6
                have t7 := cell_regrown s7
                have hlen : decide (((elems m).length : Int) ≤ (xs.length : Int)) = true := by
                  have := elems_of xs HX.out
                  rw [← EO.out] at this
                  exact decide_eq_true (by omega)
                have hlen2 : decide ((elems m).length ≤ xs.length) = true := by
                  have := elems_of xs HX.out
                  rw [← EO.out] at this
                  exact decide_eq_true this
                have CF : ∀ w, Below w8.heap.size w8 w → Calls Tryd.prog 24 #[.slice aA (elems m).length cA] w fun e w' => e = .returned (ag x0 x1 x2 x3) ∧ Below w.heap.size w w' := fun w f => by
                  have h4 : mv m = ag x0 x1 x2 x3 := by rw [EM.out]; rfl
                  have := of_any aA (elems m) cA w HB.out (RA.out.below f (Nat.le_refl _))
                  rw [of_elems m HM.out, h4] at this
                  exact this
                have CC := fun w => count4 EM.out HM.out w
                have qb : ∀ w, (Op.equalIn 10000 24 (ag x0 x1 x2 x3) (ag x0 x1 x2 x3)).run Tryd.prog w = .ok true w := fun w => by
                  have := eq4_run x0 x1 x2 x3 x0 x1 x2 x3 w
                  simpa using this
                have GB : Hid (∀ d os, Below w8.heap.size w8 (grow (redrawn wr d) os)) := fun d os => PF.out.trans ((below_regrown wr d os).mono PF.out.size)
                have cF : ∀ d os, Calls Tryd.prog 24 #[.slice aA (elems m).length cA] (grow (redrawn wr d) os) fun e w'' => e = .returned (ag x0 x1 x2 x3) ∧ ∃ p : Regrown, w'' = grow (redrawn wr p.d) p.os := fun d os => Calls.regrown_of (CF _ (GB.out d os))
                have cC : ∀ d os, Calls Tryd.prog 21 #[ag x0 x1 x2 x3] (grow (redrawn wr d) os) fun e w'' => e = .returned (.int .i64 ((elems m).length : Int)) ∧ ∃ p : Regrown, w'' = grow (redrawn wr p.d) p.os := fun d os => Calls.regrown_of (CC _)
                have cA' : ∀ d os, Calls Tryd.prog 23 #[] (grow (redrawn wr d) os) fun e w'' => e = .returned (.bool true) ∧ ∃ p : Regrown, w'' = grow (redrawn wr p.d) p.os := fun d os => Calls.regrown_of (awake_any _ (TW.out _ (GB.out d os)).1 (TW.out _ (GB.out d os)).2)
                go_wp2
                refine wp_region_quiet_below (by kernel_rfl) (by kernel_rfl) ?_
                repeat (quiet_step (first | (go_at_call 24; exact cF _ _) | (go_at_call 21; exact cC _ _) | (go_at_call 23; exact cA' _ _)))
                refine wpQuiet_nil ?_
                intro _ hw'
                obtain ⟨⟨dq, osq⟩, hw''⟩ := hw'
                subst hw''
                go_wp2
                go_ret
                exact ⟨rfl, F8.out.trans ((GB.out dq osq).mono F8.out.size)⟩

end Go.Proofs.YtklakdhghmhapaaDoor
