/- MaskSteps. -/
import Derived.Test.YtklakdhghmhapaaDoorFour
namespace Go.Proofs.YtklakdhghmhapaaDoor
open Go.RowKit
set_option maxRecDepth 20000

def sLen : Value → Nat
  | .slice _ n _ => n
  | _ => 0

theorem owns_slice {w : World} {base : Nat} {e : TypeId} {v : Value} {n : Nat} {xs : List Value} (h : w.ownsRow base e 1 v n xs) : ∃ a c, v = .slice a n c := by
  rcases h.2 with ⟨h1, h2⟩ | ⟨g, cap, cur, h1, _⟩
  · exact ⟨none, 0, by rw [h1, h2]⟩
  · exact ⟨_, _, h1⟩
theorem take_succ_getD (xs : List Nat) (j : Nat) (h : j < xs.length) : xs.take (j + 1) = xs.take j ++ [xs.getD j 0] := by
  rw [List.take_succ_eq_append_getElem h]
  simp [h]
theorem drop_getD (xs : List Nat) (j : Nat) (h : j < xs.length) : xs.drop j = xs.getD j 0 :: xs.drop (j + 1) := by
  rw [List.drop_eq_getElem_cons h]
  simp [h]

set_option maxHeartbeats 8000000 in
theorem steps_any {m : List Nat} {x0 x1 x2 x3 : Nat} (em : m = [x0, x1, x2, x3]) (hm : Ok m) (w : World) (hT : Tab w) (hw : 0 < w.heap.size) :
    Calls Tryd.prog 5 #[ag x0 x1 x2 x3] w fun e w' => e = .returned (.bool true) ∧ Below w.heap.size w w' := by
  have HT := hide hT
  have HM := hide hm
  have EM := hide em
  have hel := elems_len m
  have HB := hide (elems_bytes m)
  have B0 := hide ((Blk.new (w.alloc (.cells (ag4 x0 x1 x2 x3).toArray 23 (0, 0))) 24 (ag4 x0 x1 x2 x3) #[.int .u64 (x0 : Int), .int .u64 (x1 : Int), .int .u64 (x2 : Int), .int .u64 (x3 : Int)] rfl).to (show _ = w.heap.size + 1 by simp))
  have F0 := hide (Below.alloc (Below.alloc (Below.refl w.heap.size w) (Nat.le_refl _) (.cells (ag4 x0 x1 x2 x3).toArray 23 (0, 0))) (by simp) (.cells #[.int .u64 (x0 : Int), .int .u64 (x1 : Int), .int .u64 (x2 : Int), .int .u64 (x3 : Int)] 24 (0, 0)))
  have CN : ∀ w, Tab w → 0 < w.heap.size → Calls Tryd.prog 13 #[ag x0 x1 x2 x3, .int .i64 (-5)] w fun e w' => e = .returned (.int .i64 (stepUp m 0)) ∧ Below w.heap.size w w' := fun w hT hw => by
    rw [← nxt_start m (-5) (by decide)]; exact next4 em hm (-5) (by decide) w hT hw
  clear hT hm em
  go_enter Tryd.func5, Tryd.ntmps5
  go_wp2_with (go_at_call 13; refine (CN _ (HT.out.below F0.out hw) (Nat.lt_of_lt_of_le hw F0.out.size)).mono ?_; rintro e w5 ⟨rfl, f5⟩; have F5 := fstep F0 f5; have B5 := hide (B0.out.below f5 B0.out.lt); clear f5)
  clear CN
  go_loopw [6, 4] (fun v u wr => ∃ (j : Nat) (a : Option Addr) (c : Nat), v = .int .i64 (stepUp m j) ∧ j ≤ (elems m).length ∧ u = .slice a j c ∧ wr.ownsRow (w.heap.size + 2) 5 1 (.slice a j c) j (u8s (ints ((elems m).take j))) ∧ Blk wr (w.heap.size + 1) 24 (ag4 x0 x1 x2 x3) ∧ Below w.heap.size w wr) (fun _ u _ => 300 - sLen u)
  case atStart => exact ⟨0, none, 0, rfl, by omega, rfl, World.ownsRow_nil _ _ _ _, B5.out, F5.out⟩
  case round =>
    obtain ⟨j, a, c, rfl, hj, rfl, ho, hb, hf⟩ := hrel
    have RO := hide ho
    have RB := hide hb
    have RF := hide hf
    clear ho hb hf
    obtain ⟨c0, c1, c2, c3⟩ := RB.out.cells4
    by_cases h1 : j < (elems m).length
    · obtain ⟨b, hb⟩ : ∃ b, b = (elems m).getD j 0 := ⟨_, rfl⟩
      have hsu : stepUp m j = (b : Int) := by unfold stepUp; rw [if_pos h1, hb]
      have hb6 : b < 256 := by rw [hb]; exact (elems_at m j h1).1
      have hin : inM m b = true := by rw [hb]; exact (elems_at m j h1).2
      have CR : ∀ w, Calls Tryd.prog 17 #[ag x0 x1 x2 x3, .int .i64 b] w fun e w' => e = .returned (.int .i64 (j : Int)) ∧ Below w.heap.size w w' := fun w => by
        have := rank4 EM.out HM.out (b : Int) (by omega) w
        rwa [hb, rank_at m HM.out j h1, ← hb] at this
      have CH : ∀ w, Calls Tryd.prog 9 #[ag x0 x1 x2 x3, .int .u8 b] w fun e w' => e = .returned (.bool true) ∧ Below w.heap.size w w' := fun w => by
        have := has4 EM.out HM.out b hb6 w
        rwa [hin] at this
      have CN : ∀ w, Tab w → 0 < w.heap.size → Calls Tryd.prog 13 #[ag x0 x1 x2 x3, .int .i64 ((b : Int) + 1)] w fun e w' => e = .returned (.int .i64 (stepUp m (j + 1))) ∧ Below w.heap.size w w' := fun w hT hw => by
        rw [← nxt_step m j h1, ← hb]; exact next4 EM.out HM.out _ (by omega) w hT hw
      have ET : Hid (u8s (ints ((elems m).take j)) ++ [.int .u8 (b : Int)] = u8s (ints ((elems m).take (j + 1)))) := by
        rw [take_succ_getD _ _ h1, ← hb]; exact u8s_ints_snoc _ _
      have h300 : (j : Int) < 300 := by omega
      have hcv : IntKind.u8.wrap (b : Int) = (b : Int) := by rw [IntKind.wrap_u8]; omega
      rw [hsu]
      clear hsu hb hin
      go_wp2_with (first
        | (go_at_call 17; refine (CR _).mono ?_; rintro e w6 ⟨rfl, f6⟩; have F6 := fstep RF f6; have B6 := hide (RB.out.below f6 RB.out.lt); have O6 := hide (RO.out.below f6 (Nat.le_refl _)); obtain ⟨c60, c61, c62, c63⟩ := B6.out.cells4; clear f6)
        | (go_at_call 9; refine (CH _).mono ?_; rintro e w7 ⟨rfl, f7⟩; have F7 := fstep F6 f7; have B7 := hide (B6.out.below f7 B6.out.lt); have O7 := hide (O6.out.below f7 (Nat.le_refl _)); clear f7; obtain ⟨v8, w8, r8, o8, g8, b8, _⟩ := append1_u8 w7 (w.heap.size + 2) _ j _ (b : Int) O7.out (by omega) B7.out.lt; rw [ET.out] at o8; obtain ⟨a8, cp8, rfl⟩ := owns_slice o8; have O8 := hide o8; have K8 := (Below.refl (w.heap.size + 2) w7).grown g8 B7.out.lt (fun k hk => (O7.out.lt k hk).1); have F8 := hide (F7.out.trans (K8.mono (by omega))); have B8 := hide (B7.out.below K8 (by omega)); obtain ⟨c80, c81, c82, c83⟩ := B8.out.cells4; clear o8 b8 g8 K8)
        | (at_builtin; refine wpList_append_run rfl _ _ _ _ rfl _ _ _ _ rfl rfl r8 ?_)
        | (go_at_call 13; refine (CN _ (HT.out.below F8.out hw) (Nat.lt_of_lt_of_le hw F8.out.size)).mono ?_; rintro e w9 ⟨rfl, f9⟩; have F9 := fstep F8 f9; have B9 := hide (B8.out.below f9 B8.out.lt); have O9 := hide (O8.out.below f9 (Nat.le_refl _)); clear f9))
      go_roundw
      case measure => simp only [sLen]; omega
      case rel => exact ⟨j + 1, a8, cp8, rfl, by omega, rfl, O9.out, B9.out, F9.out⟩
    · obtain rfl : j = (elems m).length := by omega
      have hsu : stepUp m (elems m).length = -1 := by unfold stepUp; rw [if_neg h1]
      have CP : ∀ w, Calls Tryd.prog 15 #[ag x0 x1 x2 x3, .int .i64 300] w fun e w' => e = .returned (.int .i64 (stepDown m (elems m).length)) ∧ Below w.heap.size w w' := fun w => by
        rw [← prv_start m 300 (by decide)]; exact prev4 EM.out HM.out 300 (by decide) w
      rw [hsu]
      rw [List.take_length] at RO
      obtain ⟨aU, cU, eU, rU⟩ := owns_ints RO.out HB.out
      cases eU
      have RU := hide rU
      clear hsu rU
      go_wp2_with (go_at_call 15; refine (CP _).mono ?_; rintro e w6 ⟨rfl, f6⟩; have K6 := hide f6; clear f6)
      clear CP
      generalize wr = W1 at *
      go_loopw [7, 5] (fun v u wx => ∃ (j : Nat) (a2 : Option Addr) (c2 : Nat), v = .int .i64 (stepDown m j) ∧ j ≤ (elems m).length ∧ u = .slice a2 ((elems m).length - j) c2 ∧ wx.ownsRow W1.heap.size 5 1 (.slice a2 ((elems m).length - j) c2) ((elems m).length - j) (u8s (ints ((elems m).drop j))) ∧ Below W1.heap.size W1 wx) (fun _ u _ => 300 - sLen u)
      case atStart => exact ⟨(elems m).length, none, 0, rfl, by omega, by simp, by simp [ints, u8s]; exact World.ownsRow_nil _ _ _ _, K6.out⟩
      case round =>
        obtain ⟨j, a2, c2', rfl, hj2, rfl, ho2, hf2⟩ := hrel
        have SO := hide ho2
        have SF := hide hf2
        clear ho2 hf2
        cases j with
        | succ j =>
          have hj3 : j < (elems m).length := by omega
          obtain ⟨q, hq⟩ : ∃ q, q = (elems m).length - (j + 1) := ⟨_, rfl⟩
          rw [← hq] at SO ⊢
          obtain ⟨b, hb⟩ : ∃ b, b = (elems m).getD j 0 := ⟨_, rfl⟩
          have hsd : stepDown m (j + 1) = (b : Int) := by unfold stepDown; rw [if_pos (by omega), hb]; rfl
          have hb6 : b < 256 := by rw [hb]; exact (elems_at m j hj3).1
          have CP : ∀ w, Calls Tryd.prog 15 #[ag x0 x1 x2 x3, .int .i64 ((b : Int) - 1)] w fun e w' => e = .returned (.int .i64 (stepDown m j)) ∧ Below w.heap.size w w' := fun w => by
            rw [← prv_step m j hj3, ← hb]; exact prev4 EM.out HM.out _ (by omega) w
          obtain ⟨a', c', e', r'⟩ := owns_ints SO.out (fun x hx => HB.out x (List.mem_of_mem_drop hx))
          simp only [Value.slice.injEq] at e'
          obtain ⟨rfl, hx1, rfl⟩ := e'
          clear hx1
          have hA := Below.alloc (Below.refl wr.heap.size wr) (Nat.le_refl _) (.cells #[.int .u8 (b : Int)] 5)
          have hs := (r'.below hA (Nat.le_refl _)).src (P := Tryd.prog) Tryd.underlying28 c2'
          rw [ints_len, List.length_drop, ← hq] at hs
          have hown : (wr.alloc (.cells #[.int .u8 (b : Int)] 5)).ownsRow W1.heap.size 5 1 (.slice (some ⟨wr.heap.size, 0, none⟩) 1 1) 1 [.int .u8 (b : Int)] := blk_owns (cs := [.int .u8 (b : Int)]) (heap_alloc_new wr _) SF.out.size (Nat.le_refl 1) (show 1 ≤ maxLen by decide)
          obtain ⟨v8, w8, r8, o8, g8, b8, hx2⟩ := append_u8 (wr.alloc (.cells #[.int .u8 (b : Int)] 5)) 28 28 W1.heap.size _ 1 _ hown _ _ _ hs (by omega) (Nat.le_trans SF.out.size (by simp))
          have en : 1 + q = (elems m).length - j := by omega
          have el : [Value.int .u8 (b : Int)] ++ u8s (ints ((elems m).drop (j + 1))) = u8s (ints ((elems m).drop j)) := by
            rw [drop_getD _ _ hj3, ← hb]; rfl
          rw [en, el] at o8
          obtain ⟨a8, cp8, rfl⟩ := owns_slice o8
          have O8 := hide o8
          have F8 : Hid (Below W1.heap.size W1 w8) := (Below.alloc SF.out SF.out.size _).grown g8 (Nat.le_trans SF.out.size (by simp)) (fun k hk => by
            have : wr.heap.size = k := by simpa [Value.ownBlock] using hk
            rw [← this]; exact SF.out.size)
          obtain ⟨c80, c81, c82, c83⟩ := (RB.out.below F8.out RB.out.lt).cells4
          have h300 : (q : Int) < 300 := by omega
          have hcv : IntKind.u8.wrap (b : Int) = (b : Int) := by rw [IntKind.wrap_u8]; omega
          rw [hsd]
          clear hsd hb hA hs hown o8 g8 b8 hx2 en el r'
          have HQ := hide hq.symm
          have HJ := hide hj3
          clear hq hj3 hj2
          go_wp2_with (first
            | (at_builtin; refine wpList_append_run rfl _ _ _ _ rfl _ _ _ _ rfl rfl r8 ?_)
            | (go_at_call 15; refine (CP _).mono ?_; rintro e w9 ⟨rfl, f9⟩; have F9 := hide (F8.out.trans (f9.mono F8.out.size)); have O9 := hide (O8.out.below f9 (Nat.le_refl _)); clear f9))
          go_roundw
          case measure =>
            have h1 := HQ.out
            have h2 := HJ.out
            simp only [sLen]
            omega
          case rel => exact ⟨j, a8, cp8, rfl, Nat.le_of_lt HJ.out, rfl, O9.out, F9.out⟩
        | zero =>
          have hsd : stepDown m 0 = -1 := rfl
          rw [List.drop_zero, Nat.sub_zero] at SO
          obtain ⟨a', c', e', r'⟩ := owns_ints SO.out HB.out
          simp only [Value.slice.injEq, true_and] at e'
          obtain ⟨rfl, rfl⟩ := e'
          have RD := hide r'
          have RU2 := hide (RU.out.below SF.out (Nat.le_refl _))
          have RB2 := hide (RB.out.below SF.out RB.out.lt)
          have RF2 := hide (RF.out.trans (SF.out.mono RF.out.size))
          obtain ⟨d0, d1, d2, d3⟩ := RB2.out.cells4
          have CA := fun w hT hw => all4 EM.out HM.out w hT hw
          have CC := fun w => count4 EM.out HM.out w
          have CR : ∀ w, Calls Tryd.prog 17 #[ag x0 x1 x2 x3, .int .i64 999] w fun e w' => e = .returned (.int .i64 ((elems m).length : Int)) ∧ Below w.heap.size w w' := fun w => by
            have := rank4 EM.out HM.out 999 (by decide) w
            rwa [bl_all m HM.out (max 999 0) (by decide), cnt_len m HM.out] at this
          rw [hsd, Nat.sub_zero]
          clear hsd r'
          go_wp2_with (first
            | (go_at_call 8; refine (CA _ (HT.out.below RF2.out hw) (Nat.lt_of_lt_of_le hw RF2.out.size)).mono ?_; rintro e w10 ⟨v10, rfl, o10, f10⟩; obtain ⟨aA, cA, rfl, rA⟩ := owns_ints o10 HB.out; have RA := hide rA; have RU10 := hide (RU2.out.below f10 (Nat.le_refl _)); have RD10 := hide (RD.out.below f10 (Nat.le_refl _)); have B10 := hide (RB2.out.below f10 RB2.out.lt); have F10 := fstep RF2 f10; clear o10 f10 rA)
            | (go_at_call 19; refine (same4 _ _ _ _ _ _ RU10.out RA.out).mono ?_; rintro e w11 ⟨rfl, f11⟩; have RU11 := hide (RU10.out.below f11 (Nat.le_refl _)); have RD11 := hide (RD10.out.below f11 (Nat.le_refl _)); have B11 := hide (B10.out.below f11 B10.out.lt); have F11 := fstep F10 f11; clear f11 RU10 RA))
          go_wp2_with (first
            | (go_at_call 19; refine (same4 _ _ _ _ _ _ RD11.out RU11.out).mono ?_; rintro e w12 ⟨rfl, f12⟩; have B12 := hide (B11.out.below f12 B11.out.lt); obtain ⟨e0, e1, e2, e3⟩ := B12.out.cells4; have F12 := fstep F11 f12; clear f12)
            | (go_at_call 21; refine (CC _).mono ?_; rintro e w13 ⟨rfl, f13⟩; have B13 := hide (B12.out.below f13 B12.out.lt); obtain ⟨g0, g1, g2, g3⟩ := B13.out.cells4; have F13 := fstep F12 f13; clear f13)
            | (go_at_call 17; refine (CR _).mono ?_; rintro e w14 ⟨rfl, f14⟩; have F14 := fstep F13 f14; clear f14)
            | (go_at_call 23; refine (awake_any _ (HT.out.below F14.out hw) (Nat.lt_of_lt_of_le hw F14.out.size)).mono ?_; rintro e w15 ⟨rfl, f15⟩; have F15 := fstep F14 f15; clear f15))
          go_ret
          exact ⟨rfl, F15.out⟩

end Go.Proofs.YtklakdhghmhapaaDoor
