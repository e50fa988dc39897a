/- Mask.All. -/
import Derived.Test.YtmogjhljmljpfaaDoorInt9
namespace Go.Proofs.YtmogjhljmljpfaaDoor
set_option maxRecDepth 20000
open Go.RowKit

/-- The bits of one number, rising; those of the first k numbers. -/
def bl64 (x : Nat) : List Nat := (List.range 64).filter x.testBit
def upTo (m : List Nat) (k : Nat) : List Nat := (List.range (64 * k)).filter (inM m)
theorem upTo_all (m : List Nat) : upTo m 4 = elems m := rfl
theorem upTo_succ (m : List Nat) (k : Nat) : upTo m (k + 1) = upTo m k ++ (bl64 (m.getD k 0)).map (64 * k + ·) := by
  unfold upTo bl64
  rw [show 64 * (k + 1) = 64 * k + 64 by omega, List.range_add, List.filter_append, List.filter_map]
  congr 2
  apply List.filter_congr
  intro j hj
  have hj' : j < 64 := by simpa using hj
  simp only [Function.comp, inM]
  rw [show (64 * k + j) / 64 = k by omega, show (64 * k + j) % 64 = j by omega]
theorem bl64_zero : bl64 0 = [] := by decide +kernel
theorem and_pred (x : Nat) (h0 : x ≠ 0) (hx : x < 18446744073709551616) (j : Nat) : (x &&& (x - 1)).testBit j = (x.testBit j && !decide (j = Lib.ctz 64 x)) := by
  obtain ⟨q, hq, hk⟩ := Lib.ctzFrom_spec 64 x (by omega) hx
  have e : Lib.ctz 64 x = Lib.ctzFrom 64 x := by simp [Lib.ctz, h0]
  rw [e]
  generalize Lib.ctzFrom 64 x = c at *
  have hp : 0 < 2 ^ c := Nat.two_pow_pos c
  have e1 : x - 1 = 2 ^ c * (2 * q) + (2 ^ c - 1) := by rw [hq, Nat.mul_add]; omega
  have e2 : x = 2 ^ c * (2 * q + 1) + 0 := by omega
  rw [Nat.testBit_and, e1, Nat.testBit_two_pow_mul_add _ (by omega), Nat.testBit_two_pow_sub_one]
  by_cases h : j < c
  · have : x.testBit j = false := by
      rw [e2, Nat.testBit_two_pow_mul_add _ hp, if_pos h]; simp
    rw [this]; simp
  · rw [if_neg h]
    have hxj : x.testBit j = (2 * q + 1).testBit (j - c) := by
      conv => lhs; rw [e2]
      rw [Nat.testBit_two_pow_mul_add _ hp, if_neg h]
    rw [hxj]
    by_cases hjc : j = c
    · subst hjc; simp [Nat.testBit_zero]
    · obtain ⟨d, hd⟩ : ∃ d, j - c = d + 1 := ⟨j - c - 1, by omega⟩
      rw [hd, Nat.testBit_succ, Nat.testBit_succ]
      rw [show (2 * q + 1) / 2 = q by omega, show 2 * q / 2 = q by omega]
      simp [hjc]
theorem filter_pick (p q : Nat → Bool) : ∀ (n c : Nat), c < n → p c = true → (∀ j, j < c → p j = false) → (∀ j, q j = (p j && !decide (j = c))) → (List.range n).filter p = c :: (List.range n).filter q := by
  intro n c hc hp hl hq
  obtain ⟨d, rfl⟩ : ∃ d, n = c + (1 + d) := ⟨n - c - 1, by omega⟩
  have r : List.range (c + (1 + d)) = List.range c ++ (c :: (List.range d).map (c + 1 + ·)) := by
    rw [List.range_add, List.range_add]
    simp [Function.comp_def, Nat.add_assoc]
  rw [r, List.filter_append, List.filter_append]
  have a1 : (List.range c).filter p = [] := by
    rw [List.filter_eq_nil_iff]; intro j hj; simp [hl j (by simpa using hj)]
  have a2 : (List.range c).filter q = [] := by
    rw [List.filter_eq_nil_iff]; intro j hj; simp [hq, hl j (by simpa using hj)]
  have b2 : q c = false := by simp [hq]
  have b3 : ((List.range d).map (c + 1 + ·)).filter p = ((List.range d).map (c + 1 + ·)).filter q := by
    apply List.filter_congr
    intro j hj
    obtain ⟨i, _, rfl⟩ := List.mem_map.1 hj
    have : ¬ c + 1 + i = c := by omega
    simp [hq, this]
  rw [a1, a2, List.filter_cons, List.filter_cons, b3, hp, b2]
  simp
theorem bl64_step (x : Nat) (h0 : x ≠ 0) (hx : x < 18446744073709551616) : bl64 x = Lib.ctz 64 x :: bl64 (x &&& (x - 1)) := by
  obtain ⟨h1, h2, h3⟩ := ctz_spec x h0 hx
  exact filter_pick _ _ 64 _ h1 h2 h3 (and_pred x h0 hx)

theorem u8s_ints_snoc (xs : List Nat) (x : Nat) : u8s (ints xs) ++ [.int .u8 (x : Int)] = u8s (ints (xs ++ [x])) := by simp [u8s, ints]
theorem cnt_le (m : List Nat) : cnt m ≤ 256 := by have := popTo_le m 4; unfold cnt; omega

theorem upTo_len (m : List Nat) (k : Nat) : (upTo m k).length ≤ 64 * k := by
  have := List.length_filter_le (inM m) (List.range (64 * k))
  simpa [upTo] using this

set_option maxHeartbeats 4000000 in
theorem all_any (m : List Nat) (hm : Ok m) (w : World) (hT : Tab w) (hw : 1 < w.heap.size) :
    Calls Tryd.prog 36 #[mv m] w fun e w' => ∃ v, e = .returned v ∧ w'.ownsRow w.heap.size 5 1 v (elems m).length (u8s (ints (elems m))) ∧ Below w.heap.size w w' := by
  have HM := hide hm
  have CC := fun w => count_any m hm w
  have hcn := cnt_le m
  have HU := hide (upTo_all m)
  have HT := hide hT
  generalize elems m = ans at *
  generalize cnt m = n at *
  obtain ⟨x0, x1, x2, x3, ex⟩ := list4 m hm.len
  have EX := hide ex
  have FM := hide (Below.alloc (Below.refl w.heap.size w) (Nat.le_refl _) (.cells #[.int .u64 x0, .int .u64 x1, .int .u64 x2, .int .u64 x3] 48 (0, 0)))
  have BX0 := hide (Blk.new w 48 [.int .u64 x0, .int .u64 x1, .int .u64 x2, .int .u64 x3] #[.int .u64 x0, .int .u64 x1, .int .u64 x2, .int .u64 x3] rfl)
  have goal4 : (mv m) = .agg #[.int .u64 (x0 : Int), .int .u64 (x1 : Int), .int .u64 (x2 : Int), .int .u64 (x3 : Int)] := by rw [ex]; rfl
  rw [goal4] at CC ⊢
  clear goal4 ex hm hT
  go_enter Tryd.func36, Tryd.ntmps36
  go_wp2_with (go_at_call 44; refine (CC _).mono ?_; rintro e w5 ⟨rfl, f5⟩; have F5 := fstep FM f5; have BX := BX0.out.below f5 BX0.out.lt; obtain ⟨w6, r6, b6, f6, s6⟩ := make_u8 w5 .i64 .i64 0 (n : Int) 0 n rfl rfl (Nat.zero_le _) (by omega); have F6 := fstep F5 f6; have B6 := hide b6; obtain ⟨c0, c1, c2, c3⟩ := (BX.below f6 BX.lt).cells4; clear f5 BX f6 s6 b6)
  have O6 : Hid (w6.ownsRow w.heap.size 5 1 (.slice (some ⟨w5.heap.size, 0, none⟩) 0 n) 0 (u8s (ints (upTo m 0)))) := by
    have := blk_owns (base := w.heap.size) (n := 0) B6.out F5.out.size (Nat.zero_le _) (by simp; unfold maxLen; omega)
    have e : u8s (ints (upTo m 0)) = [] := rfl
    rw [e]
    unfold Hid
    simpa using this
  have hu0 : (upTo m 0).length = 0 := rfl
  clear c0 c1 c2 c3 r6 B6 CC
  go_loopw [10, 3] (fun v u wr => ∃ k : Nat, v = .int .i64 k ∧ k ≤ 4 ∧ wr.ownsRow w.heap.size 5 1 u (upTo m k).length (u8s (ints (upTo m k))) ∧ Below w.heap.size w wr) (fun v _ _ => 4 - (intOf v).toNat)
  case atStart => exact ⟨0, rfl, by omega, O6.out, F6.out⟩
  case round =>
    obtain ⟨k, rfl, hk, ho, hf⟩ := hrel
    have HO := hide ho
    have HF := hide hf
    clear ho hf
    by_cases h1 : k < 4
    · have hki : (k : Int) < 4 := by omega
      have hi : ∀ w, (Instr.index 48 (.agg #[.int .u64 (x0 : Int), .int .u64 (x1 : Int), .int .u64 (x2 : Int), .int .u64 (x3 : Int)]) (.int .i64 (k : Int))).run Tryd.prog w = .ok (.int .u64 ((m.getD k 0 : Nat) : Int)) w := by
        rw [EX.out]; exact index_at x0 x1 x2 x3 k h1
      have HX := hide (HM.out.lt k)
      have HS := hide (upTo_succ m k)
      have HL := hide (upTo_len m (k + 1))
      have HO2 := HO
      generalize m.getD k 0 = x at *
      obtain ⟨tgt, htg⟩ : ∃ t, t = upTo m (k + 1) := ⟨_, rfl⟩
      have HTG := hide htg.symm
      rw [← htg] at HS HL
      clear htg
      go_wp2
      go_loopw [5, 3] (fun v u wr => ∃ (r : Nat) (acc : List Nat), v = .int .u64 r ∧ r < 18446744073709551616 ∧ acc ++ (bl64 r).map (64 * k + ·) = tgt ∧ wr.ownsRow w.heap.size 5 1 u acc.length (u8s (ints acc)) ∧ Below w.heap.size w wr) (fun v _ _ => (bl64 (intOf v).toNat).length)
      case atStart => exact ⟨x, upTo m k, rfl, HX.out, HS.out.symm, HO.out, HF.out⟩
      case round =>
        obtain ⟨r, acc, rfl, hr, hacc, ho, hf⟩ := hrel
        have RO := hide ho
        have RF := hide hf
        have RA := hide hacc
        have HR := hide hr
        clear ho hf hacc
        by_cases h0 : r = 0
        · subst h0
          have hb : ((((0 : Nat) : Int)) != 0) = false := rfl
          have ET : Hid (acc = tgt) := by
            have := RA.out
            rw [bl64_zero] at this
            unfold Hid
            simpa using this
          clear hr
          go_wp2
          go_roundw
          case measure => simp only [intOf]; omega
          case rel => exact ⟨k + 1, by go_num, by omega, by rw [HTG.out, ← ET.out]; exact RO.out, RF.out⟩
        · have hb : ((r : Int) != 0) = true := by simp; omega
          have ST := hide (bl64_step r h0 hr)
          have hc := (ctz_spec r h0 hr).1
          have TZ := hide (fun w hT => tz64_any r hr h0 w hT)
          have T1 := hide (HT.out.below RF.out hw)
          have hle : acc.length ≤ 256 := by
            have h2 := HL.out
            rw [← RA.out] at h2
            simp only [List.length_append] at h2
            omega
          have hsub : IntKind.u64.wrap ((r : Int) - 1) = ((r - 1 : Nat) : Int) := by rw [IntKind.wrap_u64]; omega
          have hand : bits .and .u64 (r : Int) ((r - 1 : Nat) : Int) = ((r &&& (r - 1) : Nat) : Int) := bits_and_u64_nat _ _ hr (by omega)
          have hr' : r &&& (r - 1) < 18446744073709551616 := Nat.lt_of_le_of_lt Nat.and_le_left hr
          have HR' := hide hr'
          generalize Lib.ctz 64 r = c at *
          obtain ⟨v', w', r1, o', g', b', _⟩ := append1_u8 wr w.heap.size u3 acc.length (u8s (ints acc)) ((k : Int) * 64 + (c : Int)) RO.out (by omega) RF.out.size
          have e1 : (k : Int) * 64 + (c : Int) = ((64 * k + c : Nat) : Int) := by omega
          have O1 : Hid (w'.ownsRow w.heap.size 5 1 v' (acc ++ [64 * k + c]).length (u8s (ints (acc ++ [64 * k + c])))) := by
            rw [← u8s_ints_snoc, ← e1, List.length_append]
            exact o'
          have F1 : Hid (Below w.heap.size w w') := RF.out.grown g' RF.out.size (fun j hj => (RO.out.lt j hj).1)
          have hcv : IntKind.u8.wrap ((k : Int) * 64 + (c : Int)) = (k : Int) * 64 + (c : Int) := by rw [IntKind.wrap_u8]; omega
          clear o' g' b' e1 h0 hr hr'
          go_wp2_with (first
            | (go_at_call 45; refine (TZ.out _ T1.out).mono ?_; rintro e w7 ⟨rfl, rfl⟩)
            | (at_builtin; refine wpList_append_run rfl _ _ _ _ rfl _ _ _ _ rfl rfl r1 ?_))
          go_roundw
          case measure =>
            simp only [intOf, Int.toNat_natCast]
            rw [ST.out]
            simp
          case rel =>
            refine ⟨r &&& (r - 1), acc ++ [64 * k + c], rfl, HR'.out, ?_, O1.out, F1.out⟩
            rw [← RA.out, ST.out]
            simp
    · obtain rfl : k = 4 := by omega
      go_wp2
      go_ret
      rw [HU.out] at HO
      exact ⟨_, rfl, HO.out, HF.out⟩

end Go.Proofs.YtmogjhljmljpfaaDoor
