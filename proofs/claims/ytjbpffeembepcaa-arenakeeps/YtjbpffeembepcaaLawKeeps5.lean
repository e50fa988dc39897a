/- ArenaKeeps. -/
import Derived.Test.YtjbpffeembepcaaLow5
namespace Go.Proofs.Ytjbpffeembepcaa
open Go.RowKit
set_option linter.unusedVariables false

theorem i64_and1 (n : Int) : bits .and .i64 n 1 = n % 2 := by
  have h1 : (BitVec.ofInt 64 1).toNat = 2 ^ 1 - 1 := by decide
  have key : (BitVec.ofInt 64 n &&& BitVec.ofInt 64 1).toNat = (n % ((2 ^ 64 : Nat) : Int)).toNat % 2 ^ 1 := by
    rw [BitVec.toNat_and, BitVec.toNat_ofInt, h1, Nat.and_two_pow_sub_one_eq_mod]
  show IntKind.i64.wrap ((BitVec.ofInt 64 n &&& BitVec.ofInt 64 1).toNat : Nat) = n % 2
  rw [key, IntKind.wrap_i64]
  omega
/-- Is cell j given back? -/
def bitb (give : Int) (j : Nat) : Bool := bits BinOp.and IntKind.i64 (give / 2 ^ j) 1 == 1
theorem bitb_zero (give : Int) (j : Nat) : (bits BinOp.and IntKind.i64 (give / 2 ^ j) 1 == 0) = !bitb give j := by
  unfold bitb
  rw [i64_and1]
  generalize give / 2 ^ j = x
  rcases Int.emod_two_eq x with h | h <;> simp [h]
/-- The third word of cell j. -/
def sv (n : Int) (j : Nat) : Int := (n + j) % 18446744073709551616
def wordsK (n : Int) (j : Nat) : List Int := [n, (j : Int), sv n j]
def cellsK (n : Int) (k : Nat) : Cells := (List.range k).map (fun j => some (wordsK n j))
def handK (k : Nat) : List Nat := (List.range k).map (· + 1)
theorem cellsK_length (n : Int) (k : Nat) : (cellsK n k).length = k := by simp [cellsK]
theorem handK_length (k : Nat) : (handK k).length = k := by simp [handK]
theorem cellsK_get (n : Int) (k j : Nat) (h : j < k) : (cellsK n k)[j]? = some (some (wordsK n j)) := by simp [cellsK, h]
theorem cellsK_succ (n : Int) (k : Nat) : ((cellsK n k) ++ [some [n, (k : Int), 0]]).set k (some ([n, (k : Int), 0].set 2 (sv n k))) = cellsK n (k + 1) := by
  rw [List.set_append_right _ _ (by rw [cellsK_length]; omega), cellsK_length]
  simp [cellsK, List.range_succ, wordsK]
theorem handK_succ (k : Nat) : handK k ++ [k + 1] = handK (k + 1) := by simp [handK, List.range_succ]
theorem handK_get (k j : Nat) (h : j < k) : (u32s (handK k))[j]? = some (.int .u32 ((j : Int) + 1)) := by simp [u32s, handK, h]

set_option maxRecDepth 20000 in
set_option maxHeartbeats 3200000 in
theorem keeps_any (many give n : Int) (h0 : -9223372036854775808 ≤ many) (h1 : many ≤ 9223372036854775807) (h2 : -9223372036854775808 ≤ give) (h3 : give ≤ 9223372036854775807) (hn0 : 0 ≤ n) (hn1 : n ≤ 18446744073709551615) (w : World) :
    Calls Try.prog 4 #[.int .i64 many, .int .i64 give, .int .u64 n] w fun e w' => e = .returned (.bool true) ∧ Below w.heap.size w w' := by
  obtain ⟨m, hm, -, L⟩ := low_nat many 31 h0 h1 (by omega) (by omega)
  have HL := hide L
  clear L h0 h1
  go_enter Try.func4, Try.ntmps4
  go_wp2_with fail
  refine (HL.out _).mono ?_
  rintro e w0 ⟨rfl, rfl⟩
  go_wp2_with fail
  refine (new_v _ (m : Int) (by omega) (by omega)).mono ?_
  rintro e w1 ⟨g, rfl, a1, k1⟩
  have A1 := hide a1
  have K1 := hide k1
  clear a1 k1
  go_wp2_with fail
  go_loopw [8, 9] (fun v8 v wr => ∃ (k : Nat) (ah : Option Addr) (ch : Nat), v8 = .slice ah k ch ∧ v = .int .i64 k ∧ k ≤ m ∧ Ar (KB w0.heap.size (.slice ah k ch)) wr g m (cellsK n k) [] ∧ wr.ownsRow w0.heap.size 28 1 (.slice ah k ch) k (u32s (handK k)) ∧ Kp (fun k => k < w0.heap.size) w0 wr) (fun _ v _ => m - (intOf v).toNat)
  case atStart => exact ⟨0, none, 0, rfl, rfl, by omega, A1.out.kb0, World.ownsRow_nil _ _ _ _, K1.out⟩
  case round =>
    obtain ⟨k, ah, ch, rfl, rfl, hk, ha, ho, hkp⟩ := hrel
    have A2 := hide ha
    have O2 := hide ho
    have K2 := hide hkp
    have hsz : w0.heap.size ≤ wr.heap.size := hkp.size
    clear ha ho hkp
    by_cases hkm : k < m
    · have T := take_new_lit A2.out (by rw [cellsK_length]; omega) [n, (k : Int), 0] (by simp)
      simp only [cellsK_length] at T
      have HT := hide T
      have e1 : IntKind.u64.wrap (k : Int) = (k : Int) := by rw [IntKind.wrap_u64]; omega
      have e2 : IntKind.u64.wrap (n + (k : Int)) = sv n k := IntKind.wrap_u64 _
      have e3 : (n + (k : Int)) % 18446744073709551616 = sv n k := rfl
      have e4 : (k : Int) % 18446744073709551616 = (k : Int) := by omega
      clear T
      go_wp2_with fail
      refine HT.out.mono ?_
      rintro e w3 ⟨rfl, h3, k3⟩
      have S := a_set h3 k 2 (sv n k) [n, (k : Int), 0] (by rw [List.getElem?_append_right (by rw [cellsK_length]; omega), cellsK_length]; simp) (by simp)
      rw [cellsK_succ] at S
      have HS := hide S
      have K3 := hide k3
      clear h3 k3 S HT
      go_wp2_with fail
      refine HS.out.mono ?_
      rintro e w4 ⟨rfl, h4, k4⟩
      have k34 := K3.out.trans k4
      have hz4 := Nat.le_trans hsz k34.size
      have o4 := owns_kb O2.out k34
      have hlh := handK_length k
      have o4' : w4.ownsRow w0.heap.size 28 1 (.slice ah k ch) (handK k).length (u32s (handK k)) := by rw [hlh]; exact o4
      obtain ⟨a', cap', w5, r5, o5, g5, hv5⟩ := append_u32 w4 w0.heap.size _ (handK k) ((k : Int) + 1) (k + 1) (by omega) o4' (by omega) hz4
      obtain ⟨h5, k5⟩ := h4.app hz4 o4' g5 hv5 o5
      rw [handK_succ, handK_length (k + 1)] at o5
      rw [hlh] at h5 r5 o5
      have A5 := hide h5
      have O5 := hide o5
      have K5 := hide ((K2.out.trans k34.kb).trans k5)
      clear h4 k4 o4 o4' o5 g5 hv5 h5 k5 k34 HS K3
      go_wp2_with (at_builtin; refine wpList_append_run rfl _ _ _ _ rfl _ _ _ _ rfl rfl r5 ?_)
      go_roundw
      case measure => simp only [intOf]; omega
      case rel => exact ⟨k + 1, a', cap', rfl, by go_num, by omega, A5.out, O5.out, K5.out⟩
    · obtain rfl : k = m := by omega
      clear K1 A1 HL hk hkm
      go_wp2_with fail
      go_loopw [12, 13] (fun v12 v wr => ∃ (i : Nat) (cs : Cells) (back : List Nat), v12 = .int .i64 ((k - back.length : Nat) : Int) ∧ v = .int .i64 i ∧ i ≤ k ∧ cs.length = k ∧ (∀ j, j < k → cs[j]? = some (if decide (j < i) && bitb give j then none else some (wordsK n j))) ∧ Ar (KB w0.heap.size (.slice ah k ch)) wr g k cs back ∧ wr.ownsRow w0.heap.size 28 1 (.slice ah k ch) k (u32s (handK k)) ∧ Kp (fun k => k < w0.heap.size) w0 wr) (fun _ v _ => k - (intOf v).toNat)
      case atStart => exact ⟨0, _, [], rfl, rfl, by omega, cellsK_length n k, fun j hj => by simpa using cellsK_get n k j hj, A2.out, O2.out, K2.out⟩
      case round =>
        obtain ⟨i, cs, back, rfl, rfl, hi, hcs, hun, ha, ho, hkp⟩ := hrel
        have A4 := hide ha
        have O4 := hide ho
        have K4 := hide hkp
        have UN := hide hun
        have hbl := ha.good.blen
        clear ha ho hkp hun
        by_cases hik : i < k
        · have hci : cs[i]? = some (some (wordsK n i)) := by rw [UN.out i hik]; simp
          have HG := hide (give_has A4.out i _ hci)
          obtain ⟨gh, ch', e⟩ := owns_slice O4.out (by omega)
          simp only [Value.slice.injEq] at e
          obtain ⟨rfl, -, rfl⟩ := e
          have hkc : i < k := hik
          by_cases hb : bitb give i = true
          · have hb' : (bits BinOp.and IntKind.i64 (give / 2 ^ i) 1 == 1) = true := hb
            have c4 : wr.cell? ⟨gh, i, none⟩ = some (.int .u32 ((i : Int) + 1)) := (O4.out.cellAt i (by omega)).trans (handK_get k i hik)
            go_wp2_with fail
            refine HG.out.mono ?_
            rintro e w5 ⟨rfl, h5, k5⟩
            have A5 := hide h5
            have O5 := hide (owns_kb O4.out k5)
            have K5 := hide (K4.out.trans k5.kb)
            have c5 : w5.cell? ⟨gh, i, none⟩ = some (.int .u32 ((i : Int) + 1)) := (O5.out.cellAt i (by omega)).trans (handK_get k i hik)
            have GN := give_none A5.out (i + 1) (by omega) (.inr (.inr (by simp [hcs, hik])))
            have e1 : ((i + 1 : Nat) : Int) = (i : Int) + 1 := by omega
            rw [e1] at GN
            have HN := hide GN
            have hbl5 := A5.out.good.blen
            simp only [List.length_append, List.length_singleton, List.length_set] at hbl5
            clear h5 k5 HG GN e1 c4
            go_wp2_with fail
            refine HN.out.mono ?_
            rintro e w6 ⟨rfl, rfl⟩
            go_wp2_with fail
            go_roundw
            case measure => simp only [intOf]; omega
            case rel =>
              refine ⟨i + 1, cs.set i none, back ++ [i + 1], by simp only [List.length_append, List.length_singleton]; first | go_num | (congr 1; omega), by go_num, by omega, by simpa using hcs, fun j hj => ?_, A5.out, O5.out, K5.out⟩
              rw [List.getElem?_set]
              split
              · rename_i e
                subst e
                simp [hcs, hj, hb]
              · rename_i e
                rw [UN.out j hj]
                have : decide (j < i + 1) = decide (j < i) := by simp; omega
                rw [this]
          · have hb' : (bits BinOp.and IntKind.i64 (give / 2 ^ i) 1 == 1) = false := by
              simp only [bitb] at hb
              exact eq_false_of_ne_true hb
            clear HG
            go_wp2_with fail
            go_roundw
            case measure => simp only [intOf]; omega
            case rel =>
              refine ⟨i + 1, cs, back, rfl, by go_num, by omega, hcs, fun j hj => ?_, A4.out, O4.out, K4.out⟩
              rw [UN.out j hj]
              by_cases e : j = i
              · subst e
                simp [hb]
              · have : decide (j < i + 1) = decide (j < i) := by simp; omega
                rw [this]
        · obtain rfl : i = k := by omega
          clear A2 O2 K2 hi hik
          go_wp2_with fail
          obtain ⟨W, hW⟩ : ∃ W, W = wr := ⟨_, rfl⟩
          rw [← hW] at A4 O4 K4
          go_loopw [14] (fun v wr => ∃ (j : Nat), v = .int .i64 j ∧ j ≤ i ∧ wr = W) (fun v _ => i - (intOf v).toNat)
          case atStart => exact ⟨0, rfl, by omega, hW.symm⟩
          case round =>
            obtain ⟨j, rfl, hj, hwr⟩ := hrel
            subst hwr
            clear hW
            by_cases hji : j < i
            · obtain ⟨gh, ch', e⟩ := owns_slice O4.out (by omega)
              simp only [Value.slice.injEq] at e
              obtain ⟨rfl, -, rfl⟩ := e
              have c4 := (O4.out.cellAt j (by omega)).trans (handK_get i j hji)
              have hz := bitb_zero give j
              have hcj := UN.out j hji
              have e1 : IntKind.u64.wrap (j : Int) = (j : Int) := by rw [IntKind.wrap_u64]; omega
              have e2 : IntKind.u64.wrap (n + (j : Int)) = sv n j := IntKind.wrap_u64 _
              have e3 : (n + (j : Int)) % 18446744073709551616 = sv n j := rfl
              have e4 : (j : Int) % 18446744073709551616 = (j : Int) := by omega
              by_cases hb : bitb give j = true
              · rw [hb] at hz hcj
                simp only [hji, decide_true, Bool.and_true, if_true] at hcj
                have e0 : ((j + 1 : Nat) : Int) = (j : Int) + 1 := by omega
                have G1 := a_get_none A4.out (j + 1) (by omega) 1 (.inr (.inr hcj))
                have G2 := a_get_none A4.out (j + 1) (by omega) 2 (.inr (.inr hcj))
                rw [e0] at G1 G2
                have H1 := hide G1
                have H2 := hide G2
                clear G1 G2 e0 hcj hb
                go_wp2_with fail
                refine H1.out.mono ?_
                rintro e w6 ⟨rfl, rfl⟩
                go_wp2_with fail
                refine H2.out.mono ?_
                rintro e w6 ⟨rfl, rfl⟩
                go_wp2_with fail
                go_roundw
                case measure => simp only [intOf]; omega
                case rel => exact ⟨j + 1, by go_num, by omega, by trivial⟩
              · have hb' : bitb give j = false := eq_false_of_ne_true hb
                rw [hb'] at hz hcj
                simp only [Bool.and_false] at hcj
                have H1 := hide (a_get A4.out j 1 _ hcj (by simp [wordsK]))
                have H2 := hide (a_get A4.out j 2 _ hcj (by simp [wordsK]))
                have x1 : wAt (wordsK n j) 1 = (j : Int) := rfl
                have x2 : wAt (wordsK n j) 2 = sv n j := rfl
                rw [x1] at H1
                rw [x2] at H2
                clear x1 x2 hcj hb hb'
                go_wp2_with fail
                refine H1.out.mono ?_
                rintro e w6 ⟨rfl, rfl⟩
                go_wp2_with fail
                refine H2.out.mono ?_
                rintro e w6 ⟨rfl, rfl⟩
                go_wp2_with fail
                go_roundw
                case measure => simp only [intOf]; omega
                case rel => exact ⟨j + 1, by go_num, by omega, by trivial⟩
            · have V := a_live A4.out
              have F := fun w1 (s : Still wr w1) => a_free (A4.out.still s)
              simp only [hcs] at V F
              have HV := hide V
              have HF := hide F
              clear V F UN
              go_wp2_with fail
              refine (take_nil none 0 0).mono ?_
              rintro e w6 ⟨rfl, rfl⟩
              go_wp2_with fail
              refine HV.out.mono ?_
              rintro e w7 ⟨rfl, s7⟩
              have K7 := hide (K4.out.trans (s7.kp _))
              have S7 := hide s7
              clear s7
              go_wp2_with fail
              refine (HF.out _ S7.out).mono ?_
              rintro e w8 ⟨rfl, s8⟩
              have K8 := hide (K7.out.trans (s8.kp _))
              clear s8
              go_wp2_with fail
              refine (give_nil 1).mono ?_
              rintro e w9 ⟨rfl, rfl⟩
              go_wp2_with fail
              refine (live_nil _).mono ?_
              rintro e w9 ⟨rfl, rfl⟩
              go_wp2_with fail
              refine handles_nil.mono ?_
              rintro e w9 ⟨rfl, rfl⟩
              go_wp2_with (go_at_call 8; refine (awake_any _).mono ?_; rintro e w11 ⟨rfl, f11⟩; have F11 := hide f11; clear f11)
              go_ret
              exact ⟨rfl, (K8.out.below (Nat.le_refl _) (fun k hk => hk)).trans (F11.out.mono K8.out.size)⟩
end Go.Proofs.Ytjbpffeembepcaa
