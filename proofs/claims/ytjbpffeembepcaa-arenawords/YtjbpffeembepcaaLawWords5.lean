/- ArenaWords. -/
import Derived.Test.YtjbpffeembepcaaInts5
namespace Go.Proofs.Ytjbpffeembepcaa
open Go.RowKit
set_option linter.unusedVariables false

def prefW (i k : Nat) : List Int := (List.range k).map (fun j => ((100 * i + j : Nat) : Int))
theorem prefW_length (i k : Nat) : (prefW i k).length = k := by simp [prefW]
theorem prefW_succ (i k : Nat) : prefW i k ++ [((100 * i + k : Nat) : Int)] = prefW i (k + 1) := by simp [prefW, List.range_succ]
theorem prefW_at (i k j : Nat) (h : j < k) : wAt (prefW i k) j = ((100 * i + j : Nat) : Int) := by simp [prefW, wAt, h]
def szW (xs : List Int) (i : Nat) : Nat := lowN (wAt xs i) 65
theorem szW_le (xs : List Int) (i : Nat) : szW xs i < 65 := lowN_lt _ 65 (by omega)
def cellsW (xs : List Int) (n : Nat) : Cells := (List.range n).map (fun i => some (prefW i (szW xs i)))
theorem cellsW_length (xs : List Int) (n : Nat) : (cellsW xs n).length = n := by simp [cellsW]
theorem cellsW_succ (xs : List Int) (n : Nat) : cellsW xs n ++ [some (prefW n (szW xs n))] = cellsW xs (n + 1) := by simp [cellsW, List.range_succ]
theorem cellsW_get (xs : List Int) (n i : Nat) (h : i < n) : (cellsW xs n)[i]? = some (some (prefW i (szW xs i))) := by simp [cellsW, h]
/-- The words behind the one that is set. -/
def wordsX (xs : List Int) (q t : Nat) (v : Int) (i : Nat) : List Int := if i = q then (prefW i (szW xs i)).set t v else prefW i (szW xs i)
theorem wordsX_length (xs : List Int) (q t : Nat) (v : Int) (i : Nat) : (wordsX xs q t v i).length = szW xs i := by unfold wordsX; split <;> simp [prefW_length]
theorem wordsX_at (xs : List Int) (q t : Nat) (v : Int) (i k : Nat) (h : k < szW xs i) : wAt (wordsX xs q t v i) k = if i = q ∧ k = t then v else ((100 * i + k : Nat) : Int) := by
  have hl := prefW_length i (szW xs i)
  unfold wordsX
  by_cases h1 : i = q
  · rw [if_pos h1]
    by_cases h2 : k = t
    · subst h2
      rw [if_pos ⟨h1, rfl⟩]
      simp [wAt, hl, h]
    · rw [if_neg (by omega), ← prefW_at i (szW xs i) k h]
      have : t ≠ k := fun e => h2 e.symm
      simp [wAt, List.getElem?_set_ne this]
  · rw [if_neg h1, if_neg (by omega)]
    exact prefW_at i _ k h

def cellsX (xs : List Int) (q t : Nat) (v : Int) (n : Nat) : Cells := (List.range n).map (fun i => some (wordsX xs q t v i))
theorem cellsX_get (xs : List Int) (q t : Nat) (v : Int) (n i : Nat) (h : i < n) : (cellsX xs q t v n)[i]? = some (some (wordsX xs q t v i)) := by simp [cellsX, h]
theorem cellsX_length (xs : List Int) (q t : Nat) (v : Int) (n : Nat) : (cellsX xs q t v n).length = n := by simp [cellsX]
theorem cellsX_set (xs : List Int) (q t : Nat) (v : Int) (n : Nat) : (cellsW xs n).set q (some ((prefW q (szW xs q)).set t v)) = cellsX xs q t v n := by
  apply List.ext_getElem?
  intro i
  rw [List.getElem?_set]
  by_cases hi : i < n
  · rw [cellsX_get _ _ _ _ _ _ hi]
    split
    · rename_i e
      subst e
      simp [cellsW_length, hi, wordsX]
    · rename_i e
      rw [cellsW_get _ _ _ hi]
      unfold wordsX
      rw [if_neg (fun x => e x.symm)]
  · have h1 : (cellsX xs q t v n)[i]? = none := by simp [cellsX]; omega
    rw [h1]
    split
    · simp [cellsW_length]; omega
    · simp [cellsW]; omega
theorem cellsX_out (xs : List Int) (q t : Nat) (v : Int) (n : Nat) (h : szW xs q ≤ t) : cellsW xs n = cellsX xs q t v n := by
  unfold cellsW cellsX
  apply List.map_congr_left
  intro i _
  unfold wordsX
  split
  · rename_i e
    subst e
    rw [List.set_eq_of_length_le (by rw [prefW_length]; exact h)]
  · rfl

set_option maxRecDepth 20000 in
set_option maxHeartbeats 6400000 in
theorem words_any (a : Option Addr) (xs : List Int) (ca : Nat) (which at_ v : Int) (h0 : -9223372036854775808 ≤ which ∧ which ≤ 9223372036854775807) (h1 : -9223372036854775808 ≤ at_ ∧ at_ ≤ 9223372036854775807) (w : World) (ha : Ri w a xs) :
    Calls Try.prog 6 #[.slice a xs.length ca, .int .i64 which, .int .i64 at_, .int .u64 v] w fun e w' => e = .returned (.bool true) ∧ Below w.heap.size w w' := by
  have R := hide ha
  have H0 := hide h0
  have H1 := hide h1
  clear ha h0 h1
  by_cases hlen : 20 < xs.length
  · go_enter Try.func6, Try.ntmps6
    go_wp2_with (go_at_call 8; refine (awake_any _).mono ?_; rintro e w' ⟨rfl, hw⟩)
    go_ret
    exact ⟨rfl, hw⟩
  by_cases hle0 : xs.length = 0
  · have e0 : (xs.length : Int) = 0 := by omega
    have he : xs = [] := List.eq_nil_of_length_eq_zero hle0
    subst he
    simp only [List.length_nil]
    clear hle0 e0 hlen
    go_enter Try.func6, Try.ntmps6
    go_wp2_with (go_at_call 8; refine (awake_any _).mono ?_; rintro e w' ⟨rfl, hw⟩)
    go_ret
    exact ⟨rfl, hw⟩
  have hli : ¬ (20 < (xs.length : Int)) := by omega
  have hlj : ((xs.length : Int) == 0) = false := beq_false_of_ne (by omega)
  have hlk : (xs.length == 0) = false := beq_false_of_ne (by omega)
  go_enter Try.func6, Try.ntmps6
  go_wp2_with fail
  refine (new_v _ 20 (by omega) (by omega)).mono ?_
  rintro e w1 ⟨g, rfl, a1, k1⟩
  have A1 := hide a1
  have K1 := hide k1
  clear a1 k1
  go_wp2_with fail
  go_loopw [10] (fun v wr => ∃ (i : Nat), v = .int .i64 i ∧ i ≤ xs.length ∧ Ar (fun k => k < w.heap.size) wr g 20 (cellsW xs i) [] ∧ Kp (fun k => k < w.heap.size) w wr) (fun v _ => xs.length - (intOf v).toNat)
  case atStart => exact ⟨0, rfl, by omega, A1.out, K1.out⟩
  case round =>
    obtain ⟨i, rfl, hi, ha, hkp⟩ := hrel
    have A2 := hide ha
    have K2 := hide hkp
    clear ha hkp
    by_cases hix : i < xs.length
    · obtain ⟨b, off, rfl, hrg, hc⟩ := R.out.at i hix
      have HC := hide hc
      have HR := hide hrg
      clear hc hrg
      go_wp2_with fail
      go_loopw [11, 12] (fun v11 v wr => ∃ (k : Nat) (ab : Option Addr) (cb : Nat), v11 = .slice ab k cb ∧ v = .int .i64 k ∧ k ≤ szW xs i ∧ Ar (KB w.heap.size (.slice ab k cb)) wr g 20 (cellsW xs i) [] ∧ wr.ownsRow w.heap.size 32 1 (.slice ab k cb) k (u64s (prefW i k)) ∧ Kp (fun k => k < w.heap.size) w wr) (fun _ v _ => szW xs i - (intOf v).toNat)
      case atStart => exact ⟨0, none, 0, rfl, rfl, by omega, A2.out.kb0, World.ownsRow_nil _ _ _ _, K2.out⟩
      case round =>
        obtain ⟨k, ab, cb, rfl, rfl, hk, ha, ho, hkp⟩ := hrel
        have A3 := hide ha
        have O3 := hide ho
        have K3 := hide hkp
        have hsz : w.heap.size ≤ wr.heap.size := hkp.size
        have c3 := HC.out wr hkp
        have L := fun w => low_i (wAt xs i) 65 HR.out (by omega) (by omega) w
        have hs65 := szW_le xs i
        rw [show lowN (wAt xs i) 65 = szW xs i from rfl] at L
        have HL := hide L
        clear ha ho hkp L
        by_cases hks : k < szW xs i
        · have hlw := prefW_length i k
          have o3 : wr.ownsRow w.heap.size 32 1 (.slice ab k cb) (prefW i k).length (u64s (prefW i k)) := by rw [hlw]; exact O3.out
          obtain ⟨a', cap', w5, r5, o5, g5, hv5⟩ := append_u64 wr w.heap.size _ (prefW i k) ((100 * i + k : Nat) : Int) o3 (by omega) hsz
          obtain ⟨h5, k5⟩ := A3.out.app hsz o3 g5 hv5 o5
          rw [prefW_succ] at o5
          rw [hlw] at o5 h5 r5
          have A5 := hide h5
          have O5 := hide o5
          have K5 := hide (K3.out.trans k5)
          have e1 : ((100 * i + k : Nat) : Int) = 100 * (i : Int) + (k : Int) := by omega
          rw [e1] at r5
          have e2 : IntKind.u64.wrap (100 * (i : Int) + (k : Int)) = 100 * (i : Int) + (k : Int) := by rw [IntKind.wrap_u64]; omega
          clear o3 h5 o5 k5 g5 hv5 e1
          go_wp2_with (first | (go_at_call 27; refine (HL.out _).mono ?_; rintro e w4 ⟨rfl, rfl⟩) | (at_builtin; refine wpList_append_run rfl _ _ _ _ rfl _ _ _ _ rfl rfl r5 ?_))
          go_roundw
          case measure => simp only [intOf]; omega
          case rel => exact ⟨k + 1, a', cap', rfl, by go_num, by omega, A5.out, O5.out, K5.out⟩
        · obtain rfl : k = szW xs i := by omega
          have hlw := prefW_length i (szW xs i)
          have T := take_new A3.out (by rw [cellsW_length]; omega) ab (prefW i (szW xs i)) cb (Wd.own O3.out) (by omega)
          rw [hlw, cellsW_length, cellsW_succ] at T
          have HT := hide T
          clear T
          go_wp2_with (go_at_call 27; refine (HL.out _).mono ?_; rintro e w4 ⟨rfl, rfl⟩)
          refine HT.out.mono ?_
          rintro e w5 ⟨rfl, h5, k5⟩
          have Z := a_size h5 i (prefW i (szW xs i)) (cellsW_get xs (i + 1) i (by omega))
          rw [hlw] at Z
          have HZ := hide Z
          have A5 := hide (h5.weaken (K' := fun k => k < w.heap.size) (fun k hk => .inl hk))
          have K5 := hide (K3.out.trans k5.kb)
          clear Z h5 k5 HT
          go_wp2_with fail
          refine HZ.out.mono ?_
          rintro e w6 ⟨rfl, rfl⟩
          go_wp2_with fail
          go_roundw
          case measure => simp only [intOf]; omega
          case rel => exact ⟨i + 1, by go_num, by omega, A5.out, K5.out⟩
    · obtain rfl : i = xs.length := by omega
      clear A1 K1 hi hix
      obtain ⟨q, hq⟩ : ∃ q, q = lowN which xs.length := ⟨_, rfl⟩
      have hqx : q < xs.length := by rw [hq]; exact lowN_lt _ _ (by omega)
      have L1 := fun w => low_i which (xs.length : Int) H0.out (by omega) (by omega) w
      rw [← hq] at L1
      have HL1 := hide L1
      obtain ⟨b, off, rfl, hrg, hc⟩ := R.out.at q hqx
      have HC := hide (hc wr K2.out)
      have cq := HC.out
      have L2 := fun w => low_i (wAt xs q) 65 hrg (by omega) (by omega) w
      rw [show lowN (wAt xs q) 65 = szW xs q from rfl] at L2
      have HL2 := hide L2
      have s65 := szW_le xs q
      obtain ⟨t, ht⟩ : ∃ t, t = lowN at_ ((szW xs q + 1 : Nat) : Int) := ⟨_, rfl⟩
      have htl : t < szW xs q + 1 := by rw [ht]; exact lowN_lt _ _ (by omega)
      have L3 := fun w => low_i at_ ((szW xs q + 1 : Nat) : Int) H1.out (by omega) (by omega) w
      rw [← ht, show ((szW xs q + 1 : Nat) : Int) = (szW xs q : Int) + 1 by omega] at L3
      have HL3 := hide L3
      have e1 : IntKind.u32.wrap ((q : Int) + 1) = (q : Int) + 1 := by rw [IntKind.wrap_u32]; omega
      have e2 : ((q : Int) + 1) % 4294967296 = (q : Int) + 1 := by omega
      clear hc hrg L1 L2 L3 hq ht HC
      by_cases hts : t < szW xs q
      · have S := a_set A2.out q t v _ (cellsW_get xs _ q hqx) (by rw [prefW_length]; exact hts)
        rw [cellsX_set] at S
        have HS := hide S
        have hts' : (t : Int) < (szW xs q : Int) := by omega
        clear S
        go_wp2_with fail
        refine (HL1.out _).mono ?_
        rintro e w4 ⟨rfl, rfl⟩
        go_wp2_with fail
        refine (HL2.out _).mono ?_
        rintro e w4 ⟨rfl, rfl⟩
        go_wp2_with fail
        refine (HL3.out _).mono ?_
        rintro e w4 ⟨rfl, rfl⟩
        go_wp2_with fail
        refine HS.out.mono ?_
        rintro e w8 ⟨rfl, h8, k8⟩
        have A8 := hide h8
        have K8 := hide (K2.out.trans k8)
        clear h8 k8 HS
        go_wp2_with fail
        go_loopw [17] (fun v wr => ∃ (j : Nat), v = .int .i64 j ∧ j ≤ xs.length ∧ wr = w8) (fun v _ => xs.length - (intOf v).toNat)
        case atStart => exact ⟨0, rfl, by omega, rfl⟩
        case round =>
          obtain ⟨j, rfl, hj, hwr⟩ := hrel
          by_cases hjx : j < xs.length
          · have RJ := hide (R.out.rng j hjx)
            have cj : wr.cell? ⟨b, off + j, none⟩ = some (.int .i64 (wAt xs j)) := by
              rw [hwr]
              obtain ⟨b', off', e, _, h⟩ := R.out.at j hjx
              cases e
              exact h _ K8.out
            have HWR := hide hwr
            clear hwr
            go_wp2_with fail
            go_loopw [18] (fun v wq => ∃ (k : Nat), v = .int .i64 k ∧ k ≤ szW xs j ∧ wq = wr) (fun v _ => szW xs j - (intOf v).toNat)
            case atStart => exact ⟨0, rfl, by omega, rfl⟩
            case round =>
              obtain ⟨k, rfl, hk, hwq⟩ := hrel
              have cq := cj
              rw [← hwq] at cq
              have A9 := A8.out
              rw [← HWR.out, ← hwq] at A9
              have HWQ := hide hwq
              have s65 := szW_le xs j
              have L := fun w => low_i (wAt xs j) 65 RJ.out (by omega) (by omega) w
              rw [show lowN (wAt xs j) 65 = szW xs j from rfl] at L
              have HL := hide L
              clear hwq L
              by_cases hks : k < szW xs j
              · have G := a_get A9 j k _ (cellsX_get xs q t v _ j hjx) (by rw [wordsX_length]; exact hks)
                rw [wordsX_at xs q t v j k hks] at G
                have HG := hide G
                clear G A9
                have e1 : IntKind.u64.wrap (100 * (j : Int) + (k : Int)) = 100 * (j : Int) + (k : Int) := by rw [IntKind.wrap_u64]; omega
                have e2 : IntKind.u32.wrap ((j : Int) + 1) = (j : Int) + 1 := by rw [IntKind.wrap_u32]; omega
                have e3 : ((j : Int) + 1) % 4294967296 = (j : Int) + 1 := by omega
                have e4 : ((100 * j + k : Nat) : Int) = 100 * (j : Int) + (k : Int) := by omega
                by_cases hjq : j = q
                · subst hjq
                  by_cases hkt : k = t
                  · subst hkt
                    rw [if_pos ⟨rfl, rfl⟩] at HG
                    go_wp2_with (first | (go_at_call 27; refine (HL.out _).mono ?_; rintro e w4 ⟨rfl, rfl⟩) | (go_at_call 16; refine HG.out.mono ?_; rintro e w4 ⟨rfl, rfl⟩))
                    go_roundw
                    case measure => simp only [intOf]; omega
                    case rel => exact ⟨k + 1, by go_num, by omega, HWQ.out⟩
                  · have hkt' : ((k : Int) == (t : Int)) = false := beq_false_of_ne (by omega)
                    have hkt2 : (k == t) = false := beq_false_of_ne hkt
                    rw [if_neg (fun h => hkt h.2), e4] at HG
                    go_wp2_with (first | (go_at_call 27; refine (HL.out _).mono ?_; rintro e w4 ⟨rfl, rfl⟩) | (go_at_call 16; refine HG.out.mono ?_; rintro e w4 ⟨rfl, rfl⟩))
                    go_roundw
                    case measure => simp only [intOf]; omega
                    case rel => exact ⟨k + 1, by go_num, by omega, HWQ.out⟩
                · have hjq' : ((j : Int) == (q : Int)) = false := beq_false_of_ne (by omega)
                  have hjq2 : (j == q) = false := beq_false_of_ne hjq
                  rw [if_neg (fun h => hjq h.1), e4] at HG
                  go_wp2_with (first | (go_at_call 27; refine (HL.out _).mono ?_; rintro e w4 ⟨rfl, rfl⟩) | (go_at_call 16; refine HG.out.mono ?_; rintro e w4 ⟨rfl, rfl⟩))
                  go_roundw
                  case measure => simp only [intOf]; omega
                  case rel => exact ⟨k + 1, by go_num, by omega, HWQ.out⟩
              · obtain rfl : k = szW xs j := by omega
                clear A9
                go_wp2_with (go_at_call 27; refine (HL.out _).mono ?_; rintro e w4 ⟨rfl, rfl⟩)
                go_roundw
                case measure => simp only [intOf]; omega
                case rel => exact ⟨j + 1, by go_num, by omega, HWQ.out.trans HWR.out⟩
          · subst hwr
            have V := a_live A8.out
            have F := fun w1 (s : Still wr w1) => a_free (A8.out.still s)
            simp only [cellsX_length, List.length_nil, Nat.sub_zero] at V F
            have HV := hide V
            have HF := hide F
            clear V F
            go_wp2_with fail
            refine HV.out.mono ?_
            rintro e w10 ⟨rfl, s10⟩
            have S10 := hide s10
            clear s10
            go_wp2_with fail
            refine (HF.out _ S10.out).mono ?_
            rintro e w11 ⟨rfl, s11⟩
            have K11 := hide ((K8.out.trans (S10.out.kp _)).trans (s11.kp _))
            clear s11
            go_wp2_with (go_at_call 8; refine (awake_any _).mono ?_; rintro e w12 ⟨rfl, f12⟩; have F12 := hide f12; clear f12)
            go_ret
            exact ⟨rfl, (K11.out.below (Nat.le_refl _) (fun k hk => hk)).trans (F12.out.mono K11.out.size)⟩
      · have S := a_set_out A2.out q (t : Int) v _ (cellsW_get xs _ q hqx) (.inr (by rw [prefW_length]; omega))
        have A2' := A2.out
        rw [cellsX_out xs q t v _ (by omega)] at A2'
        have HS := hide S
        have hts' : ¬ ((t : Int) < (szW xs q : Int)) := by omega
        clear S
        go_wp2_with fail
        refine (HL1.out _).mono ?_
        rintro e w4 ⟨rfl, rfl⟩
        go_wp2_with fail
        refine (HL2.out _).mono ?_
        rintro e w4 ⟨rfl, rfl⟩
        go_wp2_with fail
        refine (HL3.out _).mono ?_
        rintro e w4 ⟨rfl, rfl⟩
        go_wp2_with fail
        refine HS.out.mono ?_
        rintro e w8 ⟨rfl, hw8⟩
        have h8 : Ar (fun k => k < w.heap.size) w8 g 20 (cellsX xs q t v xs.length) [] := by rw [hw8]; exact A2'
        have k8 : Kp (fun k => k < w.heap.size) w4 w8 := by rw [hw8]; exact Kp.refl _ _
        clear hw8 A2'
        have A8 := hide h8
        have K8 := hide (K2.out.trans k8)
        clear h8 k8 HS
        go_wp2_with fail
        go_loopw [17] (fun v wr => ∃ (j : Nat), v = .int .i64 j ∧ j ≤ xs.length ∧ wr = w8) (fun v _ => xs.length - (intOf v).toNat)
        case atStart => exact ⟨0, rfl, by omega, rfl⟩
        case round =>
          obtain ⟨j, rfl, hj, hwr⟩ := hrel
          by_cases hjx : j < xs.length
          · have RJ := hide (R.out.rng j hjx)
            have cj : wr.cell? ⟨b, off + j, none⟩ = some (.int .i64 (wAt xs j)) := by
              rw [hwr]
              obtain ⟨b', off', e, _, h⟩ := R.out.at j hjx
              cases e
              exact h _ K8.out
            have HWR := hide hwr
            clear hwr
            go_wp2_with fail
            go_loopw [18] (fun v wq => ∃ (k : Nat), v = .int .i64 k ∧ k ≤ szW xs j ∧ wq = wr) (fun v _ => szW xs j - (intOf v).toNat)
            case atStart => exact ⟨0, rfl, by omega, rfl⟩
            case round =>
              obtain ⟨k, rfl, hk, hwq⟩ := hrel
              have cq := cj
              rw [← hwq] at cq
              have A9 := A8.out
              rw [← HWR.out, ← hwq] at A9
              have HWQ := hide hwq
              have s65 := szW_le xs j
              have L := fun w => low_i (wAt xs j) 65 RJ.out (by omega) (by omega) w
              rw [show lowN (wAt xs j) 65 = szW xs j from rfl] at L
              have HL := hide L
              clear hwq L
              by_cases hks : k < szW xs j
              · have G := a_get A9 j k _ (cellsX_get xs q t v _ j hjx) (by rw [wordsX_length]; exact hks)
                rw [wordsX_at xs q t v j k hks] at G
                have HG := hide G
                clear G A9
                have e1 : IntKind.u64.wrap (100 * (j : Int) + (k : Int)) = 100 * (j : Int) + (k : Int) := by rw [IntKind.wrap_u64]; omega
                have e2 : IntKind.u32.wrap ((j : Int) + 1) = (j : Int) + 1 := by rw [IntKind.wrap_u32]; omega
                have e3 : ((j : Int) + 1) % 4294967296 = (j : Int) + 1 := by omega
                have e4 : ((100 * j + k : Nat) : Int) = 100 * (j : Int) + (k : Int) := by omega
                by_cases hjq : j = q
                · subst hjq
                  by_cases hkt : k = t
                  · subst hkt
                    rw [if_pos ⟨rfl, rfl⟩] at HG
                    go_wp2_with (first | (go_at_call 27; refine (HL.out _).mono ?_; rintro e w4 ⟨rfl, rfl⟩) | (go_at_call 16; refine HG.out.mono ?_; rintro e w4 ⟨rfl, rfl⟩))
                    go_roundw
                    case measure => simp only [intOf]; omega
                    case rel => exact ⟨k + 1, by go_num, by omega, HWQ.out⟩
                  · have hkt' : ((k : Int) == (t : Int)) = false := beq_false_of_ne (by omega)
                    have hkt2 : (k == t) = false := beq_false_of_ne hkt
                    rw [if_neg (fun h => hkt h.2), e4] at HG
                    go_wp2_with (first | (go_at_call 27; refine (HL.out _).mono ?_; rintro e w4 ⟨rfl, rfl⟩) | (go_at_call 16; refine HG.out.mono ?_; rintro e w4 ⟨rfl, rfl⟩))
                    go_roundw
                    case measure => simp only [intOf]; omega
                    case rel => exact ⟨k + 1, by go_num, by omega, HWQ.out⟩
                · have hjq' : ((j : Int) == (q : Int)) = false := beq_false_of_ne (by omega)
                  have hjq2 : (j == q) = false := beq_false_of_ne hjq
                  rw [if_neg (fun h => hjq h.1), e4] at HG
                  go_wp2_with (first | (go_at_call 27; refine (HL.out _).mono ?_; rintro e w4 ⟨rfl, rfl⟩) | (go_at_call 16; refine HG.out.mono ?_; rintro e w4 ⟨rfl, rfl⟩))
                  go_roundw
                  case measure => simp only [intOf]; omega
                  case rel => exact ⟨k + 1, by go_num, by omega, HWQ.out⟩
              · obtain rfl : k = szW xs j := by omega
                clear A9
                go_wp2_with (go_at_call 27; refine (HL.out _).mono ?_; rintro e w4 ⟨rfl, rfl⟩)
                go_roundw
                case measure => simp only [intOf]; omega
                case rel => exact ⟨j + 1, by go_num, by omega, HWQ.out.trans HWR.out⟩
          · subst hwr
            have V := a_live A8.out
            have F := fun w1 (s : Still wr w1) => a_free (A8.out.still s)
            simp only [cellsX_length, List.length_nil, Nat.sub_zero] at V F
            have HV := hide V
            have HF := hide F
            clear V F
            go_wp2_with fail
            refine HV.out.mono ?_
            rintro e w10 ⟨rfl, s10⟩
            have S10 := hide s10
            clear s10
            go_wp2_with fail
            refine (HF.out _ S10.out).mono ?_
            rintro e w11 ⟨rfl, s11⟩
            have K11 := hide ((K8.out.trans (S10.out.kp _)).trans (s11.kp _))
            clear s11
            go_wp2_with (go_at_call 8; refine (awake_any _).mono ?_; rintro e w12 ⟨rfl, f12⟩; have F12 := hide f12; clear f12)
            go_ret
            exact ⟨rfl, (K11.out.below (Nat.le_refl _) (fun k hk => hk)).trans (F12.out.mono K11.out.size)⟩
end Go.Proofs.Ytjbpffeembepcaa
