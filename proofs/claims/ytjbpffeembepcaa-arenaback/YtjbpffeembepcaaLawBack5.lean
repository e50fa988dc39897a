/- ArenaBack. -/
import Derived.Test.YtjbpffeembepcaaLow5
namespace Go.Proofs.Ytjbpffeembepcaa
open Go.RowKit
set_option linter.unusedVariables false

set_option maxRecDepth 20000 in
set_option maxHeartbeats 3200000 in
theorem back_any (many give : Int) (h0 : -9223372036854775808 ≤ many) (h1 : many ≤ 9223372036854775807) (h2 : -9223372036854775808 ≤ give) (h3 : give ≤ 9223372036854775807) (w : World) :
    Calls Try.prog 5 #[.int .i64 many, .int .i64 give] w fun e w' => e = .returned (.bool true) ∧ Below w.heap.size w w' := by
  obtain ⟨m, hm, -, L⟩ := low_nat many 21 h0 h1 (by omega) (by omega)
  have HL := hide L
  clear L h0 h1
  go_enter Try.func5, Try.ntmps5
  go_wp2_with fail
  refine (HL.out _).mono ?_
  rintro e w0 ⟨rfl, rfl⟩
  go_wp2_with fail
  refine (new_v _ 50 (by omega) (by omega)).mono ?_
  rintro e w1 ⟨g, rfl, a1, k1⟩
  have A1 := hide a1
  have K1 := hide k1
  clear a1 k1
  go_wp2_with fail
  go_loopw [6] (fun v wr => ∃ k : Nat, v = .int .i64 k ∧ k ≤ m ∧ Ar (fun k => k < w0.heap.size) wr g 50 (List.replicate k (some [])) [] ∧ Kp (fun k => k < w0.heap.size) w0 wr) (fun v _ => m - (intOf v).toNat)
  case atStart => exact ⟨0, rfl, by omega, A1.out, K1.out⟩
  case round =>
    obtain ⟨k, rfl, hk, ha, hkp⟩ := hrel
    have A2 := hide ha
    have K2 := hide hkp
    clear ha hkp
    by_cases hkm : k < m
    · have T := hide (take_new A2.out (by simp; omega) none [] 0 (Wd.none _ _) (by simp))
      simp only [List.length_replicate, List.length_nil] at T
      go_wp2_with (go_at_call 11; refine T.out.mono ?_; rintro e w3 ⟨rfl, h3, k3⟩; have A3 := hide h3; have K3 := hide (K2.out.trans k3); clear h3 k3)
      go_roundw
      case measure => simp only [intOf]; omega
      case rel => exact ⟨k + 1, by go_num, by omega, by rw [List.replicate_succ']; exact A3.out, K3.out⟩
    · obtain rfl : k = m := by omega
      go_wp2_with fail
      go_loopw [9, 10] (fun v9 v wr => ∃ (i : Nat) (cs : Cells) (back : List Nat) (ab : Option Addr) (cab : Nat), v9 = .slice ab back.length cab ∧ v = .int .i64 i ∧ i ≤ k ∧ cs.length = k ∧ (∀ j, i ≤ j → j < k → cs[j]? = some (some [])) ∧ Ar (KB w0.heap.size (.slice ab back.length cab)) wr g 50 cs back ∧ wr.ownsRow w0.heap.size 28 1 (.slice ab back.length cab) back.length (u32s back) ∧ Kp (fun k => k < w0.heap.size) w0 wr) (fun _ v _ => k - (intOf v).toNat)
      case atStart => exact ⟨0, _, [], none, 0, rfl, rfl, by omega, List.length_replicate, fun j _ hj => by simp [hj], A2.out.kb0, World.ownsRow_nil _ _ _ _, K2.out⟩
      case round =>
        obtain ⟨i, cs, back, ab, cab, rfl, rfl, hi, hcs, hun, ha, ho, hkp⟩ := hrel
        have A4 := hide ha
        have O4 := hide ho
        have K4 := hide hkp
        have UN := hide hun
        have hsz : w0.heap.size ≤ wr.heap.size := hkp.size
        have hbl := ha.good.blen
        clear ha ho hkp hun
        by_cases hik : i < k
        · have G := give_has A4.out i [] (UN.out i (Nat.le_refl _) hik)
          have e1 : IntKind.u32.wrap ((i : Int) + 1) = (i : Int) + 1 := by rw [IntKind.wrap_u32]; omega
          have e2 : ((i : Int) + 1) % 4294967296 = (i : Int) + 1 := by omega
          have HG := hide G
          clear G
          by_cases hb : (bits BinOp.and IntKind.i64 (give / 2 ^ i) 1 == 1) = true
          · go_wp2_with fail
            refine HG.out.mono ?_
            rintro e w5 ⟨rfl, h5, k5⟩
            have hz5 := Nat.le_trans hsz k5.size
            obtain ⟨a', cap', w6, r6, o6, g6, hv6⟩ := append_u32 w5 w0.heap.size _ back ((i : Int) + 1) (i + 1) (by omega) (owns_kb O4.out k5) (by omega) hz5
            obtain ⟨h6, k6⟩ := h5.app hz5 (owns_kb O4.out k5) g6 hv6 o6
            have A6 := hide h6
            have O6 := hide o6
            have K6 := hide ((K4.out.trans k5.kb).trans k6)
            clear h5 k5 o6 g6 hv6 h6 k6
            go_wp2_with (at_builtin; refine wpList_append_run rfl _ _ _ _ rfl _ _ _ _ rfl rfl r6 ?_)
            go_roundw
            case measure => simp only [intOf]; omega
            case rel =>
              have hl : (back ++ [i + 1]).length = back.length + 1 := by simp
              refine ⟨i + 1, cs.set i none, back ++ [i + 1], a', cap', by rw [hl], by go_num, by omega, by simpa using hcs, fun j h4 h5 => ?_, by rw [hl]; exact A6.out, by rw [hl]; exact hl ▸ O6.out, K6.out⟩
              rw [List.getElem?_set_ne (by omega)]
              exact UN.out j (by omega) h5
          · go_wp2_with fail
            go_roundw
            case measure => simp only [intOf]; omega
            case rel => exact ⟨i + 1, cs, back, ab, cab, rfl, by go_num, by omega, hcs, fun j h4 h5 => UN.out j (by omega) h5, A4.out, O4.out, K4.out⟩
        · have hlen : cs.length ≤ 20 := by omega
          clear UN
          go_wp2_with fail
          go_loopw [11] (fun v wr => ∃ (j : Nat) (ds : Cells), v = .int .i64 ((j : Int) - 1) ∧ j ≤ back.length ∧ ds.length = k ∧ Ar (KB w0.heap.size (.slice ab back.length cab)) wr g 50 ds (back.take j) ∧ wr.ownsRow w0.heap.size 28 1 (.slice ab back.length cab) back.length (u32s back) ∧ Kp (fun k => k < w0.heap.size) w0 wr) (fun v _ => (intOf v + 1).toNat)
          case atStart => exact ⟨back.length, cs, by go_num, Nat.le_refl _, hcs, by rw [List.take_length]; exact A4.out, O4.out, K4.out⟩
          case round =>
            obtain ⟨j, ds, rfl, hj, hds, ha, ho, hkp⟩ := hrel
            have A7 := hide ha
            have O7 := hide ho
            have K7 := hide hkp
            clear ha ho hkp
            by_cases hj0 : j = 0
            · subst hj0
              have A8 := A7.out
              rw [List.take_zero] at A8
              have T := take_new A8 (by rw [hds]; omega) none [] 0 (Wd.none _ _) (by simp)
              rw [hds] at T
              have HT := hide T
              have e1 : ((0 : Nat) : Int) - 1 = -1 := by omega
              rw [e1]
              clear e1 A8 T
              go_wp2_with fail
              refine HT.out.mono ?_
              rintro e w9 ⟨rfl, h9, k9⟩
              have A9 := hide h9
              have K9 := hide (K7.out.trans k9.kb)
              clear h9 k9 HT
              have V := a_live A9.out
              simp only [List.length_append, List.length_singleton, List.length_nil, hds, Nat.sub_zero] at V
              have HV := hide V
              clear V
              go_wp2_with fail
              refine HV.out.mono ?_
              rintro e w10 ⟨rfl, s10⟩
              have K10 := hide (K9.out.trans (s10.kp _))
              clear s10 HV
              go_wp2_with (go_at_call 8; refine (awake_any _).mono ?_; rintro e w11 ⟨rfl, f11⟩; have F11 := hide f11; clear f11)
              go_ret
              exact ⟨rfl, (K10.out.below (Nat.le_refl _) (fun k hk => hk)).trans (F11.out.mono K10.out.size)⟩
            · obtain ⟨n, rfl⟩ : ∃ n, j = n + 1 := ⟨j - 1, by omega⟩
              have hn : n < back.length := by omega
              have ht : back.take (n + 1) = back.take n ++ [back.getD n 0] := by
                rw [List.take_succ_eq_append_getElem hn]
                simp [hn]
              have A8 := A7.out
              rw [ht] at A8
              have HT := hide (take_back_lit A8 [7] (by simp))
              obtain ⟨x, hx⟩ : ∃ x, x = back.getD n 0 := ⟨_, rfl⟩
              rw [← hx] at HT
              obtain ⟨gb, cab', e⟩ := owns_slice O7.out (by omega)
              simp only [Value.slice.injEq] at e
              obtain ⟨rfl, -, rfl⟩ := e
              have e1 : ((n + 1 : Nat) : Int) - 1 = (n : Int) := by omega
              rw [e1]
              clear e1 A8
              go_wp2_with fail
              refine HT.out.mono ?_
              rintro e w9 ⟨rfl, h9, k9⟩
              have A9 := hide h9
              have O9 := hide (owns_kb O7.out k9)
              have K9 := hide (K7.out.trans k9.kb)
              have c9 : w9.cell? ⟨gb, n, none⟩ = some (.int .u32 (x : Int)) := by rw [hx]; exact (O9.out.cellAt n (by omega)).trans (u32s_get back n hn)
              clear h9 k9 HT hx
              go_wp2_with fail
              go_roundw
              case measure => simp only [intOf]; omega
              case rel => exact ⟨n, _, by go_num, by omega, by simpa using hds, A9.out, O9.out, K9.out⟩
end Go.Proofs.Ytjbpffeembepcaa
