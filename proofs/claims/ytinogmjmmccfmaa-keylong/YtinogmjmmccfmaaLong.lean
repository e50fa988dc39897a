/- The contract of Long: a key of n bytes, its last one told. -/
import Derived.Test.YtinogmjmmccfmaaVals
import Derived.Test.YtinogmjmmccfmaaMakes2
namespace Go.Proofs.Ytinogmjmmccfmaa
open Go.RowKit
set_option linter.unusedVariables false

/-- n bytes 'x', the last one b. -/
def longK (n : Nat) (b : Int) : List Int := (List.replicate n 120).set (n - 1) b
theorem longK_length (n : Nat) (b : Int) : (longK n b).length = n := by simp [longK]

theorem u8s_snoc (n : Nat) : u8s (List.replicate n 120) ++ [Value.int .u8 120] = u8s (List.replicate (n + 1) 120) := by
  simp [u8s, List.replicate_succ']

set_option maxHeartbeats 1000000 in
theorem long_any (n : Nat) (b : Int) (w : World) (hn : n ≤ 70000) (h1 : 0 < n) :
    Calls Try.prog 28 #[.int .i64 n, .int .u8 b] w fun e w' => ∃ v, e = .returned v ∧ w'.ownsRow w.heap.size 5 1 v n (u8s (longK n b)) ∧ Below w.heap.size w w' := by
  go_enter Try.func28, Try.ntmps28
  go_wp2_with fail
  go_loopw [5, 6] (fun v i wr => ∃ k : Nat, i = .int .i64 k ∧ k ≤ n ∧ wr.ownsRow w.heap.size 5 1 v k (u8s (List.replicate k 120)) ∧ Below w.heap.size w wr) (fun _ i _ => n - (intOf i).toNat)
  case atStart => exact ⟨0, rfl, by omega, World.ownsRow_nil _ _ _ _, Below.refl _ _⟩
  case round =>
    obtain ⟨k, rfl, hk, ho, hb⟩ := hrel
    have O := hide ho
    have F := hide hb
    clear ho hb
    by_cases hkn : k < n
    · rename_i v _ _
      obtain ⟨v', w', r, o', g', b', _⟩ := append1_u8 wr w.heap.size _ k _ 120 O.out (by omega) F.out.size
      have O' := hide o'
      have F' : Hid (Below w.heap.size w w') := F.out.grown g' F.out.size (fun j hj => (O.out.lt j hj).1)
      clear o' g' b'
      go_wp2_with (at_builtin; refine wpList_append_run rfl _ _ _ _ rfl _ _ _ _ rfl rfl r ?_)
      go_roundw
      case rel => exact ⟨k + 1, by go_num, by omega, by rw [← u8s_snoc]; exact O'.out, F'.out⟩
      case measure => simp [intOf]; omega
    · obtain rfl : k = n := by omega
      obtain ⟨g, cap, hv, hg1, hg2⟩ := O.out.form h1
      have hv' := hide hv
      clear hv
      rw [hv'.out] at O ⊢
      have hc := O.out.cellAt (k - 1) (by omega)
      rw [u8s_get _ _ (by simp; omega)] at hc
      have hf := O.out.frozenAt (k - 1)
      have hst := O.out.stored (k - 1) (.int .u8 b)
      have HS := hide hst
      clear hst hkn
      generalize (List.replicate k (120 : Int)).getD (k - 1) 0 = q at *
      go_wp2
      go_ret
      refine ⟨_, rfl, ?_, F.out.setCell hg1 _⟩
      have h := HS.out.1
      have e : (u8s (List.replicate k 120)).set (k - 1) (.int .u8 b) = u8s (longK k b) := by simp [u8s, longK, List.map_set]
      rw [e] at h
      exact h

theorem longK_bytes (n : Nat) (b : Int) (hb : 0 ≤ b ∧ b ≤ 255) : IsBytes (longK n b) := by
  intro x hx
  rcases List.mem_or_eq_of_mem_set hx with h | h
  · simp at h; omega
  · omega

theorem bitK_out (xs : List Int) (i : Int) (h : (xs.length : Int) ≤ i / 9) : bitK xs i = 0 := by unfold bitK; rw [if_pos (.inr h)]

theorem may_yes (a : Option Addr) (n c : Nat) (w : World) (hn : n ≤ 65535) : Calls Try.prog 29 #[.slice a n c] w fun e w' => e = .returned (.bool true) ∧ Below w.heap.size w w' := by
  refine (may_any a n c w (by unfold maxLen; omega)).mono fun e w' h => ⟨?_, by rw [h.2]; exact Below.refl _ _⟩
  rw [h.1, decide_eq_true (by omega)]
theorem may_no (a : Option Addr) (n c : Nat) (w : World) (hn : 65535 < n) (hm : n ≤ maxLen) : Calls Try.prog 29 #[.slice a n c] w fun e w' => e = .returned (.bool false) ∧ Below w.heap.size w w' := by
  refine (may_any a n c w hm).mono fun e w' h => ⟨?_, by rw [h.2]; exact Below.refl _ _⟩
  rw [h.1, decide_eq_false (by omega)]

set_option maxHeartbeats 1000000 in
theorem keyLong_walk (b : Int) (w : World) (hb : 0 ≤ b ∧ b ≤ 255) :
    Calls Try.prog 6 #[.int .u8 b] w fun e w' => e = .returned (.bool true) ∧ Below w.heap.size w w' := by
  obtain ⟨n, hn⟩ : ∃ n : Nat, n = 65535 := ⟨_, rfl⟩
  have LG := hide (fun w' => long_any n b w' (by omega) (by omega))
  have e0 : ((n : Nat) : Int) = 65535 := by omega
  rw [e0] at LG
  have hlb := hide (longK_bytes n b hb)
  have hll := longK_length n b
  generalize longK n b = ls at *
  have hl1 : ls.length ≤ 65535 := by omega
  have hl2 : 65535 ≤ ls.length := by omega
  have HN : Hid (n = 65535) := hn
  have HL : Hid (ls.length = n) := hll
  have KK := hide fun a c w' h => common_v ls ls n (by rw [common_self, hll]) a a c c w' h h
  rw [e0] at KK
  have BT := hide fun a c w' h => (by have t := bit_b a ls c 589815 w' h (by decide) (by decide); rwa [bitK_out ls 589815 (by omega)] at t)
  clear hn e0 hll
  go_enter Try.func6, Try.ntmps6
  go_wp2_with fail
  refine (LG.out _).mono ?_
  rintro e w1 ⟨v, rfl, ho, hbl⟩
  have F : Hid (Below w.heap.size w w1) := hbl
  have ho' : w1.ownsRow w.heap.size 5 1 v ls.length (u8s ls) := by rw [HL.out]; exact ho
  obtain ⟨a, c, rfl, hrd, _⟩ := owns_rd ho' hlb.out
  have O := hide ho'
  clear ho ho' hrd hbl
  go_wp2_with fail
  refine (may_yes _ _ _ _ hl1).mono ?_
  rintro e w2 ⟨rfl, k⟩
  replace O := hide (O.out.below k (Nat.le_refl _))
  replace F := step F k
  clear k
  obtain ⟨v3, w3, r, o3, g3, b3, k3⟩ := append1_u8 w2 w.heap.size _ _ _ b O.out (by omega) F.out.size
  replace F : Hid (Below w.heap.size w w3) := F.out.grown g3 F.out.size (fun j hj => (O.out.lt j hj).1)
  replace O := hide k3
  obtain ⟨g, c3, hv3, _, _⟩ := o3.form (by omega)
  subst hv3
  obtain ⟨a', c', he, hrd, _⟩ := owns_rd O.out hlb.out
  cases he
  have R := hide hrd
  have hc3 := (owns_cap o3).2
  clear o3 g3 b3 k3 hrd
  go_wp2_with (at_builtin; refine wpList_append_run' rfl _ _ _ _ rfl _ _ _ _ rfl rfl r ?_)
  go_wp2_with fail
  refine (may_no _ _ _ _ (by omega) (by omega)).mono ?_
  rintro e w4 ⟨rfl, k⟩
  replace F := step F k
  replace R := hide (R.out.below k (Nat.le_refl _))
  clear k
  go_wp2_with fail
  refine (KK.out _ _ _ R.out).mono ?_
  rintro e w5 ⟨rfl, k⟩
  replace F := step F k
  replace R := hide (R.out.below k (Nat.le_refl _))
  clear k
  go_wp2_with fail
  refine (BT.out _ _ _ R.out).mono ?_
  rintro e w6 ⟨rfl, k⟩
  replace F := step F k
  replace R := hide (R.out.below k (Nat.le_refl _))
  clear k
  go_wp2_with fail
  refine (awake_any _).mono ?_
  rintro e w7 ⟨rfl, k⟩
  replace F := step F k
  clear k
  go_wp2
  go_ret
  exact ⟨rfl, F.out⟩

end Go.Proofs.Ytinogmjmmccfmaa
