/- Low, Long. -/
import Derived.Test.YtahlbebkcoofkaaByCalls
namespace Go.Proofs.Ytahlbebkcoofkaa
set_option maxRecDepth 20000
open Go.RowKit
set_option linter.unusedVariables false
set_option linter.unusedSimpArgs false

def lowK (x m : Int) : Int := x % 18446744073709551616 % m
theorem lowK_range (x m : Int) (h : 0 < m) : 0 ≤ lowK x m ∧ lowK x m < m := ⟨Int.emod_nonneg _ (by omega), Int.emod_lt_of_pos _ h⟩
theorem low_is (x m : Int) (hm : 0 < m) (hm1 : m ≤ 9223372036854775807) : wrap64 ((IntKind.u64.wrap x).tmod m) = lowK x m := by
  have h := lowK_range x m hm
  have e : (IntKind.u64.wrap x).tmod m = lowK x m := by
    rw [IntKind.wrap_u64, Int.tmod_eq_emod_of_nonneg (Int.emod_nonneg _ (by decide))]
    rfl
  rw [e, wrap64_in _ (by omega)]
set_option maxHeartbeats 400000 in
theorem low_any (x m : Int) (h0 : -9223372036854775808 ≤ x) (h1 : x ≤ 9223372036854775807) (hm : 0 < m) (hm1 : m ≤ 9223372036854775807) (w : World) :
    Calls Try.prog 30 #[.int .i64 x, .int .i64 m] w fun e w' => e = .returned (.int .i64 (lowK x m)) ∧ w' = w := by
  go_enter Try.func30, Try.ntmps30
  go_wp2
  go_ret
  exact ⟨ret_int (low_is x m hm hm1), rfl⟩
/-- Low, its answer a natural number. -/
theorem low_nat (x : Int) (m : Nat) (h0 : -9223372036854775808 ≤ x) (h1 : x ≤ 9223372036854775807) (hm : 0 < m) (hm1 : m ≤ 1000000) : ∃ k : Nat, k < m ∧ k = (lowK x m).toNat ∧ ∀ w, Calls Try.prog 30 #[.int .i64 x, .int .i64 (m : Int)] w fun e w' => e = .returned (.int .i64 (k : Int)) ∧ w' = w := by
  have h := lowK_range x m (by omega)
  refine ⟨(lowK x m).toNat, by omega, rfl, fun w => ?_⟩
  refine (low_any x m h0 h1 (by omega) (by omega) w).mono ?_
  rintro e w' ⟨rfl, rfl⟩
  exact ⟨ret_int (by omega), rfl⟩

theorem wf_i64 {a : Int} (h : (Lit.int .i64 a).wf = true) : -9223372036854775808 ≤ a ∧ a ≤ 9223372036854775807 := by
  have e1 : IntKind.i64.min = -9223372036854775808 := by decide
  have e2 : IntKind.i64.max = 9223372036854775807 := by decide
  simp [Lit.wf, e1, e2] at h
  omega
theorem wf_u64 {a : Int} (h : (Lit.int .u64 a).wf = true) : 0 ≤ a ∧ a ≤ 18446744073709551615 := by
  have e1 : IntKind.u64.min = 0 := by decide
  have e2 : IntKind.u64.max = 18446744073709551615 := by decide
  simp [Lit.wf, e1, e2] at h
  omega
theorem wf_u32 {a : Int} (h : (Lit.int .u32 a).wf = true) : 0 ≤ a ∧ a ≤ 4294967295 := by
  have e1 : IntKind.u32.min = 0 := by decide
  have e2 : IntKind.u32.max = 4294967295 := by decide
  simp [Lit.wf, e1, e2] at h
  omega
/-- n bytes 'x', the last one b. -/
def longK (n : Nat) (b : Int) : List Int := (List.replicate n 120).set (n - 1) b
theorem longK_length (n : Nat) (b : Int) : (longK n b).length = n := by simp [longK]

theorem u8s_snoc (n : Nat) : u8s (List.replicate n 120) ++ [Value.int .u8 120] = u8s (List.replicate (n + 1) 120) := by
  simp [u8s, List.replicate_succ']

set_option maxHeartbeats 1000000 in
theorem long_own (n : Nat) (b : Int) (w : World) (hn : n ≤ 70000) :
    Calls Try.prog 35 #[.int .i64 n, .int .u8 b] w fun e w' => ∃ v, e = .returned v ∧ w'.ownsRow w.heap.size 5 1 v n (u8s (longK n b)) ∧ Below w.heap.size w w' := by
  go_enter Try.func35, Try.ntmps35
  go_wp2_with fail
  go_loopw [5, 6] (fun v i wr => ∃ k : Nat, i = .int .i64 k ∧ k ≤ n ∧ wr.ownsRow w.heap.size 5 1 v k (u8s (List.replicate k 120)) ∧ Below w.heap.size w wr) (fun _ i _ => n - (intOf i).toNat)
  case atStart => exact ⟨0, rfl, by omega, World.ownsRow_nil _ _ _ _, Below.refl _ _⟩
  case round =>
    obtain ⟨k, rfl, hk, ho, hb⟩ := hrel
    have O := hide ho
    have F := hide hb
    clear ho hb
    by_cases hkn : k < n
    · rename_i v _ _
      obtain ⟨v', w', r, o', g', b', _⟩ := append1_u8 wr w.heap.size _ k _ 120 O.out (by omega) F.out.size
      have O' := hide o'
      have F' : Hid (Below w.heap.size w w') := F.out.grown g' F.out.size (fun j hj => (O.out.lt j hj).1)
      clear o' g' b'
      go_wp2_with (at_builtin; refine wpList_append_run rfl _ _ _ _ rfl _ _ _ _ rfl rfl r ?_)
      go_roundw
      case rel => exact ⟨k + 1, by go_num, by omega, by rw [← u8s_snoc]; exact O'.out, F'.out⟩
      case measure => simp [intOf]; omega
    · obtain rfl : k = n := by omega
      rcases Nat.eq_zero_or_pos k with h0 | h1
      · subst h0
        obtain ⟨av, cv, hv⟩ := owns_slice' O.out
        have HV := hide hv
        clear hv
        rw [HV.out] at O ⊢
        go_wp2
        go_ret
        exact ⟨_, rfl, O.out, F.out⟩
      obtain ⟨g, cap, hv, hg1, hg2⟩ := O.out.form h1
      have hv' := hide hv
      clear hv
      rw [hv'.out] at O ⊢
      have hc := O.out.cellAt (k - 1) (by omega)
      rw [u8s_get _ _ (by simp; omega)] at hc
      have hf := O.out.frozenAt (k - 1)
      have hst := O.out.stored (k - 1) (.int .u8 b)
      have HS := hide hst
      clear hst hkn
      generalize (List.replicate k (120 : Int)).getD (k - 1) 0 = q at *
      go_wp2
      go_ret
      refine ⟨_, rfl, ?_, F.out.setCell hg1 _⟩
      have h := HS.out.1
      have e : (u8s (List.replicate k 120)).set (k - 1) (.int .u8 b) = u8s (longK k b) := by simp [u8s, longK, List.map_set]
      rw [e] at h
      exact h

theorem longK_bytes (n : Nat) (b : Int) (hb : 0 ≤ b ∧ b ≤ 255) : IsBytes (longK n b) := by
  intro x hx
  rcases List.mem_or_eq_of_mem_set hx with h | h
  · simp at h; omega
  · omega


theorem long_any (n : Nat) (b : Int) (w : World) (hn : n ≤ 70000) :
    Calls Try.prog 35 #[.int .i64 n, .int .u8 b] w fun e w' => ∃ a c, e = .returned (.slice a n c) ∧ w'.ownsRow w.heap.size 5 1 (.slice a n c) n (u8s (longK n b)) ∧ Below w.heap.size w w' := by
  refine (long_own n b w hn).mono ?_
  rintro e w' ⟨v, rfl, o, f⟩
  obtain ⟨a, c, rfl⟩ := owns_slice' o
  exact ⟨a, c, rfl, o, f⟩
end Go.Proofs.Ytahlbebkcoofkaa
