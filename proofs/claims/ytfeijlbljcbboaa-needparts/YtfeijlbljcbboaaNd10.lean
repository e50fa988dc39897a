/- need: Put, Build; the document's Put; Low. -/
import Derived.Test.YtfeijlbljcbboaaRows
import Derived.Test.YtfeijlbljcbboaaKp
import Derived.Deep.Slices
import Derived.OpenShut
import Derived.ProofKit
namespace Go.Proofs.Ytfeijlbljcbboaa
set_option maxRecDepth 20000
open Go.RowKit Go.ChangeShapes Go.WideShapes
set_option linter.unusedVariables false
set_option linter.unusedSimpArgs false

def lowK (x m : Int) : Int := x % 18446744073709551616 % m
theorem lowK_range (x m : Int) (h : 0 < m) : 0 ≤ lowK x m ∧ lowK x m < m := ⟨Int.emod_nonneg _ (by omega), Int.emod_lt_of_pos _ h⟩
theorem low_is (x m : Int) (hm : 0 < m) (hm1 : m ≤ 9223372036854775807) : wrap64 ((IntKind.u64.wrap x).tmod m) = lowK x m := by
  have h := lowK_range x m hm
  have e : (IntKind.u64.wrap x).tmod m = lowK x m := by
    rw [IntKind.wrap_u64, Int.tmod_eq_emod_of_nonneg (Int.emod_nonneg _ (by decide))]
    rfl
  rw [e, wrap64_in _ (by omega)]
set_option maxHeartbeats 400000 in
theorem low_any (x m : Int) (h0 : -9223372036854775808 ≤ x) (h1 : x ≤ 9223372036854775807) (hm : 0 < m) (hm1 : m ≤ 9223372036854775807) (w : World) :
    Calls Try.prog 7 #[.int .i64 x, .int .i64 m] w fun e w' => e = .returned (.int .i64 (lowK x m)) ∧ w' = w := by
  go_enter Try.func7, Try.ntmps7
  go_wp2
  go_ret
  exact ⟨ret_int (low_is x m hm hm1), rfl⟩
theorem wf_i64 {a : Int} (h : (Lit.int .i64 a).wf = true) : -9223372036854775808 ≤ a ∧ a ≤ 9223372036854775807 := by
  have e1 : IntKind.i64.min = -9223372036854775808 := by decide
  have e2 : IntKind.i64.max = 9223372036854775807 := by decide
  simp [Lit.wf, e1, e2] at h
  omega
theorem cells_i : Try.prog.cellsOf 3 = 1 := by kernel_rfl
theorem add_plain' (b off i : Nat) : (⟨b, off, none⟩ : Addr).add i = ⟨b, off + i, none⟩ := by
  by_cases h : i = 0
  · subst h; rfl
  · simp [Addr.add, h]

/-- What a key of so many bytes may take. -/
def putF (tag long : Int) : Nat :=
  if long < 0 ∨ 65535 < long then 0 else if tag = 1 then 2 else if tag = 2 then long.toNat + 1 else if tag = 3 then 3 else if tag = 4 then 2 * long.toNat + 12 else 0
theorem putF_le (tag long : Int) : putF tag long ≤ 131082 := by
  unfold putF
  repeat' split
  all_goals omega
theorem putF_mono (tag a : Int) (h0 : 0 ≤ a) (h1 : a < 65535) : putF tag a ≤ putF tag (a + 1) := by
  unfold putF
  repeat' split
  all_goals omega

set_option maxHeartbeats 1600000 in
theorem put_any (tag long : Int) (w : World) :
    Calls Try.prog 8 #[.int .i64 tag, .int .i64 long] w fun e w' => e = .returned (.int .i64 (putF tag long)) ∧ w' = w := by
  go_enter Try.func8, Try.ntmps8
  by_cases h0 : long < 0
  · go_wp2
    go_ret
    exact ⟨ret_int (by simp [putF, h0]), rfl⟩
  by_cases h1 : 65535 < long
  · go_wp2
    go_ret
    exact ⟨ret_int (by simp [putF, h1]), rfl⟩
  by_cases t1 : tag = 1
  · subst t1
    go_wp2
    go_ret
    exact ⟨ret_int (by rw [putF, if_neg (by omega)]; simp), rfl⟩
  by_cases t2 : tag = 2
  · subst t2
    go_wp2
    go_ret
    exact ⟨ret_int (by rw [putF, if_neg (by omega)]; simp; first | done | (simp [wrap64]; omega) | omega), rfl⟩
  by_cases t3 : tag = 3
  · subst t3
    go_wp2
    go_ret
    exact ⟨ret_int (by rw [putF, if_neg (by omega)]; simp), rfl⟩
  by_cases t4 : tag = 4
  · subst t4
    go_wp2
    go_ret
    exact ⟨ret_int (by rw [putF, if_neg (by omega)]; simp; first | done | (simp [wrap64]; omega) | omega), rfl⟩
  go_wp2
  go_ret
  exact ⟨ret_int (by rw [putF, if_neg (by omega), if_neg t1, if_neg t2, if_neg t3, if_neg t4]; rfl), rfl⟩
set_option maxHeartbeats 1600000 in
theorem refput_any (tag long : Int) (w : World) :
    Calls Try.prog 6 #[.int .i64 tag, .int .i64 long] w fun e w' => e = .returned (.int .i64 (putF tag long)) ∧ w' = w := by
  go_enter Try.func6, Try.ntmps6
  by_cases h0 : long < 0
  · go_wp2
    go_ret
    exact ⟨ret_int (by simp [putF, h0]), rfl⟩
  by_cases h1 : 65535 < long
  · go_wp2
    go_ret
    exact ⟨ret_int (by simp [putF, h1]), rfl⟩
  by_cases t1 : tag = 1
  · subst t1
    go_wp2
    go_ret
    exact ⟨ret_int (by rw [putF, if_neg (by omega)]; simp), rfl⟩
  by_cases t2 : tag = 2
  · subst t2
    go_wp2
    go_ret
    exact ⟨ret_int (by rw [putF, if_neg (by omega)]; simp; first | done | (simp [wrap64]; omega) | omega), rfl⟩
  by_cases t3 : tag = 3
  · subst t3
    go_wp2
    go_ret
    exact ⟨ret_int (by rw [putF, if_neg (by omega)]; simp), rfl⟩
  by_cases t4 : tag = 4
  · subst t4
    go_wp2
    go_ret
    exact ⟨ret_int (by rw [putF, if_neg (by omega)]; simp; first | done | (simp [wrap64]; omega) | omega), rfl⟩
  go_wp2
  go_ret
  exact ⟨ret_int (by rw [putF, if_neg (by omega), if_neg t1, if_neg t2, if_neg t3, if_neg t4]; rfl), rfl⟩

/-- Of several. -/
def sumF (tag : Int) : List Int → Nat
  | [] => 0
  | x :: xs => putF tag x + sumF tag xs
theorem sumF_append (tag : Int) : ∀ xs ys, sumF tag (xs ++ ys) = sumF tag xs + sumF tag ys
  | [], ys => by simp [sumF]
  | x :: xs, ys => by simp [sumF, sumF_append tag xs ys]; omega
theorem sumF_le (tag : Int) : ∀ xs, sumF tag xs ≤ 131082 * xs.length
  | [] => by simp [sumF]
  | x :: xs => by
    have h1 := putF_le tag x
    have h2 := sumF_le tag xs
    simp only [sumF, List.length_cons]
    omega
theorem sumF_take (tag : Int) (xs : List Int) (k : Nat) (h : k < xs.length) : sumF tag (xs.take (k + 1)) = sumF tag (xs.take k) + putF tag (xs.getD k 0) := by
  rw [List.take_add_one, sumF_append]
  simp [List.getElem?_eq_getElem h, sumF]

/-- The numbers xs lie where a slice at a begins. -/
def Rn (w : World) (a : Option Addr) (xs : List Int) : Prop :=
  (∀ z ∈ xs, -9223372036854775808 ≤ z ∧ z ≤ 9223372036854775807) ∧ (xs = [] ∨ ∃ b off, a = some ⟨b, off, none⟩ ∧ ∀ i, i < xs.length → w.cell? ⟨b, off + i, none⟩ = some (.int .i64 (xs.getD i 0)))
theorem Rn.drewN {w : World} {a : Option Addr} {xs : List Int} (h : Rn w a xs) (n : Nat) : Rn (w.drewN n) a xs := h
theorem Rn.drew {w : World} {a : Option Addr} {xs : List Int} (h : Rn w a xs) : Rn w.drew a xs := h
theorem Rn.below {B : Nat} {w w' : World} {a : Option Addr} {xs : List Int} (h : Rn w a xs) (hb : Below B w w') (hB : w.heap.size ≤ B) : Rn w' a xs := by
  obtain ⟨h1, h3⟩ := h
  refine ⟨h1, ?_⟩
  rcases h3 with h3 | ⟨b, off, ha, hc⟩
  · exact .inl h3
  · refine .inr ⟨b, off, ha, fun i hi => ?_⟩
    have := World.block_lt_of_cell? w _ (hc i hi)
    rw [hb.cell (p := ⟨b, off + i, none⟩) (by simp at this ⊢; omega)]
    exact hc i hi
theorem Rn.still {w w' : World} {a : Option Addr} {xs : List Int} (h : Rn w a xs) (s : Still w w') : Rn w' a xs := by
  obtain ⟨n, rfl⟩ := s
  exact h
def i64s (xs : List Int) : List Value := xs.map (Value.int .i64)
theorem i64s_length (xs : List Int) : (i64s xs).length = xs.length := by simp [i64s]
theorem i64s_append (xs ys : List Int) : i64s (xs ++ ys) = i64s xs ++ i64s ys := by simp [i64s]
theorem i64s_one (xs : List Int) : ∀ u ∈ i64s xs, u.oneCell' = true := by
  intro u hu
  obtain ⟨x, _, rfl⟩ := List.mem_map.1 hu
  rfl
theorem i64s_get (xs : List Int) (i : Nat) (h : i < xs.length) : (i64s xs)[i]? = some (.int .i64 (xs.getD i 0)) := by
  simp [i64s, List.getElem?_map, List.getElem?_eq_getElem h]
theorem Rn.src {P : Program} {tx e' : TypeId} (hk : P.underlying tx = some (.slice e')) {w : World} {a : Option Addr} {xs : List Int} (h : Rn w a xs) (hm : xs.length ≤ maxLen) (c : Nat) :
    Src P 1 tx (.slice a xs.length c) xs.length (i64s xs) w := by
  obtain ⟨_, h3⟩ := h
  rcases h3 with rfl | ⟨b, off, rfl, hc⟩
  · cases a with
    | none => exact Src.ofNil w hk c
    | some x => exact Src.ofSlice w hk x 0 c [] rfl (fun j u hu => by simp at hu) (fun u hu => by simp at hu)
  · refine Src.ofSlice w hk ⟨b, off, none⟩ xs.length c (i64s xs) (by simp [i64s]) (fun j u hu => ?_) (i64s_one xs)
    have hj : j < xs.length := by
      rcases Nat.lt_or_ge j xs.length with h | h
      · exact h
      · rw [List.getElem?_eq_none (by simpa [i64s] using h)] at hu; cases hu
    rw [i64s_get xs j hj] at hu
    cases hu
    rw [add_plain']
    exact hc j hj
theorem owns_rn {w : World} {base : Nat} {e : TypeId} {v : Value} {n : Nat} {xs : List Int} (h : w.ownsRow base e 1 v n (i64s xs)) (hb : ∀ z ∈ xs, -9223372036854775808 ≤ z ∧ z ≤ 9223372036854775807) :
    ∃ a c, v = .slice a xs.length c ∧ Rn w a xs ∧ n = xs.length := by
  have hl : xs.length = n := by simpa [i64s] using h.1
  subst hl
  rcases h.2 with ⟨rfl, h0⟩ | ⟨g, cap, cur, rfl, hbg, hg, hnc, hcm, hcs, htake⟩
  · exact ⟨none, 0, by rw [h0], ⟨hb, .inl (List.eq_nil_of_length_eq_zero h0)⟩, rfl⟩
  · refine ⟨_, cap, rfl, ⟨hb, .inr ⟨g, 0, rfl, fun i hi => ?_⟩⟩, rfl⟩
    have := h.cellAt i (by omega)
    rw [i64s_get xs i hi] at this
    simpa using this
/-- The rest of a slice that is read. -/
theorem Rn.drop {w : World} {b off : Nat} {xs : List Int} (h : Rn w (some ⟨b, off, none⟩) xs) (k : Nat) : Rn w (some ⟨b, off + k, none⟩) (xs.drop k) := by
  refine ⟨fun z hz => h.1 z (List.mem_of_mem_drop hz), ?_⟩
  rcases h.2 with h0 | ⟨b', off', e, hc⟩
  · left; simp [h0]
  · obtain ⟨rfl, rfl⟩ : b = b' ∧ off = off' := by simpa using e
    refine .inr ⟨b, off + k, rfl, fun i hi => ?_⟩
    have := hc (k + i) (by simp at hi; omega)
    rw [← Nat.add_assoc] at this
    rw [this]
    simp
theorem Rn.take {w : World} {a : Option Addr} {xs : List Int} (h : Rn w a xs) (k : Nat) : Rn w a (xs.take k) := by
  refine ⟨fun z hz => h.1 z (List.mem_of_mem_take hz), ?_⟩
  rcases h.2 with h0 | ⟨b', off', e, hc⟩
  · left; simp [h0]
  · refine .inr ⟨b', off', e, fun i hi => ?_⟩
    have hi' : i < k ∧ i < xs.length := by simp at hi; omega
    rw [hc i hi'.2]
    simp [List.getD, hi'.1]


set_option maxHeartbeats 1600000 in
theorem build_same (tag : Int) (a : Option Addr) (xs : List Int) (c : Nat) (w : World) (h : Rn w a xs) (hl : xs.length ≤ 1000) :
    Calls Try.prog 9 #[.int .i64 tag, .slice a xs.length c] w fun e w' => e = .returned (.int .i64 (sumF tag xs)) ∧ w' = w := by
  go_enter Try.func9, Try.ntmps9
  go_wp2_with fail
  go_loopw [5, 10] (fun va vi wr => ∃ k : Nat, va = .int .i64 (sumF tag (xs.take k)) ∧ vi = .int .i64 k ∧ k ≤ xs.length ∧ wr = w) (fun _ vi _ => xs.length - (intOf vi).toNat)
  case atStart => exact ⟨0, by simp [sumF], rfl, by omega, rfl⟩
  case round =>
    obtain ⟨k, rfl, rfl, hk, rfl⟩ := hrel
    have HA := hide h
    by_cases h1 : k < xs.length
    · have hle := sumF_le tag (xs.take k)
      have hpl := putF_le tag (xs.getD k 0)
      have hsu := sumF_take tag xs k h1
      have hle2 : sumF tag (xs.take k) ≤ 131082 * 1000 := by
        have : (xs.take k).length ≤ 1000 := by simp; omega
        omega
      obtain ⟨b, off, rfl, hc⟩ : ∃ b off, a = some ⟨b, off, none⟩ ∧ ∀ i, i < xs.length → wr.cell? ⟨b, off + i, none⟩ = some (.int .i64 (xs.getD i 0)) := by
        rcases HA.out.2 with h0 | h0
        · rw [h0] at h1; simp at h1
        · exact h0
      have c0 : wr.cell? ⟨b, off + k, none⟩ = some (.int .i64 (xs.getD k 0)) := by
        exact hc k h1
      have HSU := hide hsu
      have P := put_any tag (xs.getD k 0)
      clear hc hle hsu
      generalize xs.getD k 0 = z at *
      generalize hp : putF tag z = pz at *
      generalize hq : sumF tag (xs.take k) = qz at *
      have HP := hide P
      have H0 := hide hp
      have H1 := hide hq
      clear P hp hq h HA
      go_wp2_with fail
      refine (HP.out _).mono ?_
      rintro e w2 ⟨rfl, rfl⟩
      go_wp2
      go_roundw
      case measure => simp only [intOf]; omega
      case rel => exact ⟨k + 1, by rw [HSU.out]; congr 1, by go_num, by omega, trivial⟩
    · obtain rfl : k = xs.length := by omega
      rw [List.take_length]
      go_wp2
      go_ret
      exact ⟨rfl, rfl⟩
theorem build_any (tag : Int) (a : Option Addr) (xs : List Int) (c : Nat) (w : World) (h : Rn w a xs) (hl : xs.length ≤ 1000) :
    Calls Try.prog 9 #[.int .i64 tag, .slice a xs.length c] w fun e w' => e = .returned (.int .i64 (sumF tag xs)) ∧ Still w w' :=
  (build_same tag a xs c w h hl).mono fun _ _ ⟨he, hw⟩ => ⟨he, 0, hw⟩
end Go.Proofs.Ytfeijlbljcbboaa
