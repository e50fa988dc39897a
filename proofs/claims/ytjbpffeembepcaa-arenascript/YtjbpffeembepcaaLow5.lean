/- Low; a list of handles that a law keeps beside an arena. -/
import Derived.Test.YtjbpffeembepcaaAwake5
namespace Go.Proofs.Ytjbpffeembepcaa
open Go.RowKit
set_option linter.unusedVariables false

def lowK (x m : Int) : Int := x % 18446744073709551616 % m
theorem lowK_range (x m : Int) (h : 0 < m) : 0 ≤ lowK x m ∧ lowK x m < m := ⟨Int.emod_nonneg _ (by omega), Int.emod_lt_of_pos _ h⟩
theorem low_is (x m : Int) (hm : 0 < m) (hm1 : m ≤ 9223372036854775807) : wrap64 ((IntKind.u64.wrap x).tmod m) = lowK x m := by
  have h := lowK_range x m hm
  have e : (IntKind.u64.wrap x).tmod m = lowK x m := by
    rw [IntKind.wrap_u64, Int.tmod_eq_emod_of_nonneg (Int.emod_nonneg _ (by decide))]
    rfl
  rw [e, wrap64_in _ (by omega)]
set_option maxHeartbeats 400000 in
theorem low_any (x m : Int) (h0 : -9223372036854775808 ≤ x) (h1 : x ≤ 9223372036854775807) (hm : 0 < m) (hm1 : m ≤ 9223372036854775807) (w : World) :
    Calls Try.prog 27 #[.int .i64 x, .int .i64 m] w fun e w' => e = .returned (.int .i64 (lowK x m)) ∧ w' = w := by
  go_enter Try.func27, Try.ntmps27
  go_wp2
  go_ret
  exact ⟨ret_int (low_is x m hm hm1), rfl⟩
/-- Low, its answer a natural number. -/
theorem low_nat (x : Int) (m : Nat) (h0 : -9223372036854775808 ≤ x) (h1 : x ≤ 9223372036854775807) (hm : 0 < m) (hm1 : m ≤ 1000000) : ∃ k : Nat, k < m ∧ k = (lowK x m).toNat ∧ ∀ w, Calls Try.prog 27 #[.int .i64 x, .int .i64 (m : Int)] w fun e w' => e = .returned (.int .i64 (k : Int)) ∧ w' = w := by
  have h := lowK_range x m (by omega)
  refine ⟨(lowK x m).toNat, by omega, rfl, fun w => ?_⟩
  refine (low_any x m h0 h1 (by omega) (by omega) w).mono ?_
  rintro e w' ⟨rfl, rfl⟩
  exact ⟨ret_int (by omega), rfl⟩

/-- What a law keeps: all that was there at first, and a list of its own. -/
def KB (B : Nat) (v : Value) (k : Nat) : Prop := k < B ∨ v.ownBlock = some k
theorem Ar.kpmore {K K' : Nat → Prop} {w w' : World} {g : Nat} {most : Int} {cs : Cells} {back : List Nat} (h : Ar K w g most cs back) (k : Kp K' w w') (hk : ∀ k, k < w.heap.size → ¬ K k → K' k) : Ar (fun k => K k ∨ w.heap.size ≤ k ∧ k < w'.heap.size) w' g most cs back := by
  obtain ⟨rs, e, ⟨h0, vc, vb, h1, h2⟩, G⟩ := h
  refine ⟨rs, e, ⟨?_, vc, vb, h1.same (fun b hb => k.block b (hk b (h1.lt hb) (h2 b hb)) (h1.lt hb)), ?_⟩, G⟩
  · rintro b (hb | hb)
    · exact Nat.lt_of_lt_of_le (h0 b hb) k.size
    · exact hb.2
  · rintro b hb (hn | hn)
    · exact h2 b hb hn
    · have := h1.lt hb
      omega
/-- The law's own list grows: the arena stands. -/
theorem Ar.app {B : Nat} {w w' : World} {g : Nat} {most : Int} {cs : Cells} {back : List Nat} {v v' : Value} {o : Obj} {e e' : TypeId} {n n' : Nat} {xs xs' : List Value} (h : Ar (KB B v) w g most cs back) (hB : B ≤ w.heap.size)
    (ow : w.ownsRow B e 1 v n xs) (gr : (w.alloc o).grownBy w' v.ownBlock) (hv : v'.ownBlock = v.ownBlock ∨ v'.ownBlock = some (w.heap.size + 1)) (ow' : w'.ownsRow B e' 1 v' n' xs') : Ar (KB B v') w' g most cs back ∧ Kp (fun k => k < B) w w' := by
  have k1 : Kp (fun k => v.ownBlock ≠ some k) w w' := ((Kp.refl _ w).alloc o).grown gr (fun k hk hn => hn hk)
  have A := h.kpmore k1 (fun k _ hk e => hk (.inr e))
  refine ⟨A.weaken ?_, k1.mono (fun k hk e => ?_)⟩
  · rintro k (hk | hk)
    · exact .inl (.inl hk)
    · rcases hv with hv | hv
      · exact .inl (.inr (hv ▸ hk))
      · refine .inr ⟨?_, (ow'.lt k hk).2⟩
        rw [hv] at hk
        simp at hk
        omega
  · have := (ow.lt k e).1
    omega
theorem KB.nil (B k : Nat) : KB B (.slice none 0 0) k ↔ k < B := by simp [KB, Value.ownBlock]
theorem Ar.kb0 {B : Nat} {w : World} {g : Nat} {most : Int} {cs : Cells} {back : List Nat} (h : Ar (fun k => k < B) w g most cs back) : Ar (KB B (.slice none 0 0)) w g most cs back := h.weaken (fun k hk => (KB.nil B k).1 hk)
theorem Kp.kb {B : Nat} {v : Value} {w w' : World} (h : Kp (KB B v) w w') : Kp (fun k => k < B) w w' := h.mono (fun k hk => .inl hk)
theorem owns_kb {B : Nat} {w w' : World} {base : Nat} {e : TypeId} {size : Nat} {v : Value} {n : Nat} {xs : List Value} (h : w.ownsRow base e size v n xs) (k : Kp (KB B v) w w') : w'.ownsRow base e size v n xs := owns_kp h k (fun b hb => .inr hb)

/-- append of one handle. -/
theorem append_u32 (w : World) (B : Nat) (v : Value) (hs : List Nat) (x : Int) (n : Nat) (hx : x = (n : Int)) (ow : w.ownsRow B 28 1 v hs.length (u32s hs)) (hl : hs.length ≤ 1048576) (hB : B ≤ w.heap.size) :
    ∃ a cap w', (Builtin.append_ #[47, 47] 47 #[v, .slice (some ⟨w.heap.size, 0, none⟩) 1 1]).run Try.prog (w.alloc (.cells #[.int .u32 x] 28)) = .ok (.slice a (hs.length + 1) cap) w' ∧
      w'.ownsRow B 28 1 (.slice a (hs.length + 1) cap) (hs ++ [n]).length (u32s (hs ++ [n])) ∧ (w.alloc (.cells #[.int .u32 x] 28)).grownBy w' v.ownBlock ∧ (Value.ownBlock (.slice a (hs.length + 1) cap) = v.ownBlock ∨ Value.ownBlock (.slice a (hs.length + 1) cap) = some (w.heap.size + 1)) := by
  subst hx
  obtain ⟨i, i1, i2, i3, i4⟩ := info_u32
  obtain ⟨v', w', r, o, gr, hv⟩ := append_lit (P := Try.prog) w B 47 28 i _ 1 4 Try.underlying47 i1 i2 i3 i4 rfl (by omega) v _ _ ow [.int .u32 (n : Int)] rfl (by
    intro u hu
    simp at hu
    subst hu
    rfl) (by omega) (by omega) hB
  obtain ⟨a, cap, rfl⟩ := owns_slice' o
  exact ⟨a, cap, w', r, by simpa [u32s] using o, gr, hv⟩

theorem wf_i64 {a : Int} (h : (Lit.int .i64 a).wf = true) : -9223372036854775808 ≤ a ∧ a ≤ 9223372036854775807 := by
  have e1 : IntKind.i64.min = -9223372036854775808 := by decide
  have e2 : IntKind.i64.max = 9223372036854775807 := by decide
  simp [Lit.wf, e1, e2] at h
  omega
theorem wf_u64 {a : Int} (h : (Lit.int .u64 a).wf = true) : 0 ≤ a ∧ a ≤ 18446744073709551615 := by
  have e1 : IntKind.u64.min = 0 := by decide
  have e2 : IntKind.u64.max = 18446744073709551615 := by decide
  simp [Lit.wf, e1, e2] at h
  omega
theorem wf_u32 {a : Int} (h : (Lit.int .u32 a).wf = true) : 0 ≤ a ∧ a ≤ 4294967295 := by
  have e1 : IntKind.u32.min = 0 := by decide
  have e2 : IntKind.u32.max = 4294967295 := by decide
  simp [Lit.wf, e1, e2] at h
  omega
end Go.Proofs.Ytjbpffeembepcaa
