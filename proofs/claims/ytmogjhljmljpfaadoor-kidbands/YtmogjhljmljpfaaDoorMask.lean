/- The calls of package mask. -/
import Derived.Test.YtmogjhljmljpfaaDoorBitCalls
import Derived.Deep.RegionHeld3
import Derived.Deep.WholeRow
namespace Go.Proofs.YtmogjhljmljpfaaDoor
set_option maxRecDepth 20000
open Go.RowKit

/-- A mask's four numbers, as values. -/
def u64s (m : List Nat) : List Value := m.map fun (x : Nat) => Value.int .u64 (x : Int)
abbrev mv (m : List Nat) : Value := .agg (u64s m).toArray
theorem u64s_len (m : List Nat) : (u64s m).length = m.length := by simp [u64s]
theorem u64s_get (m : List Nat) (i : Nat) (h : i < m.length) : (u64s m)[i]? = some (.int .u64 (m.getD i 0 : Int)) := by
  simp [u64s, h]
theorem u64s_set (m : List Nat) (i x : Nat) : (u64s m).set i (.int .u64 (x : Int)) = u64s (m.set i x) := by simp [u64s, List.map_set]

theorem and_bit (x k : Nat) (hx : x < 18446744073709551616) (hk : k < 64) : (bits .and .u64 (x : Int) ((2 ^ k : Nat) : Int) != 0) = x.testBit k := by
  rw [bits_and_u64_nat _ _ hx (pow_lt k hk)]
  have e : x &&& 2 ^ k = if x.testBit k then 2 ^ k else 0 := by
    apply Nat.eq_of_testBit_eq
    intro i
    rw [Nat.testBit_and, Nat.testBit_two_pow]
    by_cases h : k = i
    · subst h
      by_cases hx : x.testBit k <;> simp [hx]
    · split <;> simp [h]
  rw [e]
  cases x.testBit k
  · simp
  · have : 0 < 2 ^ k := Nat.two_pow_pos k
    simp only [if_true]
    rw [bne_iff_ne]
    omega
theorem or_bit (x k : Nat) (hx : x < 18446744073709551616) (hk : k < 64) : bits .or .u64 (x : Int) ((2 ^ k : Nat) : Int) = ((x ||| 2 ^ k : Nat) : Int) := bits_or_u64_nat _ _ hx (pow_lt k hk)
theorem or_bit_lt (x k : Nat) (hx : x < 18446744073709551616) (hk : k < 64) : x ||| 2 ^ k < 18446744073709551616 := Nat.or_lt_two_pow (n := 64) hx (pow_lt k hk)
theorem ofInt_u64 (a : Nat) (ha : a < 18446744073709551616) : (BitVec.ofInt 64 (a : Int)).toNat = a := by
  rw [BitVec.ofInt_natCast, BitVec.toNat_ofNat]; exact Nat.mod_eq_of_lt ha
theorem bits_andNot_u64_nat (a b : Nat) (ha : a < 18446744073709551616) (hb : b < 18446744073709551616) : bits .andNot .u64 (a : Int) (b : Int) = ((a &&& (18446744073709551615 - b) : Nat) : Int) := by
  have hl : a &&& (18446744073709551615 - b) < 18446744073709551616 := Nat.and_lt_two_pow (n := 64) _ (by omega)
  show IntKind.u64.wrap ((BitVec.ofInt 64 (a : Int) &&& ~~~BitVec.ofInt 64 (b : Int)).toNat : Int) = _
  rw [BitVec.toNat_and, BitVec.toNat_not, ofInt_u64 a ha, ofInt_u64 b hb]
  have e : 2 ^ 64 - 1 - b = 18446744073709551615 - b := by omega
  rw [e, wrapU _ hl]
theorem andNot_bit (x k : Nat) (hx : x < 18446744073709551616) (hk : k < 64) : bits .andNot .u64 (x : Int) ((2 ^ k : Nat) : Int) = ((x &&& (18446744073709551615 - 2 ^ k) : Nat) : Int) := bits_andNot_u64_nat _ _ hx (pow_lt k hk)
theorem Below.drewN {B : Nat} {a w : World} (h : Below B a w) (n : Nat) : Below B a (w.drewN n) := ⟨h.os, h.tape, h.output, h.size, h.block⟩
structure Ok (m : List Nat) : Prop where
  len : m.length = 4
  lt : ∀ i, m.getD i 0 < 18446744073709551616

theorem has_any (m : List Nat) (hm : Ok m) (b : Nat) (hb : b < 256) (w : World) :
    Calls Tryd.prog 23 #[mv m, .int .u8 b] w fun e w' => e = .returned (.bool ((m.getD (b / 64) 0).testBit (b % 64))) ∧ Below w.heap.size w w' := by
  have hl := hm.len
  have hx := hm.lt (b / 64)
  have hg := u64s_get m (b / 64) (by omega)
  have HA := hide (and_bit _ (b % 64) hx (Nat.mod_lt _ (by decide)))
  generalize (m.getD (b / 64) 0) = x at *
  have hc : (w.alloc (.cells (u64s m).toArray 48 (0, 0))).cell? ⟨w.heap.size, b / 64, none⟩ = some (.int .u64 x) := by
    rw [(Blk.new w 48 (u64s m) _ rfl).cell, hg]
  clear hg
  have h4 : b / 64 < 4 := by omega
  go_enter Tryd.func23, Tryd.ntmps23
  go_wp2
  go_quiet (first | (go_at_call 40; refine Calls.quiet_of_same (bit_any _ hb _)))
  go_wp2
  go_ret
  exact ⟨ret_bool HA.out, Below.drewN ((Below.refl _ _).alloc (Nat.le_refl _) _) _⟩

end Go.Proofs.YtmogjhljmljpfaaDoor
