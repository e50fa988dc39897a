/- Shared words for the walks: byte slices that are read, facts kept from the walk, small laws. No program here. -/
import Derived.WalkKit
import Derived.WalkSpells
import Derived.WalkLawsBesides
import Derived.BigQuiet
import Derived.Deep.QuietTactic
import Derived.Deep.Draws
import Derived.Laws.Bits128
import Derived.Laws.BytesArg
import Derived.Test.YtinogmjmmccfmaaKey
namespace Go.Proofs.Ytinogmjmmccfmaa
open Go.RowKit

theorem hide {p : Prop} (h : p) : Hid p := h

/-- The bytes xs lie where a slice at a begins. -/
def Rd (w : World) (a : Option Addr) (xs : List Int) : Prop :=
  IsBytes xs ∧ xs.length ≤ maxLen ∧
  (xs = [] ∨ ∃ b off, a = some ⟨b, off, none⟩ ∧ ∀ i, i < xs.length → w.cell? ⟨b, off + i, none⟩ = some (.int .u8 (xs.getD i 0)))

theorem Rd.drewN {w : World} {a : Option Addr} {xs : List Int} (h : Rd w a xs) (n : Nat) : Rd (w.drewN n) a xs := h
theorem Rd.drew {w : World} {a : Option Addr} {xs : List Int} (h : Rd w a xs) : Rd w.drew a xs := h
theorem Rd.nil (w : World) (a : Option Addr) : Rd w a [] := ⟨fun x h => by simp at h, by simp, .inl rfl⟩

/-- What a slice reads is as it was where all that was there is. -/
theorem Rd.below {B : Nat} {w w' : World} {a : Option Addr} {xs : List Int} (h : Rd w a xs) (hb : Below B w w') (hB : w.heap.size ≤ B) : Rd w' a xs := by
  obtain ⟨h1, h2, h3⟩ := h
  refine ⟨h1, h2, ?_⟩
  rcases h3 with h3 | ⟨b, off, ha, hc⟩
  · exact .inl h3
  · refine .inr ⟨b, off, ha, fun i hi => ?_⟩
    have := World.block_lt_of_cell? w _ (hc i hi)
    rw [hb.cell (p := ⟨b, off + i, none⟩) (by simp at this ⊢; omega)]
    exact hc i hi

/-- A beginning of what a slice reads. -/
theorem Rd.take {w : World} {a : Option Addr} {xs : List Int} (h : Rd w a xs) (n : Nat) : Rd w a (xs.take n) := by
  obtain ⟨h1, h2, h3⟩ := h
  refine ⟨fun x hx => h1 x (List.mem_of_mem_take hx), by have := List.length_take_le n xs; simp; omega, ?_⟩
  rcases h3 with h3 | ⟨b, off, ha, hc⟩
  · exact .inl (by simp [h3])
  · refine .inr ⟨b, off, ha, fun i hi => ?_⟩
    have hi' : i < n ∧ i < xs.length := by simpa [Nat.lt_min] using hi
    rw [hc i hi'.2]
    simp [hi'.1]

theorem ret_int {k : IntKind} {a b : Int} (h : a = b) : Ending.returned (.int k a) = .returned (.int k b) := by rw [h]
theorem ret_bool {a b : Bool} (h : a = b) : Ending.returned (.bool a) = .returned (.bool b) := by rw [h]

theorem i64_and1 (n : Int) : bits .and .i64 n 1 = n % 2 := by
  have h1 : (BitVec.ofInt 64 1).toNat = 2 ^ 1 - 1 := by decide
  have key : (BitVec.ofInt 64 n &&& BitVec.ofInt 64 1).toNat = (n % ((2 ^ 64 : Nat) : Int)).toNat % 2 ^ 1 := by
    rw [BitVec.toNat_and, BitVec.toNat_ofInt, h1, Nat.and_two_pow_sub_one_eq_mod]
  show IntKind.i64.wrap ((BitVec.ofInt 64 n &&& BitVec.ofInt 64 1).toNat : Nat) = n % 2
  rw [key, IntKind.wrap_i64]
  omega

theorem u8_and1 (x : Int) (h₀ : 0 ≤ x) (h₁ : x < 256) : bits .and .u8 x 1 = x % 2 := bits_mask .u8 8 (by decide) wraps_u8 1 (by decide) x h₀ h₁

theorem shr_bound (x : Int) (n : Nat) (h : 0 ≤ x ∧ x ≤ 255) : 0 ≤ x / 2 ^ n ∧ x / 2 ^ n ≤ 255 := by
  have hp : (0 : Int) < 2 ^ n := Int.pow_pos (by decide)
  refine ⟨Int.ediv_nonneg h.1 (Int.le_of_lt hp), ?_⟩
  have := Int.ediv_le_self (2 ^ n) h.1
  omega

theorem wrap64_in (x : Int) (h : -9223372036854775808 ≤ x ∧ x ≤ 9223372036854775807) : wrap64 x = x := by
  unfold wrap64; omega

theorem bit_low (x : Int) (n : Nat) (h : 0 ≤ x ∧ x ≤ 255) : bits .and .i64 (wrap64 (x / 2 ^ n)) 1 = x / 2 ^ n % 2 := by
  have := shr_bound x n h
  rw [i64_and1, wrap64_in _ (by omega)]

theorem bit_low8 (x : Int) (n : Nat) (h : 0 ≤ x ∧ x ≤ 255) : wrap64 (bits .and .u8 (x / 2 ^ n) 1) = x / 2 ^ n % 2 := by
  have := shr_bound x n h
  rw [u8_and1 _ (by omega) (by omega), wrap64_in _ (by omega)]

end Go.Proofs.Ytinogmjmmccfmaa
