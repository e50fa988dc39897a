/- Bytes as integers. -/
import Derived.Test.YtmogjhljmljpfaaDoorSame4
namespace Go.Proofs.YtmogjhljmljpfaaDoor
set_option maxRecDepth 20000
open Go.RowKit

/-- Bytes as integers; as cells. -/
def ints (xs : List Nat) : List Int := xs.map fun (x : Nat) => (x : Int)
theorem ints_len (xs : List Nat) : (ints xs).length = xs.length := by simp [ints]
theorem ints_getD (xs : List Nat) (i : Nat) : (ints xs).getD i 0 = ((xs.getD i 0 : Nat) : Int) := by
  simp only [ints, List.getD_eq_getElem?_getD, List.getElem?_map]
  cases xs[i]? <;> simp
def z0 : List Nat := [0, 0, 0, 0]
theorem z0_ok : Ok z0 := ⟨rfl, fun i => by
  match i with
  | 0 => decide
  | 1 => decide
  | 2 => decide
  | 3 => decide
  | n + 4 => simp [z0]⟩
end Go.Proofs.YtmogjhljmljpfaaDoor
