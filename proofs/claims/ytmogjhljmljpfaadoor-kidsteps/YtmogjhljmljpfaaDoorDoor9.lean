/- The listed tables at a call's start. -/
import Derived.Test.YtmogjhljmljpfaaDoorRows
import Derived.Test.YtmogjhljmljpfaaDoorKd9
import Derived.Lib.LaidTab
import Derived.Lib.LaidU8
import Derived.LaidMore
import Derived.ProofKit
import Derived.OpenShut
namespace Go.Proofs.YtmogjhljmljpfaaDoor
set_option maxRecDepth 20000
open Go.ChangeShapes Go.WideShapes Go.ChangeAt Go.RowKit

theorem own : ownKnob Tryd.prog.godebug = none := by kernel_rfl
abbrev laid1 : List (String × DataW Unit) := [("math/bits.deBruijn64tab", Rows.laid_math_bits_deBruijn64tab), ("bramble/kid.rooms", Rows.laid_bramble_kid_rooms)]
theorem gTab : Tryd.prog.globalNamed "math/bits.deBruijn64tab" = some 1 := by kernel_rfl
theorem tTab : (Tryd.prog.globals[1]?).map (·.type) = some 70 := by kernel_rfl
theorem gRooms : Tryd.prog.globalNamed "bramble/kid.rooms" = some 0 := by kernel_rfl
theorem tRooms : (Tryd.prog.globals[0]?).map (·.type) = some 60 := by kernel_rfl
def tabZ : List Int := [0, 1, 56, 2, 57, 49, 28, 3, 61, 58, 42, 50, 38, 29, 17, 4, 62, 47, 59, 36, 45, 43, 51, 22, 53, 39, 33, 30, 24, 18, 12, 5, 63, 55, 48, 27, 60, 41, 37, 16, 46, 35, 44, 21, 52, 32, 23, 11, 54, 26, 40, 15, 34, 20, 31, 10, 25, 14, 19, 9, 13, 8, 7, 6]

/-- The door's own heap meets the condition: three closed facts. -/
theorem door_met (os : Os) (args : Array Value) : laidMetH Tryd.prog laid1 ((World.doorLaid Tryd.prog 400 os).forCall (fun _ _ => 0) ⟨#[], args, []⟩).memory :=
  laidMetH_of_parts3 (fuel := 8) (laidMet_of_run' 8 (by kernel_rfl) (by kernel_rfl)) (by kernel_rfl) (by kernel_rfl)

theorem tab_get : ∀ j, j < Lib.deBruijn64tab.length → tabZ.getD j 0 = ((Lib.deBruijn64tab.getD j 0 : Nat) : Int) := by decide +kernel

theorem room_cells : Tryd.prog.cellsOf 59 = 2 := by kernel_rfl
theorem room_fields : ∃ fs, Tryd.prog.underlying 59 = some (.struct fs) ∧ fs.size = 2 ∧ ∀ (i : Nat) (f : Field), fs[i]? = some f → Tryd.prog.underlying f.type = some (.int .i64) ∧ f.offset = i ∧ Tryd.prog.cellsOf f.type = 1 := by
  refine ⟨_, Tryd.underlying59, rfl, ?_⟩
  intro i f hf
  match i with
  | 0 => simp at hf; subst hf; exact ⟨by kernel_rfl, rfl, by kernel_rfl⟩
  | 1 => simp at hf; subst hf; exact ⟨by kernel_rfl, rfl, by kernel_rfl⟩
  | n + 2 => simp at hf
def roomZ (s : Nat) : List Int := [(mostN s : Int), fewN s]
theorem room_data : ∀ s, s < 4 → (([.agg [.lit (.int .i64 4), .lit (.int .i64 (-1))], .agg [.lit (.int .i64 16), .lit (.int .i64 3)], .agg [.lit (.int .i64 48), .lit (.int .i64 12)], .agg [.lit (.int .i64 256), .lit (.int .i64 40)]] : List (DataW Unit)))[s]? = some (.agg ((roomZ s).map fun z => .lit (.int .i64 z))) := by
  intro s hs
  match s, hs with
  | 0, _ => rfl
  | 1, _ => rfl
  | 2, _ => rfl
  | 3, _ => rfl
/-- What the condition gives the walks. -/
theorem of_laid {W : World} (h : laidMetH Tryd.prog laid1 W) : Tb W := by
  rw [MakeChecks.laidMetH_plain _ _ _ (by kernel_rfl)] at h
  have hT := Lib.tabIs_of_head (k := .u8) (zs := tabZ) gTab tTab Tryd.underlying70 Tryd.underlying5 (by kernel_rfl) (by kernel_rfl) h
  have t : Tab W := fun j hj => by
    rw [hT.cell gTab j hj, tab_get j hj]
  have h2 : 1 < W.heap.size := World.block_lt_of_cell? W _ (t 0 (by decide))
  refine ⟨t, ?_, by omega⟩
  obtain ⟨g, ty, cs, fuel, p, hg, hty, hv, hd⟩ := Lib.laidMet.reads h (.tail _ (.head _))
  obtain rfl := Option.some.inj (gRooms.symm.trans hg)
  obtain rfl := Option.some.inj (tRooms.symm.trans hty)
  intro s hs
  obtain ⟨fuel', d, q, hds, he⟩ := Lib.array_elem Tryd.underlying60 hd s hs
  rw [room_data s hs] at hds
  obtain rfl := Option.some.inj hds
  obtain ⟨fs, hu, hsz, hall⟩ := room_fields
  have hc := Lib.ints_of_struct hu hall (by rw [room_cells, hsz]) he
  rw [room_cells] at hc
  have g0 : cs[s * 2]? = some (.int .i64 (mostN s : Int)) := by
    have := congrArg (·[0]?) hc
    simpa [roomZ, List.getElem?_take, List.getElem?_drop] using this
  have g1 : cs[s * 2 + 1]? = some (.int .i64 (fewN s)) := by
    have := congrArg (·[1]?) hc
    simpa [roomZ, List.getElem?_take, List.getElem?_drop] using this
  exact ⟨(World.var?_cell gRooms hv (s * 2)).trans g0, (World.var?_cell gRooms hv (s * 2 + 1)).trans g1⟩
end Go.Proofs.YtmogjhljmljpfaaDoor
