/- Mask.below: those of a mask that lie below a number. -/
import Derived.Test.YtmogjhljmljpfaaDoorMask
import Derived.Deep.RegionWith
namespace Go.Proofs.YtmogjhljmljpfaaDoor
set_option maxRecDepth 20000
open Go.RowKit

/-- The first k of the four numbers cut to what lies below n. -/
def cutTo (m : List Nat) (n : Int) (k : Nat) : List Nat := m.mapIdx fun i x => if i < k then x &&& ones (n - i * 64) else x
def bl (m : List Nat) (n : Int) : List Nat := cutTo m n 4
theorem cutTo_len (m : List Nat) (n : Int) (k : Nat) : (cutTo m n k).length = m.length := by simp [cutTo]
theorem cutTo_get (m : List Nat) (n : Int) (k i : Nat) (h : i < m.length) : (cutTo m n k).getD i 0 = if i < k then m.getD i 0 &&& ones (n - i * 64) else m.getD i 0 := by
  simp [cutTo, h]
theorem cutTo_set (m : List Nat) (n : Int) (k : Nat) (h : k < m.length) : (cutTo m n k).set k (m.getD k 0 &&& ones (n - k * 64)) = cutTo m n (k + 1) := by
  apply List.ext_getElem
  · simp [cutTo]
  · intro i h1 h2
    simp only [cutTo, List.length_set, List.length_mapIdx] at h1
    by_cases e : i = k
    · subst e; simp [cutTo, h]
    · rw [List.getElem_set_ne (by omega)]
      simp only [cutTo, List.getElem_mapIdx]
      by_cases hi : i < k
      · rw [if_pos hi, if_pos (by omega)]
      · rw [if_neg hi, if_neg (by omega)]

theorem cutTo_zero (m : List Nat) (n : Int) : cutTo m n 0 = m := by
  apply List.ext_getElem
  · simp [cutTo]
  · intro i h1 h2; simp [cutTo]

theorem Blk.to {w : World} {g g' : Nat} {e : TypeId} {cur : List Value} (h : Blk w g e cur) (hg : g = g') : Blk w g' e cur := hg ▸ h

theorem list4 {α : Type} (l : List α) (h : l.length = 4) : ∃ a b c d, l = [a, b, c, d] := by
  match l, h with
  | [a, b, c, d], _ => exact ⟨a, b, c, d, rfl⟩
theorem Blk.cells4 {w : World} {g : Nat} {e : TypeId} {a b c d : Value} (h : Blk w g e [a, b, c, d]) : w.cell? ⟨g, 0, none⟩ = some a ∧ w.cell? ⟨g, 1, none⟩ = some b ∧ w.cell? ⟨g, 2, none⟩ = some c ∧ w.cell? ⟨g, 3, none⟩ = some d :=
  ⟨h.cell 0, h.cell 1, h.cell 2, h.cell 3⟩
theorem Blk.frozen4 {w : World} {g : Nat} {e : TypeId} {l : List Value} (h : Blk w g e l) : w.frozen? ⟨g, 0, none⟩ = false ∧ w.frozen? ⟨g, 1, none⟩ = false ∧ w.frozen? ⟨g, 2, none⟩ = false ∧ w.frozen? ⟨g, 3, none⟩ = false :=
  ⟨h.frozen 0, h.frozen 1, h.frozen 2, h.frozen 3⟩
abbrev z4 : List Value := [.int .u64 0, .int .u64 0, .int .u64 0, .int .u64 0]

set_option maxHeartbeats 2000000 in
theorem below_any (m : List Nat) (hm : Ok m) (n : Int) (hn : -9223372036854775808 ≤ n ∧ n ≤ 9223372036854775807) (w : World) :
    Calls Tryd.prog 46 #[mv m, .int .i64 n] w fun e w' => e = .returned (mv (bl m (max n 0))) ∧ Below w.heap.size w w' := by
  have hl := hm.len
  have hlt := hide hm.lt
  have B0 := hide ((Blk.new w 48 (u64s m) _ rfl).alloc (.cells #[.int .u64 0, .int .u64 0, .int .u64 0, .int .u64 0] 48 (0, 0)))
  have B1 := hide ((Blk.new (w.alloc (.cells (u64s m).toArray 48 (0, 0))) 48 z4 #[.int .u64 0, .int .u64 0, .int .u64 0, .int .u64 0] rfl).to (show _ = w.heap.size + 1 by simp))
  have F0 := hide (Below.alloc (Below.alloc (Below.refl w.heap.size w) (Nat.le_refl _) (.cells (u64s m).toArray 48 (0, 0))) (by simp) (.cells #[.int .u64 0, .int .u64 0, .int .u64 0, .int .u64 0] 48 (0, 0)))
  go_enter Tryd.func46, Tryd.ntmps46
  go_wp2
  case inl =>
    generalize ((w.alloc (.cells (u64s m).toArray 48 (0, 0))).alloc (.cells #[.int .u64 0, .int .u64 0, .int .u64 0, .int .u64 0] 48 (0, 0))) = w2 at *
    go_loopw [8] (fun v wr => ∃ k : Nat, v = .int .i64 k ∧ k ≤ 4 ∧ Blk wr w.heap.size 48 (u64s (cutTo m 0 k)) ∧ Blk wr (w.heap.size + 1) 48 z4 ∧ Below w.heap.size w wr) (fun v _ => 4 - (intOf v).toNat)
    case atStart => exact ⟨0, rfl, by omega, by rw [cutTo_zero]; exact B0.out, B1.out, F0.out⟩
    case round =>
      obtain ⟨k, rfl, hk, b0, b1, f0⟩ := hrel
      have Q0 := hide b0
      have Q1 := hide b1
      have QF := hide f0
      clear b0 b1 f0
      by_cases h1 : k < 4
      · have hki : (k : Int) < 4 := by omega
        have hkj : (0 : Int) ≤ (k : Int) := by omega
        have c1 : wr.cell? ⟨w.heap.size, k, none⟩ = some (.int .u64 (m.getD k 0 : Int)) := by
          rw [Q0.out.cell, u64s_get _ _ (by rw [cutTo_len]; omega), cutTo_get _ _ _ _ (by omega), if_neg (by omega)]
        have z1 : wr.frozen? ⟨w.heap.size, k, none⟩ = false := Q0.out.frozen _
        have HX := hide (hlt.out k)
        have HS := hide (cutTo_set m 0 k (by omega))
        generalize m.getD k 0 = x at *
        have hs0 : IntKind.i64.wrap ((k : Int) * 64) = (k : Int) * 64 := by rw [IntKind.wrap_i64]; omega
        have hs2 : -9223372036854775808 ≤ -((k : Int) * 64) ∧ -((k : Int) * 64) ≤ 9223372036854775807 := by omega
        have hs1 : IntKind.i64.wrap (-((k : Int) * 64)) = -((k : Int) * 64) := by rw [IntKind.wrap_i64]; omega
        go_wp2
        go_region_with (go_at_call 50; refine (low_any _ ?_ _).mono ?_; exact hs2; rintro e w5 ⟨rfl, rfl⟩)
        all_goals (
          go_wp2
          go_roundw
          case measure => simp only [intOf]; omega
          case rel =>
            refine ⟨k + 1, by go_num, by omega, ?_, ?_, ?_⟩
            · have b := Q0.out.set k (Value.int .u64 (bits BinOp.and IntKind.u64 (x : Int) (ones (-((k : Int) * 64)) : Int)))
              have e : (u64s (cutTo m 0 k)).set k (Value.int .u64 (bits BinOp.and IntKind.u64 (x : Int) (ones (-((k : Int) * 64)) : Int))) = u64s (cutTo m 0 (k + 1)) := by
                rw [bits_and_u64_nat _ _ HX.out (ones_lt _), u64s_set, show -((k : Int) * 64) = 0 - (k : Int) * 64 by omega, HS.out]
              rw [e] at b
              exact b.drew
            · exact (Q1.out.only ((Only.refl w.heap.size wr).setCell k _) (by omega)).drew
            · exact Below.drew (Below.setCell QF.out (Nat.le_refl _) _))
      · obtain rfl : k = 4 := by omega
        have HB : Hid (bl m (max n 0) = cutTo m 0 4) := by unfold bl; rw [show max n 0 = 0 by omega]; rfl
        obtain ⟨y0, y1, y2, y3, ey⟩ := list4 (cutTo m 0 4) (by rw [cutTo_len]; exact hl)
        rw [ey] at HB Q0
        obtain ⟨c0, c1, c2, c3⟩ := Q0.out.cells4
        obtain ⟨d0, d1, d2, d3⟩ := Q1.out.cells4
        obtain ⟨z0, z1, z2, z3⟩ := Q1.out.frozen4
        clear ey
        go_wp2
        refine bodyPost_ret (v := .agg #[.int .u64 y0, .int .u64 y1, .int .u64 y2, .int .u64 y3]) ?_ rfl ⟨by rw [HB.out]; rfl, ?_⟩
        · have Bf : Blk _ (w.heap.size + 1) 48 [.int .u64 y0, .int .u64 y1, .int .u64 y2, .int .u64 y3] := (((Q1.out.set 0 (.int .u64 y0)).set 1 (.int .u64 y1)).set 2 (.int .u64 y2)).set 3 (.int .u64 y3)
          obtain ⟨f0, f1, f2, f3⟩ := Bf.cells4
          simp [results, Tryd.results46, go_sem, f0, f1, f2, f3]
        · exact Below.setCell (Below.setCell (Below.setCell (Below.setCell QF.out (by simp) _) (by simp) _) (by simp) _) (by simp) _
  case inr =>
    generalize ((w.alloc (.cells (u64s m).toArray 48 (0, 0))).alloc (.cells #[.int .u64 0, .int .u64 0, .int .u64 0, .int .u64 0] 48 (0, 0))) = w2 at *
    go_loopw [8] (fun v wr => ∃ k : Nat, v = .int .i64 k ∧ k ≤ 4 ∧ Blk wr w.heap.size 48 (u64s (cutTo m n k)) ∧ Blk wr (w.heap.size + 1) 48 z4 ∧ Below w.heap.size w wr) (fun v _ => 4 - (intOf v).toNat)
    case atStart => exact ⟨0, rfl, by omega, by rw [cutTo_zero]; exact B0.out, B1.out, F0.out⟩
    case round =>
      obtain ⟨k, rfl, hk, b0, b1, f0⟩ := hrel
      have Q0 := hide b0
      have Q1 := hide b1
      have QF := hide f0
      clear b0 b1 f0
      by_cases h1 : k < 4
      · have hki : (k : Int) < 4 := by omega
        have hkj : (0 : Int) ≤ (k : Int) := by omega
        have c1 : wr.cell? ⟨w.heap.size, k, none⟩ = some (.int .u64 (m.getD k 0 : Int)) := by
          rw [Q0.out.cell, u64s_get _ _ (by rw [cutTo_len]; omega), cutTo_get _ _ _ _ (by omega), if_neg (by omega)]
        have z1 : wr.frozen? ⟨w.heap.size, k, none⟩ = false := Q0.out.frozen _
        have HX := hide (hlt.out k)
        have HS := hide (cutTo_set m n k (by omega))
        generalize m.getD k 0 = x at *
        have hs0 : IntKind.i64.wrap ((k : Int) * 64) = (k : Int) * 64 := by rw [IntKind.wrap_i64]; omega
        have hs2 : -9223372036854775808 ≤ n - (k : Int) * 64 ∧ n - (k : Int) * 64 ≤ 9223372036854775807 := by omega
        have hs1 : IntKind.i64.wrap (n - (k : Int) * 64) = n - (k : Int) * 64 := by rw [IntKind.wrap_i64]; omega
        go_wp2
        go_region_with (go_at_call 50; refine (low_any _ ?_ _).mono ?_; exact hs2; rintro e w5 ⟨rfl, rfl⟩)
        all_goals (
          go_wp2
          go_roundw
          case measure => simp only [intOf]; omega
          case rel =>
            refine ⟨k + 1, by go_num, by omega, ?_, ?_, ?_⟩
            · have b := Q0.out.set k (Value.int .u64 (bits BinOp.and IntKind.u64 (x : Int) (ones (n - (k : Int) * 64) : Int)))
              have e : (u64s (cutTo m n k)).set k (Value.int .u64 (bits BinOp.and IntKind.u64 (x : Int) (ones (n - (k : Int) * 64) : Int))) = u64s (cutTo m n (k + 1)) := by
                rw [bits_and_u64_nat _ _ HX.out (ones_lt _), u64s_set, HS.out]
              rw [e] at b
              exact b.drew
            · exact (Q1.out.only ((Only.refl w.heap.size wr).setCell k _) (by omega)).drew
            · exact Below.drew (Below.setCell QF.out (Nat.le_refl _) _))
      · obtain rfl : k = 4 := by omega
        have HB : Hid (bl m (max n 0) = cutTo m n 4) := by unfold bl; rw [show max n 0 = n by omega]; rfl
        obtain ⟨y0, y1, y2, y3, ey⟩ := list4 (cutTo m n 4) (by rw [cutTo_len]; exact hl)
        rw [ey] at HB Q0
        obtain ⟨c0, c1, c2, c3⟩ := Q0.out.cells4
        obtain ⟨d0, d1, d2, d3⟩ := Q1.out.cells4
        obtain ⟨z0, z1, z2, z3⟩ := Q1.out.frozen4
        clear ey
        go_wp2
        refine bodyPost_ret (v := .agg #[.int .u64 y0, .int .u64 y1, .int .u64 y2, .int .u64 y3]) ?_ rfl ⟨by rw [HB.out]; rfl, ?_⟩
        · have Bf : Blk _ (w.heap.size + 1) 48 [.int .u64 y0, .int .u64 y1, .int .u64 y2, .int .u64 y3] := (((Q1.out.set 0 (.int .u64 y0)).set 1 (.int .u64 y1)).set 2 (.int .u64 y2)).set 3 (.int .u64 y3)
          obtain ⟨f0, f1, f2, f3⟩ := Bf.cells4
          simp [results, Tryd.results46, go_sem, f0, f1, f2, f3]
        · exact Below.setCell (Below.setCell (Below.setCell (Below.setCell QF.out (by simp) _) (by simp) _) (by simp) _) (by simp) _

end Go.Proofs.YtmogjhljmljpfaaDoor
