/- mask.Of. -/
import Derived.Test.YtklakdhghmhapaaDoorSame4
namespace Go.Proofs.YtklakdhghmhapaaDoor
open Go.RowKit

/-- Bytes as integers; as cells. -/
def ints (xs : List Nat) : List Int := xs.map fun (x : Nat) => (x : Int)
theorem ints_len (xs : List Nat) : (ints xs).length = xs.length := by simp [ints]
theorem ints_getD (xs : List Nat) (i : Nat) : (ints xs).getD i 0 = ((xs.getD i 0 : Nat) : Int) := by
  simp only [ints, List.getD_eq_getElem?_getD, List.getElem?_map]
  cases xs[i]? <;> simp
def z0 : List Nat := [0, 0, 0, 0]
theorem z0_ok : Ok z0 := ⟨rfl, fun i => by
  match i with
  | 0 => decide
  | 1 => decide
  | 2 => decide
  | 3 => decide
  | n + 4 => simp [z0]⟩
def ofTo (xs : List Nat) (k : Nat) : List Nat := (xs.take k).foldl wth z0
def ofK (xs : List Nat) : List Nat := xs.foldl wth z0
theorem ofTo_succ (xs : List Nat) (k : Nat) (h : k < xs.length) : ofTo xs (k + 1) = wth (ofTo xs k) (xs.getD k 0) := by
  unfold ofTo
  rw [List.take_succ_eq_append_getElem h, List.foldl_append]
  simp [h]
theorem ofTo_all (xs : List Nat) : ofTo xs xs.length = ofK xs := by simp [ofTo, ofK]
theorem fold_ok (xs : List Nat) (hx : ∀ x ∈ xs, x < 256) : ∀ m, Ok m → Ok (xs.foldl wth m) := by
  induction xs with
  | nil => exact fun m h => h
  | cons x xs ih => exact fun m h => ih (fun y hy => hx y (by simp [hy])) _ (wth_ok m h x (hx x (by simp)))
theorem ofTo_ok (xs : List Nat) (hx : ∀ x ∈ xs, x < 256) (k : Nat) : Ok (ofTo xs k) := fold_ok _ (fun x h => hx x (List.mem_of_mem_take h)) _ z0_ok

set_option maxHeartbeats 4000000 in
theorem of_any (a : Option Addr) (xs : List Nat) (ca : Nat) (w : World) (hx : ∀ x ∈ xs, x < 256) (ha : Rd w a (ints xs)) :
    Calls Tryd.prog 24 #[.slice a xs.length ca] w fun e w' => e = .returned (mv (ofK xs)) ∧ Below w.heap.size w w' := by
  have hlen : xs.length ≤ 9223372036854775807 := by have := ha.2.1; rw [ints_len] at this; unfold maxLen at this; omega
  have HX := hide hx
  have HA := hide ha
  have HO := hide (ofTo_ok xs hx)
  have B0 := hide ((Blk.new w 24 z4 #[.int .u64 0, .int .u64 0, .int .u64 0, .int .u64 0] rfl).alloc (.cells #[.int .u64 0, .int .u64 0, .int .u64 0, .int .u64 0] 24 (0, 0)))
  have B1 := hide ((Blk.new (w.alloc (.cells #[.int .u64 0, .int .u64 0, .int .u64 0, .int .u64 0] 24 (0, 0))) 24 (u64s z0) #[.int .u64 0, .int .u64 0, .int .u64 0, .int .u64 0] rfl).to (show _ = w.heap.size + 1 by simp))
  have F0 := hide (Below.alloc (Below.alloc (Below.refl w.heap.size w) (Nat.le_refl _) (.cells #[.int .u64 0, .int .u64 0, .int .u64 0, .int .u64 0] 24 (0, 0))) (by simp) (.cells #[.int .u64 0, .int .u64 0, .int .u64 0, .int .u64 0] 24 (0, 0)))
  clear hx ha
  go_enter Tryd.func24, Tryd.ntmps24
  go_wp2
  generalize ((w.alloc (.cells #[.int .u64 0, .int .u64 0, .int .u64 0, .int .u64 0] 24 (0, 0))).alloc (.cells #[.int .u64 0, .int .u64 0, .int .u64 0, .int .u64 0] 24 (0, 0))) = w2 at *
  go_loopw [8] (fun v wr => ∃ k : Nat, v = .int .i64 k ∧ k ≤ xs.length ∧ Blk wr (w.heap.size + 1) 24 (u64s (ofTo xs k)) ∧ Blk wr w.heap.size 24 z4 ∧ Below w.heap.size w wr) (fun v _ => xs.length - (intOf v).toNat)
  case atStart => exact ⟨0, rfl, by omega, B1.out, B0.out, F0.out⟩
  case round =>
    obtain ⟨k, rfl, hk, b1, b0, f0⟩ := hrel
    have Q0 := hide b0
    have Q1 := hide b1
    have QF := hide f0
    clear b0 b1 f0
    by_cases h1 : k < xs.length
    · have hb : xs.getD k 0 < 256 := HX.out _ (by rw [List.getD_eq_getElem?_getD, List.getElem?_eq_getElem h1]; exact List.getElem_mem _)
      have R := HA.out.below QF.out (Nat.le_refl _)
      obtain ⟨ga, oa, rfl, hca⟩ : ∃ ga oa, a = some ⟨ga, oa, none⟩ ∧ wr.cell? ⟨ga, oa + k, none⟩ = some (.int .u8 ((xs.getD k 0 : Nat) : Int)) := by
        rcases R.2.2 with h | ⟨b, off, rfl, hc⟩
        · have : xs.length = 0 := by rw [← ints_len, h]; rfl
          omega
        · exact ⟨b, off, rfl, by rw [hc k (by rw [ints_len]; exact h1), ints_getD]⟩
      clear R
      have HS := hide (ofTo_succ xs k h1)
      have HK := hide (HO.out k)
      generalize ofTo xs k = cur at *
      generalize xs.getD k 0 = b at *
      have h4 : b / 64 < 4 := by omega
      have h4i : (b : Int) / 64 < 4 := by omega
      have h4j : 0 ≤ (b : Int) / 64 := by omega
      have h4k : ((b : Int) / 64).toNat = b / 64 := by omega
      have h4w : IntKind.u8.wrap ((b : Int) / 64) = (b : Int) / 64 := by rw [IntKind.wrap_u8]; omega
      have c1 : wr.cell? ⟨w.heap.size + 1, b / 64, none⟩ = some (.int .u64 (cur.getD (b / 64) 0 : Int)) := by
        rw [Q1.out.cell, u64s_get _ _ (by rw [HK.out.len]; omega)]
      have z1 : wr.frozen? ⟨w.heap.size + 1, b / 64, none⟩ = false := Q1.out.frozen _
      have HW : Hid (cur.set (b / 64) (cur.getD (b / 64) 0 ||| 2 ^ (b % 64)) = wth cur b) := rfl
      have HX2 := hide (HK.out.lt (b / 64))
      generalize cur.getD (b / 64) 0 = x at *
      go_wp2
      go_region_with (go_at_call 27; refine (bit_any _ hb _).mono ?_; rintro e w5 ⟨rfl, rfl⟩)
      all_goals (
        go_wp2
        go_roundw
        case measure => simp only [intOf]; omega
        case rel =>
          refine ⟨k + 1, by go_num, by omega, ?_, ?_, ?_⟩
          · have e : (u64s cur).set (b / 64) (Value.int .u64 (bits BinOp.or IntKind.u64 (x : Int) (2 ^ (b % 64)))) = u64s (ofTo xs (k + 1)) := by
              have ho := or_bit x (b % 64) HX2.out (Nat.mod_lt _ (by decide))
              simp only [Int.natCast_pow, Int.cast_ofNat_Int] at ho
              rw [ho, u64s_set, HW.out, HS.out]
            have b := Q1.out.set (b / 64) (Value.int .u64 (bits BinOp.or IntKind.u64 (x : Int) (2 ^ (b % 64))))
            rw [e] at b
            exact b.drew
          · exact (Q0.out.only ((Only.refl (w.heap.size + 1) wr).setCell (b / 64) _) (by omega)).drew
          · exact Below.drew (Below.setCell QF.out (by simp) _))
    · obtain rfl : k = xs.length := by omega
      rw [ofTo_all] at Q1
      have HB := hide (rfl : ofK xs = ofK xs)
      have HOK : Hid (Ok (ofK xs)) := by rw [← ofTo_all]; exact HO.out _
      obtain ⟨y0, y1, y2, y3, ey⟩ := list4 (ofK xs) HOK.out.len
      have EY := hide ey
      rw [ey] at Q1
      obtain ⟨c0, c1, c2, c3⟩ := Q1.out.cells4
      obtain ⟨d0, d1, d2, d3⟩ := Q0.out.cells4
      obtain ⟨z0, z1, z2, z3⟩ := Q0.out.frozen4
      clear ey
      go_wp2
      refine bodyPost_ret (v := .agg #[.int .u64 y0, .int .u64 y1, .int .u64 y2, .int .u64 y3]) ?_ rfl ⟨by rw [EY.out]; rfl, ?_⟩
      · have Bf : Blk _ w.heap.size 24 [.int .u64 y0, .int .u64 y1, .int .u64 y2, .int .u64 y3] := (((Q0.out.set 0 (.int .u64 y0)).set 1 (.int .u64 y1)).set 2 (.int .u64 y2)).set 3 (.int .u64 y3)
        obtain ⟨f0, f1, f2, f3⟩ := Bf.cells4
        simp [results, Tryd.results24, go_sem, f0, f1, f2, f3]
      · exact Below.setCell (Below.setCell (Below.setCell (Below.setCell QF.out (by simp) _) (by simp) _) (by simp) _) (by simp) _

end Go.Proofs.YtklakdhghmhapaaDoor
