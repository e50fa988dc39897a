/- Handles. -/
import Derived.Test.YtjbpffeembepcaaInts5
namespace Go.Proofs.Ytjbpffeembepcaa
open Go.RowKit
set_option linter.unusedVariables false

def takenAt (cs : Cells) (j : Nat) : Bool := (cs[j]?.join).isSome
/-- The handles of those that are taken among the first k. -/
def hOf (cs : Cells) : Nat → List Nat
  | 0 => []
  | k + 1 => hOf cs k ++ (if takenAt cs k then [k + 1] else [])
theorem hOf_le (cs : Cells) : ∀ k, (hOf cs k).length ≤ k
  | 0 => by simp [hOf]
  | k + 1 => by
    have := hOf_le cs k
    unfold hOf
    split <;> simp <;> omega

set_option maxRecDepth 20000 in
set_option maxHeartbeats 3200000 in
theorem a_handles {K : Nat → Prop} {w : World} {g : Nat} {most : Int} {cs : Cells} {back : List Nat} (A : Ar K w g most cs back) :
    Calls Try.prog 25 #[.pointer (some ⟨g, 0, none⟩)] w fun e w' => ∃ a cap, e = .returned (.slice a (hOf cs cs.length).length cap) ∧ w'.ownsRow w.heap.size 28 1 (.slice a (hOf cs cs.length).length cap) (hOf cs cs.length).length (u32s (hOf cs cs.length)) ∧ Kp (fun k => k < w.heap.size) w w' := by
  have V := a_live A
  have hfit := A.fit
  have hbl := A.good.blen
  obtain ⟨rs, h1, ⟨k0, vc, vb, ac, k1⟩, G⟩ := A
  obtain ⟨av, capv, rfl⟩ := owns_slice' ac.rows
  have hlr : cs.length = rs.length := by rw [← h1, absr_length]
  have tk : ∀ j r, rs[j]? = some r → takenAt cs j = r.isSome := by
    intro j r hr
    unfold takenAt
    rw [← h1, absr_get, hr]
    cases r <;> rfl
  have TK := hide tk
  have AC := hide ac
  have HV := hide V
  clear V ac k1 k0 G h1 tk
  obtain ⟨L, hL⟩ : ∃ L, L = cs.length - back.length := ⟨_, rfl⟩
  rw [← hL] at HV
  have hLf : L ≤ 1048576 := by omega
  clear hL hbl
  go_enter Try.func25, Try.ntmps25
  go_wp2_with fail
  refine HV.out.mono ?_
  rintro e w1 ⟨rfl, s1⟩
  have C1 := hide (AC.out.still s1)
  obtain ⟨i, i1, i2, i3, i4⟩ := info_u32
  obtain ⟨w2, r2, b2, f2, z2⟩ := run_make_blk (P := Try.prog) (w := w1) 47 28 i (.int .u32 0) Try.underlying47 i1 i2 i3 rfl .i64 .i64 0 (L : Int) 0 L rfl rfl (Nat.zero_le _) (by rw [i4]; omega) (by unfold maxLen; omega)
  have hs1 : w1.heap.size = w.heap.size := by obtain ⟨n, rfl⟩ := s1; rfl
  have C2 := hide (C1.out.same (w' := w2) (fun k hk => f2.block k (C1.out.lt hk)))
  have c1 : w2.cell? ⟨g, 1, none⟩ = some (.slice av rs.length capv) := C2.out.blk.cell 1
  have K2 : Hid (Kp (fun k => k < w.heap.size) w w2) := (s1.kp _).trans ((Kp.of_below f2).mono (fun k hk => by rw [hs1]; exact hk))
  have O2 : Hid (w2.ownsRow w.heap.size 28 1 (.slice (some ⟨w.heap.size, 0, none⟩) 0 L) 0 (u32s (hOf cs 0))) := by
    refine ⟨rfl, .inr ⟨w.heap.size, L, (List.replicate L (Value.int .u32 0)).toArray, rfl, Nat.le_refl _, ?_, Nat.zero_le _, by unfold maxLen; omega, ?_, rfl⟩⟩
    · rw [← hs1]; exact b2
    · simp
  rw [hs1] at r2
  clear s1 b2 f2 z2 i1 i2 i3 i4 C1
  go_wp2_with fail
  go_loopw [3, 16] (fun v3 v wr => ∃ (k : Nat) (a : Option Addr) (cap : Nat), v3 = .slice a (hOf cs k).length cap ∧ v = .int .i64 k ∧ k ≤ rs.length ∧ wr.ownsRow w.heap.size 28 1 (.slice a (hOf cs k).length cap) (hOf cs k).length (u32s (hOf cs k)) ∧ Kp (fun k => k < w.heap.size) w wr) (fun _ v _ => rs.length - (intOf v).toNat)
  case atStart => exact ⟨0, _, L, rfl, rfl, by omega, O2.out, K2.out⟩
  case round =>
    obtain ⟨k, a, cap, rfl, rfl, hk, ho, hkp⟩ := hrel
    have O3 := hide ho
    have K3 := hide hkp
    clear ho hkp
    by_cases hkr : k < rs.length
    · obtain ⟨r, hr⟩ : ∃ r, rs[k]? = some r := ⟨_, List.getElem?_eq_getElem hkr⟩
      have tk := TK.out k r hr
      have C3 : ArC wr g most rs back (.slice av rs.length capv) vb := AC.out.same (fun q hq => K3.out.block q (AC.out.lt hq) (AC.out.lt hq))
      obtain ⟨gc, capc, e⟩ := owns_slice C3.rows (by omega)
      simp only [Value.slice.injEq] at e
      obtain ⟨rfl, -, rfl⟩ := e
      have z0 := (C3.rows.cellAt (k * 2) (by omega)).trans (flat2_get rs k r 0 hr (by omega))
      have z1 := (C3.rows.cellAt (k * 2 + 1) (by omega)).trans (flat2_get rs k r 1 hr (by omega))
      clear C3 hr
      rcases r with _ | ⟨q, ws⟩
      · simp only [cell2] at z0 z1
        have hh : hOf cs (k + 1) = hOf cs k := by rw [hOf, tk]; simp
        go_wp2_with fail
        go_roundw
        case measure => simp only [intOf]; omega
        case rel =>
          refine ⟨k + 1, a, cap, by rw [hh], by go_num, by omega, ?_, K3.out.alloc _⟩
          rw [hh]
          exact owns_same O3.out (fun b hb => Below.heap_alloc wr _ b (O3.out.lt b hb).2)
      · simp only [cell2] at z0 z1
        have hh : hOf cs (k + 1) = hOf cs k ++ [k + 1] := by rw [hOf, tk]; simp
        have hkl := hOf_le cs k
        have hwz := K3.out.size
        obtain ⟨W, hW⟩ : ∃ W, W = wr.alloc (.cells #[.slice (some ⟨q, 0, none⟩) ws.length ws.length, .bool true] 67) := ⟨_, rfl⟩
        have hWs : W.heap.size = wr.heap.size + 1 := by rw [hW]; simp
        have o4 : W.ownsRow w.heap.size 28 1 (.slice a (hOf cs k).length cap) (hOf cs k).length (u32s (hOf cs k)) := by
          rw [hW]
          exact owns_same O3.out (fun b hb => Below.heap_alloc wr _ b (O3.out.lt b hb).2)
        have k4 : Kp (fun k => k < w.heap.size) w W := by rw [hW]; exact K3.out.alloc _
        obtain ⟨a', cap', w5, r5, o5, g5, hv5⟩ := append_u32 W w.heap.size _ (hOf cs k) ((k : Int) + 1) (k + 1) (by omega) o4 (by omega) (by omega)
        have K5 : Hid (Kp (fun k => k < w.heap.size) w w5) := (k4.alloc _).grown g5 (fun b hb hlt => by have := (o4.lt b hb).1; omega)
        have O5 := hide o5
        rw [hWs, hW] at r5
        have e1 : IntKind.u32.wrap ((k : Int) + 1) = (k : Int) + 1 := by rw [IntKind.wrap_u32]; omega
        have e2 : ((k : Int) + 1) % 4294967296 = (k : Int) + 1 := by omega
        clear o4 k4 o5 g5 hv5 hW hWs tk
        go_wp2_with (at_builtin; refine wpList_append_run rfl _ _ _ _ rfl _ _ _ _ rfl rfl r5 ?_)
        go_roundw
        case measure => simp only [intOf]; omega
        case rel =>
          have hl : (hOf cs (k + 1)).length = (hOf cs k).length + 1 := by rw [hh]; simp
          refine ⟨k + 1, a', cap', by rw [hl], by go_num, by omega, ?_, K5.out⟩
          rw [hl, hh]
          have := O5.out
          simpa using this
    · obtain rfl : k = rs.length := by omega
      go_wp2_with fail
      go_ret
      rw [hlr]
      exact ⟨a, cap, rfl, O3.out, K3.out⟩
end Go.Proofs.Ytjbpffeembepcaa
