/- The document's Handles; what Take answers, of both. -/
import Derived.Test.YtjbpffeembepcaaRefG5
namespace Go.Proofs.Ytjbpffeembepcaa
open Go.RowKit
set_option linter.unusedVariables false
set_option linter.unusedSimpArgs false

theorem hasR_taken {rs : List RowR} {cs : Cells} (h : absR rs = none :: cs) (k : Nat) : hasR rs (k + 1) = takenAt cs k := by
  have e : (absR rs)[k + 1]? = cs[k]? := by rw [h]; simp
  rw [absR_get] at e
  unfold hasR takenAt
  rw [← e]
  cases rs[k + 1]? with
  | none => rfl
  | some r => rcases r with _ | ⟨v, ws⟩ <;> rfl
set_option maxRecDepth 20000 in
set_option maxHeartbeats 3200000 in
theorem r_handles {K : Nat → Prop} {w : World} {g : Nat} {most : Int} {cs : Cells} {back : List Nat} (A : Rf K w g most cs back) :
    Calls Try.prog 26 #[.pointer (some ⟨g, 0, none⟩)] w fun e w' => ∃ a cap, e = .returned (.slice a (hOf cs cs.length).length cap) ∧ w'.ownsRow w.heap.size 28 1 (.slice a (hOf cs cs.length).length cap) (hOf cs cs.length).length (u32s (hOf cs cs.length)) ∧ Kp (fun k => k < w.heap.size) w w' := by
  obtain ⟨rs, h1, ⟨k0, vc, vb, ac, k1⟩, G⟩ := A
  have hlr := absR_len h1
  have hlen := G.len
  have hlim := G.lim
  obtain ⟨gc, capv, rfl⟩ := owns_slice ac.rows (by omega)
  have TK := hide (fun k => hasR_taken h1 k)
  have AC := hide ac
  have hfit : rs.length ≤ 1048577 := by omega
  clear ac k1 k0 G h1 hlen hlim
  go_enter Try.func26, Try.ntmps26
  go_wp2_with fail
  go_loopw [3, 4] (fun v3 v wr => ∃ (k : Nat) (a : Option Addr) (cap : Nat), v3 = .slice a (hOf cs k).length cap ∧ v = .int .i64 ((k : Int) + 1) ∧ k + 1 ≤ rs.length ∧ wr.ownsRow w.heap.size 28 1 (.slice a (hOf cs k).length cap) (hOf cs k).length (u32s (hOf cs k)) ∧ Kp (fun k => k < w.heap.size) w wr) (fun _ v _ => rs.length - (intOf v).toNat)
  case atStart => exact ⟨0, none, 0, rfl, rfl, by omega, World.ownsRow_nil _ _ _ _, Kp.refl _ _⟩
  case round =>
    obtain ⟨k, a, cap, rfl, rfl, hk, ho, hkp⟩ := hrel
    have O3 := hide ho
    have K3 := hide hkp
    clear ho hkp
    have C3 : RfC wr g most rs back (.slice (some ⟨gc, 0, none⟩) rs.length capv) vb := AC.out.same (fun q hq => K3.out.block q (AC.out.lt hq) (AC.out.lt hq))
    have c0 : wr.cell? ⟨g, 0, none⟩ = some (.slice (some ⟨gc, 0, none⟩) rs.length capv) := C3.blk.cell 0
    by_cases hkr : k + 1 < rs.length
    · obtain ⟨r, hr⟩ : ∃ r, rs[k + 1]? = some r := ⟨_, List.getElem?_eq_getElem hkr⟩
      have z1 : wr.cell? ⟨gc, (k + 1) * 2 + 1, none⟩ = some (.bool (takenAt cs k)) := by
        rw [C3.rows.cellAt ((k + 1) * 2 + 1) (by omega), flatR_get rs (k + 1) r 1 hr (by omega), ← TK.out k]
        unfold hasR
        rw [hr]
        rcases r with _ | ⟨v, ws⟩ <;> rfl
      clear C3 hr
      have e5 : (k : Int) + 1 < (rs.length : Int) := by omega
      have e6 : 0 ≤ (k : Int) + 1 := by omega
      have e7 : ((k : Int) + 1).toNat = k + 1 := by omega
      have e8 : wrap64 ((k : Int) + 1 + 1) = (k : Int) + 1 + 1 := wrap64_in _ (by omega)
      cases ht : takenAt cs k with
      | false =>
        rw [ht] at z1
        have hh : hOf cs (k + 1) = hOf cs k := by rw [hOf, ht]; simp
        have HH := hide hh
        clear hh ht
        go_wp2_with fail
        go_roundw
        case measure => simp only [intOf]; omega
        case rel => exact ⟨k + 1, a, cap, by rw [HH.out], by go_num, by omega, by rw [HH.out]; exact O3.out, K3.out⟩
      | true =>
        rw [ht] at z1
        have hh : hOf cs (k + 1) = hOf cs k ++ [k + 1] := by rw [hOf, ht]; simp
        have hkl := hOf_le cs k
        have hwz := K3.out.size
        obtain ⟨a', cap', w5, r5, o5, g5, hv5⟩ := append_u32 wr w.heap.size _ (hOf cs k) ((k : Int) + 1) (k + 1) (by omega) O3.out (by omega) (by omega)
        have K5 : Hid (Kp (fun k => k < w.heap.size) w w5) := (K3.out.alloc _).grown g5 (fun b hb hlt => by have := (O3.out.lt b hb).1; omega)
        have O5 := hide o5
        have HH := hide hh
        have e1 : IntKind.u32.wrap ((k : Int) + 1) = (k : Int) + 1 := by rw [IntKind.wrap_u32]; omega
        have e2 : ((k : Int) + 1) % 4294967296 = (k : Int) + 1 := by omega
        clear o5 g5 hv5 ht hh
        go_wp2_with (at_builtin; refine wpList_append_run rfl _ _ _ _ rfl _ _ _ _ rfl rfl r5 ?_)
        go_roundw
        case measure => simp only [intOf]; omega
        case rel =>
          have hl : (hOf cs (k + 1)).length = (hOf cs k).length + 1 := by rw [HH.out]; simp
          refine ⟨k + 1, a', cap', by rw [hl], by go_num, by omega, ?_, K5.out⟩
          rw [hl, HH.out]
          have := O5.out
          simpa using this
    · obtain rfl : k = cs.length := by omega
      have e5 : ¬ ((cs.length : Int) + 1 < (rs.length : Int)) := by omega
      clear C3
      go_wp2_with fail
      go_ret
      exact ⟨a, cap, rfl, O3.out, K3.out⟩
end Go.Proofs.Ytjbpffeembepcaa
