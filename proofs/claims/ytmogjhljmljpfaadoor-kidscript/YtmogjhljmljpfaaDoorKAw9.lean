/- What every program answers that is one (kid). -/
import Derived.Test.YtmogjhljmljpfaaDoorKs9
import Derived.Test.YtmogjhljmljpfaaDoorLow9
namespace Go.Proofs.YtmogjhljmljpfaaDoor
set_option maxRecDepth 20000
open Go.RowKit Go.Sort
set_option linter.unusedVariables false

/-- The first k bytes, each with 7. -/
def fillF (k : Nat) : Nat → Nat := fun b => if b < k then 7 else 0
theorem fill_upd (k : Nat) : upd (fillF k) k 7 = fillF (k + 1) := by
  funext b
  unfold upd fillF
  by_cases h : b = k
  · subst h; simp
  · rw [if_neg h]
    by_cases h2 : b < k
    · rw [if_pos h2, if_pos (by omega)]
    · rw [if_neg h2, if_neg (by omega)]
theorem fill0 : f0 = fillF 0 := by funext b; simp [f0, fillF]
theorem fill_cnt : ∀ k, k ≤ 5 → cntF (fillF k) = k := by
  intro k hk
  have : k = 0 ∨ k = 1 ∨ k = 2 ∨ k = 3 ∨ k = 4 ∨ k = 5 := by omega
  rcases this with rfl | rfl | rfl | rfl | rfl | rfl <;> decide +kernel
def fillS (k : Nat) : Nat := if k ≤ 4 then 0 else 1
theorem fill_up (k : Nat) (h : k < 5) : upK (fillS k) (cntF (fillF (k + 1))) = fillS (k + 1) := by
  rw [fill_cnt _ (by omega)]
  have : k = 0 ∨ k = 1 ∨ k = 2 ∨ k = 3 ∨ k = 4 := by omega
  rcases this with rfl | rfl | rfl | rfl | rfl <;> decide
def fillG : Nat → Nat := upd (fillF 5) 4 0
theorem fillG_cnt : cntF fillG = 4 := by decide +kernel
theorem fillG_next : nxtF fillG 2 = 2 := by decide +kernel
theorem fillG_at : atF fillG 2 = 7 := by decide +kernel
/-- The state of a node from its making on: none of its blocks is an elder one. -/
theorem bk9 {w0 w w' : World} (k : Kp (fun k => k < w0.heap.size) w w') (f0 : Below w0.heap.size w0 w) : Below w0.heap.size w0 w' := f0.trans (k.below f0.size (fun _ h => h))

set_option maxHeartbeats 4000000 in
theorem awakek_any (w : World) (T : Tb w) : Calls Tryd.prog 7 #[] w fun e w' => e = .returned (.bool true) ∧ Below w.heap.size w w' := by
  have HT := hide T
  have hsz := T.two
  have Hsz := hide hsz
  clear T hsz
  go_enter Tryd.func7, Tryd.ntmps7
  go_wp2_with fail
  refine (new_any w).mono ?_
  rintro e w1 ⟨g, rfl, -, m1, f1⟩
  have M1 : Hid (Kd g (fillS 0) (fillF 0) (fun k => k < w.heap.size) w1) := by rw [← fill0]; exact m1
  have F1 := hide f1
  clear m1 f1
  go_wp2_with fail
  go_loopw [2] (fun v wr => ∃ k : Nat, v = .int .i64 k ∧ k ≤ 5 ∧ Hid (Kd g (fillS k) (fillF k) (fun k => k < w.heap.size) wr) ∧ Hid (Below w.heap.size w wr)) (fun v _ => (5 - intOf v).toNat)
  case atStart => exact ⟨0, rfl, by omega, M1.out, F1.out⟩
  case round =>
    obtain ⟨k, rfl, hk, MW, FW⟩ := hrel
    by_cases hkn : k < 5
    · have hcv : IntKind.u8.wrap (k : Int) = (k : Int) := by rw [IntKind.wrap_u8]; omega
      have T2 := HT.out.below FW.out Hsz.out
      have P := kput_new MW.out T2 (by show 0 < _; have := Hsz.out; omega) (by show 1 < _; have := Hsz.out; omega) k (by omega) (by unfold fillF; rw [if_neg (by omega)]) 7 (by omega) (by omega)
      rw [fill_upd, fill_up k hkn] at P
      have HP := hide P
      clear P T2
      go_wp2_with fail
      refine HP.out.mono ?_
      rintro r w2 ⟨rfl, m2, k2⟩
      have M2 := hide m2
      have F2 := hide (bk9 (w0 := w) k2 FW.out)
      clear m2 k2 HP
      go_wp2
      go_roundw
      case rel => exact ⟨k + 1, by go_num, by omega, M2.out, F2.out⟩
      case measure => simp [intOf]; omega
    · obtain rfl : k = 5 := by omega
      have ek : fillS 5 = 1 := rfl
      rw [ek] at MW
      go_wp2_with fail
      refine (kind_any MW.out).mono ?_
      rintro r w2 ⟨rfl, st⟩
      have M2 := hide ((Kd.lies _ _ _).still MW.out st)
      have F2 := hide (bk9 (w0 := w) (st.kp _) FW.out)
      have T2 := HT.out.below F2.out Hsz.out
      have P := kdrop_there M2.out T2 (by show 0 < _; have := Hsz.out; omega) (by show 1 < _; have := Hsz.out; omega) 4 (by omega) (by decide)
      have e7 : fillF 5 4 = 7 := by decide
      have eS : downK 1 (cntF (upd (fillF 5) 4 0)) = 1 := by show downK 1 (cntF fillG) = 1; rw [fillG_cnt]; decide
      rw [eS, e7] at P
      have HP := hide P
      clear P T2 eS e7 ek st
      go_wp2_with fail
      refine HP.out.mono ?_
      rintro r w3 ⟨rfl, m3, k3⟩
      have M3 : Hid (Kd g 1 fillG (fun k => k < w.heap.size) w3) := m3
      have F3 := hide (bk9 (w0 := w) k3 F2.out)
      clear m3 k3 HP M2
      have T3 := HT.out.below F3.out Hsz.out
      have P := knext_any M3.out T3 2 (by omega)
      rw [fillG_next, fillG_at] at P
      have HP := hide P
      clear P T3
      go_wp2_with fail
      refine HP.out.mono ?_
      rintro r w4 ⟨rfl, f4⟩
      have M4 := hide ((Kd.lies _ _ _).below M3.out f4)
      have F4 := hide (F3.out.trans (f4.mono F3.out.size))
      clear f4 HP M3
      go_wp2_with fail
      refine (kind_any M4.out).mono ?_
      rintro r w5 ⟨rfl, st⟩
      have M5 := hide ((Kd.lies _ _ _).still M4.out st)
      have F5 := hide (bk9 (w0 := w) (st.kp _) F4.out)
      have P := len_any M5.out
      rw [fillG_cnt] at P
      have HP := hide P
      clear P st M4
      go_wp2_with fail
      refine HP.out.mono ?_
      rintro r w6 ⟨rfl, hw⟩
      subst hw
      clear HP
      go_wp2_with fail
      refine (kput_zero 1).mono ?_
      rintro r w7 ⟨rfl, hw⟩
      subst hw
      go_wp2
      go_ret
      exact ⟨by rfl, F5.out⟩
end Go.Proofs.YtmogjhljmljpfaaDoor
