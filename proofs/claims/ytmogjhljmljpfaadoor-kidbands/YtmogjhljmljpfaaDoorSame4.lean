/- SameBytes. -/
import Derived.Test.YtmogjhljmljpfaaDoorBytes4
namespace Go.Proofs.YtmogjhljmljpfaaDoor
set_option maxRecDepth 20000
open Go.RowKit
set_option linter.unusedVariables false

theorem getD_eq_of (xs ys : List Int) (hl : xs.length = ys.length) (h : ∀ i, i < xs.length → xs.getD i 0 = ys.getD i 0) : xs = ys := by
  refine List.ext_getElem hl fun i h1 h2 => ?_
  have := h i h1
  simpa [List.getD_eq_getElem?_getD, h1, h2] using this

set_option maxHeartbeats 400000 in
theorem same_any (a b : Option Addr) (xs ys : List Int) (ca cb : Nat) (w : World) (ha : Rd w a xs) (hb : Rd w b ys) :
    Calls Tryd.prog 22 #[.slice a xs.length ca, .slice b ys.length cb] w fun e w' => e = .returned (.bool (decide (xs = ys))) ∧ ∃ n, w' = w.drewN n := by
  obtain ⟨hxb, hxl, hxc⟩ := ha
  obtain ⟨hyb, hyl, hyc⟩ := hb
  unfold maxLen at hxl hyl
  by_cases hl : xs.length = ys.length
  · have hl' : ((xs.length : Int) != (ys.length : Int)) = false := by simp [hl]
    have HL := hide hl
    have hle : xs.length ≤ ys.length := by omega
    clear hl
    go_enter Tryd.func22, Tryd.ntmps22
    go_wp2
    go_loopw [5] (fun v wr => ∃ k q : Nat, v = .int .i64 k ∧ k ≤ xs.length ∧ wr = w.drewN q ∧ ∀ i, i < k → xs.getD i 0 = ys.getD i 0) (fun v _ => xs.length - (intOf v).toNat)
    case atStart => exact ⟨0, 0, rfl, by omega, rfl, fun i hi => by omega⟩
    case round =>
      obtain ⟨k, q, rfl, hk1, hwr, hall⟩ := hrel
      have HA : Hid (∀ i, i < k → xs.getD i 0 = ys.getD i 0) := hall
      clear hall
      by_cases h1 : k < xs.length
      · have h2 : k < ys.length := by omega
        rcases hxc with rfl | ⟨bx, ox, rfl, hxc⟩
        · simp at h1
        rcases hyc with rfl | ⟨by', oy, rfl, hyc⟩
        · simp at h2
        have c1 : wr.cell? ⟨bx, ox + k, none⟩ = some (.int .u8 (xs.getD k 0)) := by rw [hwr]; exact hxc k h1
        have c2 : wr.cell? ⟨by', oy + k, none⟩ = some (.int .u8 (ys.getD k 0)) := by rw [hwr]; exact hyc k h2
        have HW : Hid (wr = w.drewN q) := hwr
        clear hwr hxc hyc
        generalize hx : xs.getD k 0 = x at *
        generalize hy : ys.getD k 0 = y at *
        have HX := hide hx
        have HY := hide hy
        clear hx hy
        by_cases h3 : x = y
        · have h4 : (x != y) = false := by simpa using h3
          have H3 := hide h3
          clear h3
          go_wp2
          go_quiet (fail)
          go_wp2
          go_roundw
          case rel =>
            refine ⟨k + 1, q + nq, by go_num, by omega, by rw [HW.out]; simp, fun i hi => ?_⟩
            by_cases e : i = k
            · subst e; rw [HX.out, HY.out]; exact H3.out
            · exact HA.out i (by omega)
          case measure => simp [intOf]; omega
        · have h4 : (x != y) = true := by simpa using h3
          have H3 := hide h3
          clear h3
          go_wp2
          go_quiet (fail)
          go_wp2
          go_ret
          refine ⟨ret_bool ?_, q + nq, by rw [HW.out]; simp⟩
          symm
          simp only [decide_eq_false_iff_not]
          intro e
          exact H3.out (by rw [← HX.out, ← HY.out, e])
      · have HW : Hid (wr = w.drewN q) := hwr
        clear hwr hxc hyc
        go_wp2
        go_ret
        refine ⟨ret_bool ?_, q, by rw [HW.out]⟩
        symm
        simp only [decide_eq_true_eq]
        exact getD_eq_of xs ys HL.out (fun i hi => HA.out i (by omega))
  · have hl' : ((xs.length : Int) != (ys.length : Int)) = true := by simp; omega
    have HL := hide hl
    clear hl hxc hyc
    go_enter Tryd.func22, Tryd.ntmps22
    go_wp2
    go_ret
    refine ⟨ret_bool ?_, 0, rfl⟩
    symm
    simp only [decide_eq_false_iff_not]
    intro e
    exact HL.out (by rw [e])


end Go.Proofs.YtmogjhljmljpfaaDoor
