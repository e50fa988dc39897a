/- All and Reset of package meter. -/
import Derived.Test.YtkofnjpjfnedpaaMeterCalls
namespace Go.Proofs.Ytkofnjpjfnedpaa
open Go.RowKit Go.RwLone
set_option linter.unusedVariables false

/-- The first n of them are 0. -/
def zeroed (cs : List Int) (n : Nat) : List Int := List.replicate n 0 ++ cs.drop n
theorem zeroed_length (cs : List Int) (n : Nat) (h : n ≤ cs.length) : (zeroed cs n).length = cs.length := by simp [zeroed]; omega
theorem zeroed_set (cs : List Int) (n : Nat) (h : n < cs.length) : (zeroed cs n).set n 0 = zeroed cs (n + 1) := by
  unfold zeroed
  rw [List.set_append_right _ _ (by simp), List.drop_eq_getElem_cons h, List.length_replicate, Nat.sub_self, List.set_cons_zero, List.replicate_succ']
  simp
theorem zeroed_all (cs : List Int) (h : cs.length = 12) : zeroed cs 12 = List.replicate 12 0 := by
  unfold zeroed
  rw [List.drop_of_length_le (by omega)]
  simp
/-- The first n of them, and zeros. -/
def filled (cs : List Int) (n : Nat) : List Int := cs.take n ++ List.replicate (12 - n) 0
theorem filled_length (cs : List Int) (n : Nat) (h : n ≤ 12) (hl : cs.length = 12) : (filled cs n).length = 12 := by simp [filled]; omega
theorem filled_set (cs : List Int) (n : Nat) (h : n < 12) (hl : cs.length = 12) : (i64s (filled cs n)).set n (.int .i64 (cAt cs n)) = i64s (filled cs (n + 1)) := by
  unfold filled i64s cAt
  rw [← List.map_set, List.set_append_right _ _ (by simp; omega)]
  rw [List.length_take, Nat.min_eq_left (by omega), Nat.sub_self, show 12 - n = (12 - (n + 1)) + 1 from by omega, List.replicate_succ, List.set_cons_zero, List.take_succ_eq_append_getElem (by omega)]
  simp only [List.map_append, List.map_cons, List.append_assoc, List.singleton_append]
  rw [show cs.getD n 0 = cs[n] from by simp [List.getD, show n < cs.length from by omega]]
theorem filled_all (cs : List Int) (h : cs.length = 12) : filled cs 12 = cs := by
  unfold filled
  rw [List.take_of_length_le (by omega)]
  simp
theorem i64s_length (cs : List Int) : (i64s cs).length = cs.length := by simp [i64s]
theorem i64s_get (cs : List Int) (k : Nat) (h : k < cs.length) : (i64s cs)[k]? = some (.int .i64 (cAt cs k)) := by simp [i64s, cAt, h]

set_option maxHeartbeats 1600000 in
theorem reset_any (g : Nat) (cs : List Int) (w : World) (hb : Mt w g 0 0 cs) (hl : cs.length = 12) :
    Calls Try.prog 15 #[.pointer (some ⟨g, 0, none⟩)] w fun e w' => e = .returned (.tuple #[]) ∧ Mt w' g 0 0 (List.replicate 12 0) ∧ Only g w w' := by
  have B := hide hb
  clear hb
  go_enter_defers Try.func15, Try.ntmps15
  go_wp2_with fail
  refine (wlock_m g cs _ B.out).mono ?_
  rintro e w1 ⟨rfl, hb1, ho1⟩
  have B1 := hide hb1
  have O1 := hide ho1
  clear hb1 ho1
  go_wp2_with fail
  go_loopw [12] (fun v wr => ∃ k : Nat, v = .int .i64 k ∧ k ≤ 12 ∧ Mt wr g 1 (-1073741824) (zeroed cs k) ∧ Only g w wr) (fun v _ => 12 - (intOf v).toNat)
  case atStart => exact ⟨0, rfl, by omega, B1.out, O1.out⟩
  case round =>
    obtain ⟨k, rfl, hk, hbk, hok⟩ := hrel
    have Bk := hide hbk
    have Ok := hide hok
    clear hbk hok
    by_cases hkn : k < 12
    · have hlk : (zeroed cs k).length = 12 := (zeroed_length cs k (by omega)).trans hl
      go_wp2_with fail
      refine (istore_m g k 1 (-1073741824) 0 _ _ Bk.out (by omega)).mono ?_
      rintro e w2 ⟨rfl, hb2, ho2⟩
      rw [zeroed_set cs k (by omega)] at hb2
      have B2 := hide hb2
      have O2 := hide ho2
      clear hb2 ho2
      go_wp2
      go_roundw
      case measure => simp only [intOf]; omega
      case rel => exact ⟨k + 1, by simp, by omega, B2.out, Ok.out.trans O2.out⟩
    · have hk12 : k = 12 := by omega
      subst hk12
      go_wp2
      refine leaves_cons (f := 29) (args := #[.pointer (some ⟨g, 0, none⟩)]) (by simp) (by simp [go_sem]) ?_
      refine (wunlock_m g _ .returning _ Bk.out).mono ?_
      rintro e u' w9 ⟨rfl, rfl, hb9, ho9⟩
      exact ⟨_, results_none rfl _ _ _, rfl, by rw [zeroed_all cs hl] at hb9; exact hb9, Ok.out.trans ho9⟩

theorem info_i64' : (Try.prog.info? 2).map (fun i => (i.zero, i.size, i.bytes)) = some (some (.int .i64 0), 1, 8) := by kernel_rfl
theorem info_i64 : ∃ i, Try.prog.info? 2 = some i ∧ i.zero = some (.int .i64 0) ∧ i.size = 1 ∧ i.bytes = 8 := by
  have h := info_i64'
  cases hq : Try.prog.info? 2 with
  | none => rw [hq] at h; cases h
  | some i =>
    rw [hq] at h
    simp at h
    exact ⟨i, rfl, h.1, h.2.1, h.2.2⟩
theorem make_i64 (w : World) : ∃ w', (Instr.makeSlice 35 (.int .i64 12) (.int .i64 12)).run Try.prog w = .ok (.slice (some ⟨w.heap.size, 0, none⟩) 12 12) w' ∧
      Blk w' w.heap.size 2 (i64s (List.replicate 12 0)) ∧ Below w.heap.size w w' ∧ w'.heap.size = w.heap.size + 1 := by
  obtain ⟨i, h1, h2, h3, h4⟩ := info_i64
  exact run_make_blk 35 2 i (.int .i64 0) Try.underlying35 h1 h2 h3 rfl .i64 .i64 12 12 12 12 rfl rfl (Nat.le_refl _) (by rw [h4]; omega) (by unfold maxLen; omega)

set_option maxHeartbeats 1600000 in
theorem all_any (g : Nat) (cs : List Int) (w : World) (hb : Mt w g 0 0 cs) (hl : cs.length = 12) :
    Calls Try.prog 16 #[.pointer (some ⟨g, 0, none⟩)] w fun e w' => e = .returned (.slice (some ⟨w.heap.size, 0, none⟩) 12 12) ∧ Blk w' w.heap.size 2 (i64s cs) ∧ Below w.heap.size w w' := by
  have B := hide hb
  clear hb
  go_enter_defers Try.func16, Try.ntmps16
  go_wp2_with fail
  refine (rlock_m g cs _ B.out).mono ?_
  rintro e w1 ⟨rfl, hb1, ho1⟩
  have B1 := hide hb1
  have O1 := hide ho1
  clear hb1 ho1
  obtain ⟨w2, r2, b2, f2, s2⟩ := make_i64 w1
  have hs1 := O1.out.size
  rw [hs1] at r2 b2 f2 s2
  have B2 := hide b2
  have F2 := hide f2
  have S2 := hide s2
  clear b2 f2 s2 hs1
  go_wp2_with fail
  go_loopw [17] (fun v wr => ∃ k : Nat, v = .int .i64 k ∧ k ≤ 12 ∧ Mt wr g 0 1 cs ∧ Blk wr w.heap.size 2 (i64s (filled cs k)) ∧ Below w.heap.size w1 wr) (fun v _ => 12 - (intOf v).toNat)
  case atStart => exact ⟨0, rfl, by omega, B1.out.below F2.out (B.out.lt), B2.out, F2.out⟩
  case round =>
    obtain ⟨k, rfl, hk, hbk, hck, hok⟩ := hrel
    have Bk := hide hbk
    have Ck := hide hck
    have Ok := hide hok
    clear hbk hck hok
    have hgs := B.out.lt
    by_cases hkn : k < 12
    · have hlk := filled_length cs k hk hl
      have hc : wr.cell? ⟨w.heap.size, k, none⟩ = some (.int .i64 (cAt (filled cs k) k)) := (Ck.out.cell k).trans (i64s_get _ k (by omega))
      have hf := Ck.out.frozen k
      have hst := hide (Ck.out.set k (.int .i64 (cAt cs k)))
      go_wp2_with fail
      refine (iload_m g k 0 1 cs _ Bk.out (by omega)).mono ?_
      rintro e w3 ⟨rfl, rfl⟩
      go_wp2
      go_roundw
      case measure => simp only [intOf]; omega
      case rel =>
        refine ⟨k + 1, by simp, by omega, ?_, ?_, Ok.out.setCell (by simp) _⟩
        · exact Bk.out.only ((Only.refl w.heap.size _).setCell k _) (by omega)
        · have := hst.out
          rwa [filled_set cs k hkn hl] at this
    · have hk12 : k = 12 := by omega
      subst hk12
      go_wp2
      refine leaves_cons (f := 23) (args := #[.pointer (some ⟨g, 0, none⟩)]) (by simp) (by simp [go_sem]) ?_
      refine (runlock_m g _ .returning _ Bk.out).mono ?_
      rintro e u' w9 ⟨rfl, rfl, hb9, ho9⟩
      refine ⟨_, results_tmp rfl _ _ _, rfl, ?_, ?_⟩
      · have := Ck.out.only ho9 (by omega)
        rwa [filled_all cs hl] at this
      · refine ⟨?_, ?_, ?_, ?_, ?_⟩
        · exact ho9.os.trans (Ok.out.os.trans O1.out.os)
        · exact ho9.tape.trans (Ok.out.tape.trans O1.out.tape)
        · exact ho9.output.trans (Ok.out.output.trans O1.out.output)
        · rw [ho9.size, ← O1.out.size]; exact Ok.out.size
        · intro j hj
          by_cases hjg : j = g
          · subst hjg; exact hb9.trans B.out.symm
          · exact (ho9.block j hjg).trans ((Ok.out.block j hj).trans (O1.out.block j hjg))
end Go.Proofs.Ytkofnjpjfnedpaa
