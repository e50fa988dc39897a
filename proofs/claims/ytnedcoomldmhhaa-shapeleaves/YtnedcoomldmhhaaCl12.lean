/- shape's looks at one cell: bare, kidsFit, first. -/
import Derived.Test.YtnedcoomldmhhaaCl11
namespace Go.Proofs.Ytnedcoomldmhhaa
set_option maxRecDepth 20000
open Go.RowKit Go.Sort
set_option linter.unusedVariables false
set_option linter.unusedSimpArgs false

def bareP (c : PC) : Bool :=
  (c.kind = 2 ∨ c.kind = 4 ∨ c.at_ = 0) ∧ (c.kind = 2 ∨ c.kind = 4 ∨ (6 ≤ c.kind ∧ c.kind ≤ 11) ∨ c.kids = 0) ∧ (c.kind = 4 ∨ c.byte = 0) ∧ (c.full = false ∨ c.kind = 4 ∨ (6 ≤ c.kind ∧ c.kind ≤ 10)) ∧
  (c.full = true ∨ c.kind = 1 ∨ c.kind = 3 ∨ c.kind = 5 ∨ c.val = 0) ∧ (c.kind = 1 ∨ (5 ≤ c.kind ∧ c.kind ≤ 11) ∨ c.key = []) ∧ (c.kind = 11 ∨ c.pairs = [])
theorem bareP_others (c : Cel) : bareP c.pure = decide ((othersK c).at_ = 0 ∧ (othersK c).kids = 0 ∧ (othersK c).byte = 0 ∧ (othersK c).full = false ∧ (othersK c).val = 0 ∧ (othersK c).key = [] ∧ (othersK c).ps = []) := by
  obtain ⟨kind, at_, count, kids, byte, full, val, ka, kc, key, pa, pc, ps⟩ := c
  have : kind = 1 ∨ kind = 2 ∨ kind = 3 ∨ kind = 4 ∨ kind = 5 ∨ kind = 6 ∨ kind = 7 ∨ kind = 8 ∨ kind = 9 ∨ kind = 10 ∨ kind = 11 ∨ (¬ kind = 1 ∧ ¬ kind = 2 ∧ ¬ kind = 3 ∧ ¬ kind = 4 ∧ ¬ kind = 5 ∧ ¬ kind = 6 ∧ ¬ kind = 7 ∧ ¬ kind = 8 ∧ ¬ kind = 9 ∧ ¬ kind = 10 ∧ ¬ kind = 11) := by omega
  rcases this with rfl | rfl | rfl | rfl | rfl | rfl | rfl | rfl | rfl | rfl | rfl | ⟨h1, h2, h3, h4, h5, h6, h7, h8, h9, h10, h11⟩ <;> cases full
  all_goals first
    | (simp [bareP, othersK, Cel.pure]; done)
    | (have e1 : ¬ (6 ≤ kind ∧ kind ≤ 11) := by omega
       have e2 : ¬ (6 ≤ kind ∧ kind ≤ 10) := by omega
       have e3 : ¬ (5 ≤ kind ∧ kind ≤ 11) := by omega
       simp [bareP, othersK, Cel.pure, *]; done)
theorem box9 {w : World} {g : Nat} {e : TypeId} {v0 v1 v2 v3 v4 v5 v6 v7 v8 : Value} (h : Blk w g e [v0, v1, v2, v3, v4, v5, v6, v7, v8]) :
    w.cell? ⟨g, 0, none⟩ = some v0 ∧ w.cell? ⟨g, 1, none⟩ = some v1 ∧ w.cell? ⟨g, 2, none⟩ = some v2 ∧ w.cell? ⟨g, 3, none⟩ = some v3 ∧ w.cell? ⟨g, 4, none⟩ = some v4 ∧ w.cell? ⟨g, 5, none⟩ = some v5 ∧ w.cell? ⟨g, 6, none⟩ = some v6 ∧ w.cell? ⟨g, 7, none⟩ = some v7 ∧ w.cell? ⟨g, 8, none⟩ = some v8 ∧ w.frozen? ⟨g, 0, none⟩ = false ∧ w.frozen? ⟨g, 1, none⟩ = false ∧ w.frozen? ⟨g, 2, none⟩ = false ∧ w.frozen? ⟨g, 3, none⟩ = false ∧ w.frozen? ⟨g, 4, none⟩ = false ∧ w.frozen? ⟨g, 5, none⟩ = false ∧ w.frozen? ⟨g, 6, none⟩ = false ∧ w.frozen? ⟨g, 7, none⟩ = false ∧ w.frozen? ⟨g, 8, none⟩ = false :=
  ⟨h.cell 0, h.cell 1, h.cell 2, h.cell 3, h.cell 4, h.cell 5, h.cell 6, h.cell 7, h.cell 8, h.frozen 0, h.frozen 1, h.frozen 2, h.frozen 3, h.frozen 4, h.frozen 5, h.frozen 6, h.frozen 7, h.frozen 8⟩
set_option maxHeartbeats 3200000 in
theorem bare_any (c : Cel) (w : World) : Calls Try.prog 43 #[.agg #[.int .i64 c.kind, .int .i64 c.at_, .int .i64 c.count, .int .i64 c.kids, .int .u8 c.byte, .bool c.full, .int .u64 c.val, .slice c.ka c.key.length c.kc, .slice c.pa c.ps.length c.pc]] w fun e w' => e = .returned (.bool (bareP c.pure)) ∧ Below w.heap.size w w' := by
  have HC : Hid (∀ w, Calls Try.prog 62 #[.agg #[.int .i64 c.kind, .int .i64 c.at_, .int .i64 c.count, .int .i64 c.kids, .int .u8 c.byte, .bool c.full, .int .u64 c.val, .slice c.ka c.key.length c.kc, .slice c.pa c.ps.length c.pc]] w fun e w' => e = .returned (.agg (othersK c).fields.toArray) ∧ Below w.heap.size w w') := others_any c
  have HE := hide (bareP_others c)
  generalize bareP c.pure = z at *
  generalize othersK c = d at *
  go_enter Try.func43, Try.ntmps43
  go_wp2_with fail
  refine (HC.out _).mono ?_
  rintro e w1 ⟨rfl, f1⟩
  have hx := (Blk.new w 40 c.fields _ rfl).below f1 (by simp)
  obtain ⟨c0, c1, c2, c3, c4, c5, c6, c7, c8, z0, z1, z2, z3, z4, z5, z6, z7, z8⟩ := box9 hx
  have F1 := hide f1
  have HB : Hid (∀ v0 v1 v2 v3 v4 v5 v6 v7 v8, Below w.heap.size w (((((((((w1.setCell ⟨w.heap.size, 0, none⟩ v0).setCell ⟨w.heap.size, 1, none⟩ v1).setCell ⟨w.heap.size, 2, none⟩ v2).setCell ⟨w.heap.size, 3, none⟩ v3).setCell ⟨w.heap.size, 4, none⟩ v4).setCell ⟨w.heap.size, 5, none⟩ v5).setCell ⟨w.heap.size, 6, none⟩ v6).setCell ⟨w.heap.size, 7, none⟩ v7).setCell ⟨w.heap.size, 8, none⟩ v8)) := fun _ _ _ _ _ _ _ _ _ => ((((((((((((Below.refl _ _).alloc (Nat.le_refl _) _).trans (f1.mono (by simp))).setCell (Nat.le_refl _) _).setCell (Nat.le_refl _) _).setCell (Nat.le_refl _) _).setCell (Nat.le_refl _) _).setCell (Nat.le_refl _) _).setCell (Nat.le_refl _) _).setCell (Nat.le_refl _) _).setCell (Nat.le_refl _) _).setCell (Nat.le_refl _) _)
  clear f1 hx
  simp only [Cel.fields]
  go_wp2_with fail
  all_goals (go_ret; refine ⟨ret_bool ?_, HB.out _ _ _ _ _ _ _ _ _⟩)
  all_goals clear c0 c1 c2 c3 c4 c5 c6 c7 c8 z0 z1 z2 z3 z4 z5 z6 z7 z8 HB F1
  all_goals (rw [HE.out]; clear HE; simp_all)
  all_goals (rw [Bool.eq_iff_iff]; simp [← List.length_eq_zero_iff])
theorem and_two (n : Nat) : n &&& 2 = 2 * (n / 2 % 2) := by
  have h : n = 2 * (n / 2) + n % 2 := by omega
  refine Nat.eq_of_testBit_eq fun i => ?_
  rw [Nat.testBit_and]
  match i with
  | 0 => simp
  | 1 =>
    rw [Nat.testBit_succ, Nat.testBit_succ]
    simp [Nat.testBit, Nat.shiftRight_eq_div_pow]
  | i + 2 =>
    have e : Nat.testBit 2 (i + 2) = false := by simp [Nat.testBit_succ]
    have e2 : Nat.testBit (2 * (n / 2 % 2)) (i + 2) = false := by
      rw [Nat.testBit_succ, Nat.testBit_succ]
      rcases Nat.mod_two_eq_zero_or_one (n / 2) with h | h <;> simp [h]
    rw [e, e2]; simp
theorem bits_low2 (k : Int) : bits .and .i64 k 2 = 2 * (k / 2 % 2) := by
  have key : (BitVec.ofInt 64 k &&& BitVec.ofInt 64 2).toNat = 2 * ((k % ((2 ^ 64 : Nat) : Int)).toNat / 2 % 2) := by
    rw [BitVec.toNat_and, BitVec.toNat_ofInt]
    exact and_two _
  show IntKind.i64.wrap ((BitVec.ofInt 64 k &&& BitVec.ofInt 64 2).toNat : Nat) = _
  rw [key, IntKind.wrap_i64]
  omega
def fitsK (c : PC) : Bool :=
  if c.kind = 2 then c.kids = 2
  else if c.kind = 4 then (0 ≤ c.kids ∧ c.kids ≤ 7) ∧ (c.full ∨ c.kids / 2 % 2 = 1)
  else if c.kind = 6 then 2 - ownK c ≤ c.kids ∧ c.kids ≤ 4
  else if c.kind = 7 then 4 ≤ c.kids ∧ c.kids ≤ 16
  else if c.kind = 8 then 13 ≤ c.kids ∧ c.kids ≤ 48
  else if c.kind = 9 then 41 ≤ c.kids ∧ c.kids ≤ 256
  else if c.kind = 10 then 1 ≤ c.kids ∧ c.kids ≤ 256
  else if c.kind = 11 then c.kids = c.pairs.length ∧ 1 ≤ c.kids ∧ c.kids ≤ 8
  else true
set_option maxHeartbeats 3200000 in
theorem kidsFit_any (c : Cel) (w : World) (h8 : I64 c.kids) (hl : (c.ps.length : Int) ≤ 1000000) : Calls Try.prog 44 #[.agg #[.int .i64 c.kind, .int .i64 c.at_, .int .i64 c.count, .int .i64 c.kids, .int .u8 c.byte, .bool c.full, .int .u64 c.val, .slice c.ka c.key.length c.kc, .slice c.pa c.ps.length c.pc]] w fun e w' => e = .returned (.bool (fitsK c.pure)) ∧ Below w.heap.size w w' := by
  have F0 : Hid (∀ o, Below w.heap.size w (w.alloc o)) := fun o => (Below.refl w.heap.size w).alloc (Nat.le_refl _) o
  have HW := hide within_any
  have HO : Hid (∀ w, Calls Try.prog 54 #[.agg #[.int .i64 c.kind, .int .i64 c.at_, .int .i64 c.count, .int .i64 c.kids, .int .u8 c.byte, .bool c.full, .int .u64 c.val, .slice c.ka c.key.length c.kc, .slice c.pa c.ps.length c.pc]] w fun e w' => e = .returned (.int .i64 (ownK c.pure)) ∧ Below w.heap.size w w') := own_any c
  have ho : 0 ≤ ownK c.pure ∧ ownK c.pure ≤ 1000000 := by
    unfold ownK
    repeat' split
    all_goals first | omega | (simp [Cel.pure]; omega)
  have hb := bits_low2 c.kids
  have hf : fitsK c.pure = fitsK c.pure := rfl
  conv at hf => rhs; unfold fitsK
  have H2 := hide ho
  have HF := hide hf
  generalize fitsK c.pure = z at *
  generalize hov : ownK c.pure = ov at *
  clear hf
  go_enter Try.func44, Try.ntmps44
  have : c.kind = 2 ∨ c.kind = 4 ∨ c.kind = 6 ∨ c.kind = 7 ∨ c.kind = 8 ∨ c.kind = 9 ∨ c.kind = 10 ∨ c.kind = 11 ∨ (¬ c.kind = 2 ∧ ¬ c.kind = 4 ∧ ¬ c.kind = 6 ∧ ¬ c.kind = 7 ∧ ¬ c.kind = 8 ∧ ¬ c.kind = 9 ∧ ¬ c.kind = 10 ∧ ¬ c.kind = 11) := by omega
  rcases this with k | k | k | k | k | k | k | k | ⟨k2, k4, k6, k7, k8, k9, ka, kb⟩
  case inr.inr.inl =>
    obtain ⟨c0, c1, c2, c3, c4, c5, c6, c7, c8, z0, z1, z2, z3, z4, z5, z6, z7, z8⟩ := box9 (Blk.new w 40 c.fields _ rfl)
    have d0 := cell_regrown c0
    have d1 := cell_regrown c1
    have d2 := cell_regrown c2
    have d3 := cell_regrown c3
    have d4 := cell_regrown c4
    have d5 := cell_regrown c5
    have d6 := cell_regrown c6
    have d7 := cell_regrown c7
    have d8 := cell_regrown c8
    have cO : ∀ d os, Calls Try.prog 54 #[.agg #[.int .i64 c.kind, .int .i64 c.at_, .int .i64 c.count, .int .i64 c.kids, .int .u8 c.byte, .bool c.full, .int .u64 c.val, .slice c.ka c.key.length c.kc, .slice c.pa c.ps.length c.pc]] (grow (redrawn (w.alloc (.cells c.fields.toArray 40 (0, 0))) d) os) fun r w'' => r = .returned (.int .i64 ov) ∧ ∃ p : Regrown, w'' = grow (redrawn (w.alloc (.cells c.fields.toArray 40 (0, 0))) p.d) p.os := fun d os =>
      Calls.regrown_of (HO.out _)
    have cW : ∀ n l h d os, Calls Try.prog 63 #[.int .i64 n, .int .i64 l, .int .i64 h] (grow (redrawn (w.alloc (.cells c.fields.toArray 40 (0, 0))) d) os) fun r w'' => r = .returned (.bool (decide (l ≤ n ∧ n ≤ h))) ∧ ∃ p : Regrown, w'' = grow (redrawn (w.alloc (.cells c.fields.toArray 40 (0, 0))) p.d) p.os := fun n l h d os =>
      (HW.out n l h _).mono fun r w h => ⟨h.1, ⟨d, os⟩, h.2⟩
    have FB : Hid (∀ d os, Below w.heap.size w (grow (redrawn (w.alloc (.cells c.fields.toArray 40 (0, 0))) d) os)) := fun d os => (F0.out _).trans ((below_regrown _ d os).mono (by simp))
    have hz : Hid (z = decide (2 - ov ≤ c.kids ∧ c.kids ≤ 4)) := by show _ = _; rw [HF.out]; simp [Cel.pure, k]
    simp only [Cel.fields] at *
    rw [k] at *
    go_wp2_with fail
    generalize hwr : w.alloc _ = wr at *
    clear hwr c0 c1 c2 c3 c4 c5 c6 c7 c8 z0 z1 z2 z3 z4 z5 z6 z7 z8
    refine wp_region_quiet_below (by kernel_rfl) (by kernel_rfl) ?_
    repeat (quiet_step (first | (go_at_call 54; exact cO _ _) | (go_at_call 63; exact cW _ _ _ _ _)))
    refine wpQuiet_nil ?_
    intro _ hw'
    obtain ⟨⟨dq, osq⟩, hw''⟩ := hw'
    subst hw''
    clear d0 d1 d2 d3 d4 d5 d6 d7 d8 cO cW
    go_wp2
    go_ret
    refine ⟨ret_bool ?_, FB.out _ _⟩
    rw [hz.out, show IntKind.i64.wrap (2 - ov) = 2 - ov by rw [IntKind.wrap_i64]; omega]
    simp
  all_goals go_wp2_with (go_at_call 63; refine (HW.out _ _ _ _).mono ?_; rintro e w1 ⟨rfl, rfl⟩)
  all_goals (go_ret; refine ⟨ret_bool ?_, F0.out _⟩)
  all_goals (rw [HF.out]; clear HF HW HO F0 H2 h8)
  all_goals simp_all [Cel.pure]
  · rw [Bool.eq_iff_iff]; simp
  · rw [Bool.eq_iff_iff]; simp; omega
  · intro a b; omega
end Go.Proofs.Ytnedcoomldmhhaa
