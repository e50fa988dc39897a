/- Two masks held against each other. -/
import Derived.Test.YtklakdhghmhapaaDoorAll4
import Derived.ChangeKeysEq
namespace Go.Proofs.YtklakdhghmhapaaDoor
open Go.RowKit

theorem info_u64' : (Tryd.prog.info? 22).map (·.size) = some 1 := by kernel_rfl
theorem eq4_run (a0 a1 a2 a3 b0 b1 b2 b3 : Int) (w : World) : (Op.equalIn 10000 24 (.agg #[.int .u64 a0, .int .u64 a1, .int .u64 a2, .int .u64 a3]) (.agg #[.int .u64 b0, .int .u64 b1, .int .u64 b2, .int .u64 b3])).run Tryd.prog w = .ok (a0 == b0 && a1 == b1 && a2 == b2 && a3 == b3) w := by
  obtain ⟨i, hi⟩ : ∃ i, Tryd.prog.info? 22 = some i := by
    have := info_u64'
    cases hq : Tryd.prog.info? 22 with
    | none => rw [hq] at this; cases this
    | some i => exact ⟨i, rfl⟩
  have e : ∀ x y : Int, (Op.equalIn 9999 22 (.int .u64 x) (.int .u64 y)).run Tryd.prog w = .ok (x == y) w := fun x y => run_equalIn_int w 9998 22 .u64 .u64 x y Tryd.underlying22
  have p0 : ∀ (v0 v1 v2 v3 : Int), (part 22 #[.int .u64 v0, .int .u64 v1, .int .u64 v2, .int .u64 v3] 0).run Tryd.prog w = .ok (.int .u64 v0) w := fun v0 v1 v2 v3 => by kernel_rfl
  have p1 : ∀ (v0 v1 v2 v3 : Int), (part 22 #[.int .u64 v0, .int .u64 v1, .int .u64 v2, .int .u64 v3] 1).run Tryd.prog w = .ok (.int .u64 v1) w := fun v0 v1 v2 v3 => by kernel_rfl
  have p2 : ∀ (v0 v1 v2 v3 : Int), (part 22 #[.int .u64 v0, .int .u64 v1, .int .u64 v2, .int .u64 v3] 2).run Tryd.prog w = .ok (.int .u64 v2) w := fun v0 v1 v2 v3 => by kernel_rfl
  have p3 : ∀ (v0 v1 v2 v3 : Int), (part 22 #[.int .u64 v0, .int .u64 v1, .int .u64 v2, .int .u64 v3] 3).run Tryd.prog w = .ok (.int .u64 v3) w := fun v0 v1 v2 v3 => by kernel_rfl
  have c : Tryd.prog.cellsOf 22 = 1 := by kernel_rfl
  have u : Tryd.prog.underlying 24 = some (.array 4 22) := by kernel_rfl
  have r : List.range 4 = [0, 1, 2, 3] := rfl
  rw [run_equalIn_array w 9999 _ _ u hi, c, r]
  simp only [Op.eqItems, Sem.run_bind, Sem.run_ite, Sem.run_pure, Nat.mul_one, p0, p1, p2, p3, Result.andThen_ok, e]
  cases (a0 == b0) <;> cases (a1 == b1) <;> cases (a2 == b2) <;> cases (a3 == b3) <;> simp

theorem eqm_run (m m' : List Nat) (h : m.length = 4) (h' : m'.length = 4) (w : World) : (Op.equalIn 10000 24 (mv m) (mv m')).run Tryd.prog w = .ok (decide (m = m')) w := by
  obtain ⟨a0, a1, a2, a3, rfl⟩ := list4 m h
  obtain ⟨b0, b1, b2, b3, rfl⟩ := list4 m' h'
  have := eq4_run a0 a1 a2 a3 b0 b1 b2 b3 w
  refine this.trans ?_
  congr 1
  rw [Bool.eq_iff_iff]
  simp only [Bool.and_eq_true, beq_iff_eq, decide_eq_true_eq, List.cons.injEq, and_true, Int.natCast_inj]
  omega
end Go.Proofs.YtklakdhghmhapaaDoor
