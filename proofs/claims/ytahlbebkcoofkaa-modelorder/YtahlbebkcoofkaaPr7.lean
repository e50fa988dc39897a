/- bramblelaw7.pair, of two answers that are alike. -/
import Derived.Test.YtahlbebkcoofkaaRfG
import Derived.Test.YtahlbebkcoofkaaHlp7
namespace Go.Proofs.Ytahlbebkcoofkaa
open Go.RowKit Go.Sort
set_option linter.unusedVariables false
set_option linter.unusedSimpArgs false
set_option maxRecDepth 20000

set_option maxHeartbeats 1000000 in
theorem pair7_any (a b : Option Addr) (ca cb : Nat) (k : List Int) (v : Int) (ok : Bool) (base : Nat) (w : World) (ho : w.ownsRow base 5 1 (.slice a k.length ca) k.length (u8s k)) (hb : Rd w b k) (hk : k.length ≤ 1000000) (hbase : base ≤ w.heap.size) :
    Calls Try.prog 53 #[.agg #[.slice a k.length ca, .int .u64 v], .bool ok, .agg #[.slice b k.length cb, .int .u64 v], .bool ok] w fun r w' => r = .returned (.bool true) ∧ ∃ w1, Below w.heap.size w w1 ∧ w1.grownBy w' (Value.slice a k.length ca).ownBlock := by
  obtain ⟨a', c', e9, hra, _⟩ := owns_rd ho hb.1
  simp only [Value.slice.injEq] at e9
  obtain ⟨rfl, -, rfl⟩ := e9
  have f0 : Below w.heap.size w ((w.alloc (boxP a k.length ca v)).alloc (boxP b k.length cb v)) := ((Below.refl _ w).alloc (Nat.le_refl _) _).alloc (by simp) _
  have x0 : Blk ((w.alloc (boxP a k.length ca v)).alloc (boxP b k.length cb v)) w.heap.size 54 [.slice a k.length ca, .int .u64 v] := (Blk.new w _ _ _ rfl).alloc _
  have x1 : Blk ((w.alloc (boxP a k.length ca v)).alloc (boxP b k.length cb v)) (w.heap.size + 1) 54 [.slice b k.length cb, .int .u64 v] := by
    have h := Blk.new (w.alloc (boxP a k.length ca v)) 54 [.slice b k.length cb, .int .u64 v] _ rfl
    rwa [show (w.alloc (boxP a k.length ca v)).heap.size = w.heap.size + 1 by simp] at h
  unfold boxP at f0 x0 x1
  generalize hw0 : ((w.alloc (.cells #[.slice a k.length ca, .int .u64 v] 54 (0, 0))).alloc (.cells #[.slice b k.length cb, .int .u64 v] 54 (0, 0))) = w0 at f0 x0 x1
  have ra0 := hra.below f0 (Nat.le_refl _)
  have rb0 := hb.below f0 (Nat.le_refl _)
  have o0 := ho.below f0 (Nat.le_refl _)
  have c0 := x0.cell 0
  have c1 := x0.cell 1
  have d0 := x1.cell 0
  have d1 := x1.cell 1
  simp only [List.getElem?_cons_zero, List.getElem?_cons_succ] at c0 c1 d0 d1
  have SS := fun d => same_b a b k k ca cb (w0.drewN d) (ra0.drewN d) (rb0.drewN d)
  rw [decide_eq_true rfl] at SS
  have HS := hide SS
  have X0 := hide x0
  have O0 := hide o0
  have F0 := hide f0
  clear SS ra0 rb0 o0 hra hb ho x0 x1 f0
  go_enter Try.func53, Try.ntmps53
  go_wp2_with fail
  clear c0 c1 d0 d1
  have S0 := HS.out 0
  refine S0.mono ?_
  rintro r w1 ⟨rfl, s1⟩
  have f1 : Below w0.heap.size w0 w1 := s1.below w0.heap.size
  have x1 := X0.out.below f1 X0.out.lt
  have c0 := x1.cell 0
  simp only [List.getElem?_cons_zero] at c0
  have F1 := hide (F0.out.trans (f1.mono F0.out.size))
  have OV := hide (over_any _ k.length base (u8s k) w1 (O0.out.below f1 (Nat.le_refl _)) (by intro u hu; simp [u8s] at hu; obtain ⟨q, _, rfl⟩ := hu; exact ⟨q, rfl⟩) hk (by have := F1.out.size; omega))
  clear s1 f1 x1 hw0 S0
  go_wp2_with fail
  refine OV.out.mono ?_
  rintro r w2 ⟨rfl, g2⟩
  have G2 := hide g2
  clear g2 OV c0
  go_wp2
  go_ret
  exact ⟨rfl, w1, F1.out, G2.out⟩
end Go.Proofs.Ytahlbebkcoofkaa
