/- awake. -/
import Derived.Test.YtaoabjcbolncoaaUse6
namespace Go.Proofs.Ytaoabjcbolncoaa
open Go.RowKit
set_option linter.unusedVariables false
set_option linter.unusedSimpArgs false

theorem Fresh.lit (w : World) (e : TypeId) (fr : Nat × Nat) (xs : List Int) (cs : Array Value) (hcs : cs = (u8s xs).toArray) (hb : IsBytes xs) (hm : xs.length ≤ maxLen) : Fresh w (w.alloc (.cells cs e fr)) (some ⟨w.heap.size, 0, none⟩) xs :=
  ⟨rd_new1 w e fr xs cs hcs hb hm, .inr ⟨_, _, rfl, Nat.le_refl _, by simp⟩⟩
theorem below_alloc (w : World) (o : Obj) : Below w.heap.size w (w.alloc o) := (Below.refl _ _).alloc (Nat.le_refl _) _

set_option maxHeartbeats 1600000 in
theorem awake_any (w : World) : Calls Try.prog 6 #[] w fun e w' => e = .returned (.bool true) ∧ Below w.heap.size w w' := by
  have kc := run_bytes_const (P := Try.prog) 29 5 Try.underlying29 Try.underlying5
  go_enter Try.func6, Try.ntmps6
  go_wp2_with fail
  refine (new_v _ 5 (by omega) (by omega)).mono ?_
  rintro e w1 ⟨g, rfl, h1, k1⟩
  have A1 := hide h1
  have K1 := hide k1
  clear h1 k1
  go_wp2_with fail
  refine (f_put_new A1.out (below_alloc _ _) (by simp) (Fresh.lit _ _ _ [97, 98, 99] _ rfl (by simp [IsBytes]) (by simp [maxLen])) rfl _ (by simp [total])).mono ?_
  rintro e w2 ⟨rfl, h2, k2⟩
  have A2 := hide h2
  have K2 := hide (K1.out.trans k2)
  clear h2 k2 A1 K1
  go_wp2_with fail
  refine (f_put_full A2.out (below_alloc _ _) _ 3 3 (by simp [total, lenO])).mono ?_
  rintro e w3 ⟨rfl, h3, k3⟩
  have A3 := hide h3
  have K3 := hide (K2.out.trans k3)
  clear h3 k3 A2 K2
  go_wp2_with fail
  refine (cut_has A3.out (by simp) 0 1 [97, 98, 99] rfl (by simp)).mono ?_
  rintro e w4 ⟨rfl, h4, k4⟩
  have A4 := hide h4
  have K4 := hide (K3.out.trans k4)
  clear h4 k4 A3 K3
  go_wp2_with fail
  refine (a_get A4.out (by simp) 0 [98, 99] rfl).mono ?_
  rintro e w5 ⟨rfl, b5, f5⟩
  have A5 := hide ((Sp.lies _ _ _ _).below A4.out f5)
  have K5 := hide (K4.out.trans ((Kp.of_below f5).mono ((Sp.lies _ _ _ _).lt A4.out)))
  have hk := conv_str (P := Try.prog) (src := 29) (dst := 9) Try.underlying29 Try.underlying5 Try.underlying9 (blk_rd b5 (by simp [IsBytes]) (by simp [maxLen])) 2
  simp only [show (strOfNums [98, 99]) = (⟨#[98, 99]⟩ : ByteArray) from rfl, List.length_cons, List.length_nil, Nat.zero_add] at hk
  clear b5 f5 A4 K4
  go_wp2_with fail
  refine (a_used A5.out).mono ?_
  rintro e w6 ⟨rfl, rfl⟩
  go_wp2_with fail
  refine (a_live A5.out (by simp)).mono ?_
  rintro e w7 ⟨rfl, s7⟩
  have A7 := hide ((Sp.lies _ _ _ _).still A5.out s7)
  have K7 := hide (K5.out.trans (s7.kp _))
  clear s7 A5 K5
  go_wp2_with fail
  refine (drop_none A7.out (by simp) 9 (by omega) (.inr (.inl (by simp)))).mono ?_
  rintro e w8 ⟨rfl, rfl⟩
  go_wp2_with fail
  refine (new_none (-1) (by omega)).mono ?_
  rintro e w10 ⟨rfl, rfl⟩
  go_wp2
  go_ret
  exact ⟨by rfl, K7.out.below (Nat.le_refl _) (fun k hk => hk)⟩
end Go.Proofs.Ytaoabjcbolncoaa
