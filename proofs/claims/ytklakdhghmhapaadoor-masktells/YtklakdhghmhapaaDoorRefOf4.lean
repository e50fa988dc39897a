/- The document's sets: Of, Words. -/
import Derived.Test.YtklakdhghmhapaaDoorRefAll4
namespace Go.Proofs.YtklakdhghmhapaaDoor
open Go.RowKit
set_option linter.unusedVariables false
/-- A whole array out of its block, into it. -/
theorem wp_load_row {P : Program} {w : World} {a : Act} {K : Act → World → Prop} {Q : Exit → Act → World → Prop} {o : Oper} (g : Nat) (t : TypeId) (n : Nat) (e : TypeId) (c : List Value) (x : Operand) (ho : o.op = .load t x) (hx : a.eval x = .pointer (some ⟨g, 0, none⟩)) (hb : Blk w g t c)
    (hu : P.underlying t = some (.array n e)) (hi : (P.info? t).map (·.size) = some c.length) (h : K (a.put o.dst (.agg c.toArray)) w) : Oper.wp P o a w K Q := by
  have hl := run_loadVar_row (P := P) w g t t c.toArray (0, 0) _ hb hu rfl (by simpa using hi)
  unfold Oper.wp execOp
  simp only [ho, hx, Instr.loadAt, Instr.sureAddr, Sem.run_bind, Sem.run_pure, Result.andThen, hl]
  exact h
theorem wp_store_row {P : Program} {w : World} {a : Act} {K : Act → World → Prop} {Q : Exit → Act → World → Prop} {o : Oper} (g : Nat) (t : TypeId) (c c' : List Value) (C : Array Value) (hC : C = c'.toArray) (x y : Operand) (ho : o.op = .store t x y) (hx : a.eval x = .pointer (some ⟨g, 0, none⟩)) (hy : a.eval y = .agg C) (hb : Blk w g t c)
    (hi : (P.info? t).map (·.size) = some c'.length) (hl : c.length = c'.length) (h1 : ∀ v ∈ c', v.oneCell' = true) (h : K (a.put o.dst undef) (w.setRow g c'.toArray)) : Oper.wp P o a w K Q := by
  subst hC
  have hs := run_storeVar_row (P := P) w g t t c.toArray c'.toArray hb (by simpa using hi) (by simpa using hl) (Array.all_eq_true_iff_forall_mem.2 (fun v hv => h1 v (by simpa using hv)))
  unfold Oper.wp execOp
  simp only [ho, hx, hy, Instr.storeAt, Instr.sureAddr, Sem.run_bind, Sem.run_pure, Result.andThen, hs]
  exact h
theorem Blk.row {w : World} {g : Nat} {t : TypeId} {c : List Value} (h : Blk w g t c) (c' : List Value) : Blk (w.setRow g c'.toArray) g t c' := setRow_heap w g _ _ t _ h
theorem only_row (w : World) (g : Nat) (c : Array Value) : Only g w (w.setRow g c) := ⟨rfl, rfl, rfl, by simp, fun k hk => setRow_other w g k c hk⟩
theorem bools_one (f : Nat → Bool) : ∀ v ∈ bools f, v.oneCell' = true := by
  intro v hv
  simp [bools] at hv
  obtain ⟨i, _, rfl⟩ := hv
  rfl
theorem zero_set : (∀ w, (zeroValue 26).run Tryd.prog w = .ok (.agg (bools (fun _ => false)).toArray) w) ∧ (Tryd.prog.info? 26).map (·.size) = some 256 := zero_of_info (by kernel_rfl)
theorem bit_u64 (x j : Nat) (hx : x < 18446744073709551616) : (bits BinOp.and IntKind.u64 ((x : Int) / 2 ^ j) 1 == 1) = x.testBit j := by
  have h1 : ((x : Int) / 2 ^ j) = ((x / 2 ^ j : Nat) : Int) := by simp
  have h2 : x / 2 ^ j ≤ x := Nat.div_le_self _ _
  rw [h1, Nat.testBit_eq_decide_div_mod_eq]
  obtain ⟨y, hy⟩ : ∃ y, y = x / 2 ^ j := ⟨_, rfl⟩
  rw [← hy] at h2 ⊢
  rw [and_one_u64 _ (by omega) (by omega)]
  by_cases h : y % 2 = 1
  · have : (y : Int) % 2 = 1 := by omega
    rw [this]
    simp [h]
  · have : (y : Int) % 2 = 0 := by omega
    rw [this]
    simp [h]
def upB (f : Nat → Bool) (k i : Nat) : Bool := decide (i < k) && f i

set_option maxRecDepth 100000 in
set_option maxHeartbeats 1600000 in
theorem rof_any (m : List Nat) (hm : Ok m) (w : World) :
    Calls Tryd.prog 7 #[mv m] w fun e w' => e = .returned (.agg (bools (inM m)).toArray) ∧ Below w.heap.size w w' := by
  obtain ⟨x0, x1, x2, x3, ex⟩ := list4 m hm.len
  have goal4 : mv m = .agg #[.int .u64 (x0 : Int), .int .u64 (x1 : Int), .int .u64 (x2 : Int), .int .u64 (x3 : Int)] := by rw [ex]; rfl
  rw [goal4]
  have HM := hide hm
  obtain ⟨zv, zs⟩ := zero_set
  obtain ⟨Z, hZ⟩ : ∃ Z, Z = (bools (fun _ => false)).toArray := ⟨_, rfl⟩
  rw [← hZ] at zv
  have b0 := Blk.new w 23 [.int .u64 (x0 : Int), .int .u64 (x1 : Int), .int .u64 (x2 : Int), .int .u64 (x3 : Int)] _ rfl
  have b1 := Blk.new (w.alloc (.cells #[.int .u64 (x0 : Int), .int .u64 (x1 : Int), .int .u64 (x2 : Int), .int .u64 (x3 : Int)] 23)) 26 _ Z hZ
  have b2 := Blk.new ((w.alloc (.cells #[.int .u64 (x0 : Int), .int .u64 (x1 : Int), .int .u64 (x2 : Int), .int .u64 (x3 : Int)] 23)).alloc (.cells Z 26)) 26 _ Z hZ
  obtain ⟨w3, hw3⟩ : ∃ w3, w3 = (((w.alloc (.cells #[.int .u64 (x0 : Int), .int .u64 (x1 : Int), .int .u64 (x2 : Int), .int .u64 (x3 : Int)] 23)).alloc (.cells Z 26)).alloc (.cells Z 26)) := ⟨_, rfl⟩
  have F3 : Hid (Below w.heap.size w w3) := by
    rw [hw3]
    exact (((Below.refl _ _).alloc (Nat.le_refl _) _).alloc (by simp) _).alloc (by simp; omega) _
  have B0 : Hid (Blk w3 w.heap.size 23 [.int .u64 (x0 : Int), .int .u64 (x1 : Int), .int .u64 (x2 : Int), .int .u64 (x3 : Int)]) := by rw [hw3]; exact (b0.alloc _).alloc _
  have B1 : Hid (Box w3 (w.heap.size + 1) (fun _ => false)) := by
    rw [hw3]
    have := b1.alloc (.cells Z 26)
    unfold Hid
    simpa using this
  have B2 : Hid (Box w3 (w.heap.size + 2) (fun _ => false)) := by
    rw [hw3]
    unfold Hid
    simpa using b2
  have HW := hide hw3
  have ZS := hide zs
  have HZ := hide hZ
  have EX := hide ex
  clear hw3 zs hZ b0 b1 b2 goal4 hm ex
  go_enter Tryd.func7, Tryd.ntmps7
  go_wp2_with fail
  go_loopw [4] (fun v wr => ∃ k : Nat, v = .int .i64 k ∧ k ≤ 256 ∧ Blk wr w.heap.size 23 [.int .u64 (x0 : Int), .int .u64 (x1 : Int), .int .u64 (x2 : Int), .int .u64 (x3 : Int)] ∧ Box wr (w.heap.size + 1) (fun _ => false) ∧ Box wr (w.heap.size + 2) (upB (inM m) k) ∧ Below w.heap.size w wr) (fun v _ => 256 - (intOf v).toNat)
  case atStart =>
    rw [← HW.out]
    refine ⟨0, rfl, by omega, B0.out, B1.out, ?_, F3.out⟩
    have e : upB (inM m) 0 = fun _ => false := by funext i; simp [upB]
    rw [e]
    exact B2.out
  case round =>
    obtain ⟨k, rfl, hk, h0, h1, h2, hf⟩ := hrel
    have A0 := hide h0
    have A1 := hide h1
    have A2 := hide h2
    have FF := hide hf
    clear h0 h1 h2 hf
    by_cases hkl : k < 256
    · obtain ⟨q, hq⟩ : ∃ q, q = k / 64 := ⟨_, rfl⟩
      obtain ⟨r, hr⟩ : ∃ r, r = k % 64 := ⟨_, rfl⟩
      have hq4 : q < 4 := by omega
      have hr64 : r < 64 := by omega
      have q1 : Int.tdiv (k : Int) 64 = (q : Int) := by rw [Int.tdiv_eq_ediv_of_nonneg (by omega)]; omega
      have q2 : (k : Int) / 64 = (q : Int) := by omega
      have r1 : Int.tmod (k : Int) 64 = (r : Int) := by rw [Int.tmod_eq_emod_of_nonneg (by omega)]; omega
      have r2 : (k : Int) % 64 = (r : Int) := by omega
      obtain ⟨x, hx⟩ : ∃ x, x = m.getD q 0 := ⟨_, rfl⟩
      have hxl : x < 18446744073709551616 := by rw [hx]; exact HM.out.lt q
      have c0 : wr.cell? ⟨w.heap.size, q, none⟩ = some (.int .u64 (x : Int)) := by
        rw [hx, EX.out]
        refine (A0.out.cell q).trans ?_
        rcases q with _ | _ | _ | _ | q <;> first | rfl | omega
      have c2 := (A2.out.cell k).trans (bools_get _ k hkl)
      have f2 := A2.out.frozen k
      have hb := bit_u64 x r hxl
      have hin : x.testBit r = inM m k := by unfold inM; rw [hx, hq, hr]
      rw [hin] at hb
      have hki : (k : Int) < 256 := by omega
      have hqi : (q : Int) < 4 := by omega
      have o2 := (Only.refl (w.heap.size + 2) wr).setCell k (.bool (inM m k))
      have S2 : Hid (Box (wr.setCell ⟨w.heap.size + 2, k, none⟩ (.bool (inM m k))) (w.heap.size + 2) (upB (inM m) (k + 1))) := by
        have := A2.out.set k (.bool (inM m k))
        rw [bools_set _ k hkl] at this
        have e : (fun i => if i = k then inM m k else upB (inM m) k i) = upB (inM m) (k + 1) := by
          funext i
          unfold upB
          by_cases h : i = k
          · subst h; simp
          · have : decide (i < k + 1) = decide (i < k) := by simp; omega
            rw [if_neg h, this]
        rw [e] at this
        exact this
      have S0 := hide (A0.out.only o2 (by omega))
      have S1 := hide (A1.out.only o2 (by omega))
      have SF := hide (FF.out.trans (o2.below (by omega)))
      clear hx hq hr hin o2
      go_wp2_with fail
      go_roundw
      case measure => simp only [intOf]; omega
      case rel => exact ⟨k + 1, by go_num, by omega, S0.out, S1.out, S2.out, SF.out⟩
    · obtain rfl : k = 256 := by omega
      have e256 : upB (inM m) 256 = upB (inM m) 256 := rfl
      have hbo : bools (upB (inM m) 256) = bools (inM m) := by
        unfold bools
        apply List.map_congr_left
        intro i hi
        simp at hi
        simp [upB, hi]
      have A2' : Hid (Blk wr (w.heap.size + 1 + 1) 26 (bools (inM m))) := by rw [← hbo]; exact A2.out
      clear A2 e256 hbo
      go_wp2_with fail
      refine wp_load_row _ _ 256 4 _ _ rfl rfl A2'.out Tryd.underlying26 (by rw [bools_len]; exact ZS.out) ?_
      have hst := run_storeCells_from (P := Tryd.prog) (w.heap.size + 1) 26 (bools (inM m)) 0 _ wr A1.out (by simp [bools_len]) (bools_one _)
      simp only [List.take_zero, List.nil_append] at hst
      have hld := run_loadVar_row (P := Tryd.prog) (wr.setRow (w.heap.size + 1) (bools (inM m)).toArray) (w.heap.size + 1) 26 26 (bools (inM m)).toArray (0, 0) _ (A1.out.row _) Tryd.underlying26 rfl (by simp only [List.size_toArray, bools_len]; exact ZS.out)
      have HD := hide hld
      have FE := hide (FF.out.trans ((only_row wr (w.heap.size + 1) (bools (inM m)).toArray).below (by omega)))
      clear hld
      go_wp2_with fail
      refine bodyPost_ret (v := .agg (bools (inM m)).toArray) ?_ rfl ⟨rfl, FE.out⟩
      have hld := HD.out
      simp [results, Tryd.results7, asAddr, hld]
end Go.Proofs.YtklakdhghmhapaaDoor
