/- The document's map: Put. -/
import Derived.Test.YtahlbebkcoofkaaRfL
import Derived.Test.YtahlbebkcoofkaaOrdF
namespace Go.Proofs.Ytahlbebkcoofkaa.Rf
open Go.RowKit Go.Sort Go.Proofs.Ytahlbebkcoofkaa
set_option linter.unusedVariables false
set_option linter.unusedSimpArgs false
set_option maxRecDepth 20000

set_option maxHeartbeats 1000000 in
theorem put_long (g : Nat) (ka : Option Addr) (n kc : Nat) (u : Int) (w : World) (hn : n ≤ maxLen) (hl : 65535 < n) :
    Calls Try.prog 20 #[.pointer (some ⟨g, 0, none⟩), .slice ka n kc, .int .u64 u] w fun r w' => r = .returned (.tuple #[.int .u64 0, .bool false, .int .i64 3]) ∧ w' = w := by
  have M := rmay_any ka n kc w hn
  have hd : decide ((n : Int) ≤ 65535) = false := by simp; omega
  rw [hd] at M
  have HM := hide M
  clear M hd
  go_enter Try.func20, Try.ntmps20
  go_wp2_with fail
  refine HM.out.mono ?_
  rintro r w1 ⟨rfl, hw⟩
  subst hw
  go_wp2
  refine bodyPost_ret (results_tmp3 rfl _ _ _) rfl ?_
  exact ⟨rfl, rfl⟩
/-- What the region of the new row hands on. -/
structure Stood (g pb : Nat) (a : Option Addr) (n c : Nat) (x : Value) (u : Int) (W : World) : Prop where
  s : W.cell? ⟨g, 0, none⟩ = some (.slice a n c) ∧ W.cell? ⟨pb, 0, none⟩ = some x ∧ W.cell? ⟨pb, 1, none⟩ = some (.int .u64 u)
theorem stood_below {g pb : Nat} {a : Option Addr} {n c : Nat} {x : Value} {u : Int} {W W' : World} (h : W.cell? ⟨g, 0, none⟩ = some (.slice a n c) ∧ W.cell? ⟨pb, 0, none⟩ = some x ∧ W.cell? ⟨pb, 1, none⟩ = some (.int .u64 u)) (f : Below W.heap.size W W') : W'.cell? ⟨g, 0, none⟩ = some (.slice a n c) ∧ W'.cell? ⟨pb, 0, none⟩ = some x ∧ W'.cell? ⟨pb, 1, none⟩ = some (.int .u64 u) :=
  ⟨(f.cell (p := ⟨g, 0, none⟩) (World.block_lt_of_cell? W _ h.1)).trans h.1, (f.cell (p := ⟨pb, 0, none⟩) (World.block_lt_of_cell? W _ h.2.1)).trans h.2.1, (f.cell (p := ⟨pb, 1, none⟩) (World.block_lt_of_cell? W _ h.2.2)).trans h.2.2⟩

set_option maxHeartbeats 12800000 in
theorem put_new_some {g : Nat} {ps : List KV} {K : Nat → Prop} (ka : Option Addr) (kc : Nat) (k : List Int) (u : Int) (w : World) {F : Nat → Prop} {n c : Nat} {es : List Ent} {b : Nat} (h : MdF g ps K w F (.slice (some ⟨b, 0, none⟩) n c) es) (ht : Rd w ka k) (hk : k.length ≤ 65535) (hu : 0 ≤ u ∧ u ≤ 18446744073709551615) (hn : es.length < 1000000) (hnl : n = es.length) (hin : isIn k ps = false) {rk : Nat} (hrk : rankM k ps = rk) (hrl : rk ≤ es.length) (hc1 : es.length ≤ c) :
    Calls Try.prog 20 #[.pointer (some ⟨g, 0, none⟩), .slice ka k.length kc, .int .u64 u] w fun r w' => r = .returned (.tuple #[.int .u64 (valO (findM k ps)), .bool false, .int .i64 0]) ∧ Md g (putM k u ps) K w' ∧ Kp K w w' := by
  have M := rmay_any ka k.length kc w ht.2.1
  have hd : decide ((k.length : Int) ≤ 65535) = true := by simp; omega
  rw [hd] at M
  have HM := hide M
  obtain ⟨ka', kc', w1, rk1, ok1, fk1⟩ := clone_u8 ht kc (by omega)
  have fW : Below w.heap.size w (w1.alloc (.cells #[.slice ka' k.length kc', .int .u64 u] 54 (0, 0))) := fk1.alloc fk1.size _
  have bx : Blk (w1.alloc (.cells #[.slice ka' k.length kc', .int .u64 u] 54 (0, 0))) w1.heap.size 54 [.slice ka' k.length kc', .int .u64 u] := Blk.new w1 _ _ _ rfl
  have ok2 := ok1.alloc (.cells #[.slice ka' k.length kc', .int .u64 u] 54 (0, 0))
  generalize hW1 : w1.alloc (.cells #[.slice ka' k.length kc', .int .u64 u] 54 (0, 0)) = W1 at fW bx ok2
  have P := find_any ka kc k W1 ((Md.lies g ps).below ⟨F, _, es, h⟩ fW) (ht.below fW (Nat.le_refl _))
  rw [hin, hrk] at P
  have HP := hide P
  have H := hide h
  have FW := hide fW
  have BX := hide bx
  have OK := hide ok2
  have HB := hide ht.1
  have HIN := hide hin
  have HRK := hide hrk
  obtain ⟨pb, hpb⟩ : ∃ pb, w1.heap.size = pb := ⟨_, rfl⟩
  rw [hpb] at BX
  clear M hd P h ht hin hrk fW bx ok1 ok2 fk1
  go_enter Try.func20, Try.ntmps20
  go_wp2_with fail
  refine HM.out.mono ?_
  rintro r w0 ⟨rfl, hw⟩
  subst hw
  clear HM
  go_wp2_with (at_builtin; refine wpList_append_run rfl _ _ _ _ rfl _ _ _ _ rfl rfl rk1 ?_)
  refine HP.out.mono ?_
  rintro r w2 ⟨rfl, f2⟩
  clear HP rk1 hW1
  have F2 : Hid (Below w0.heap.size w0 w2) := FW.out.trans (f2.mono FW.out.size)
  have BX2 := hide (BX.out.below f2 BX.out.lt)
  have OK2 := hide (OK.out.below f2 (Nat.le_refl _))
  have H2 := hide ((H.out.hd.below F2.out H.out.hd.lt).cell 0)
  have RW2 := hide (H.out.rp)
  clear f2
  simp only [List.getElem?_cons_zero] at H2
  have d0 := H2.out
  have hv : Hid (valO (findM k ps) = 0) := by show _ = _; unfold findM; rw [HIN.out]; rfl
  have q1 : (rk : Int) ≤ (c : Int) := by omega
  have q2 : (rk : Int) ≤ (n : Int) := by omega
  go_upto_region 9 with fail
  -- the pieces
  obtain ⟨aq, cq, eq, hrp⟩ := RW2.out
  simp only [Value.slice.injEq] at eq
  obtain ⟨e1, -, -⟩ := eq
  rw [← e1] at hrp
  clear e1
  have hrpW : Rp w2.drew (some ⟨b, 0, none⟩) es := hrp.below (F2.out.drew) (Nat.le_refl _)
  have S0 : w2.drew.cell? ⟨g, 0, none⟩ = some (.slice (some ⟨b, 0, none⟩) n c) ∧ w2.drew.cell? ⟨pb, 0, none⟩ = some (.slice ka' k.length kc') ∧ w2.drew.cell? ⟨pb, 1, none⟩ = some (.int .u64 u) := ⟨H2.out, BX2.out.cell 0, BX2.out.cell 1⟩
  have rkd : Rd w2.drew ka' k := by
    obtain ⟨aq, cq, eq, hr, -⟩ := owns_rd OK2.out HB.out
    simp only [Value.slice.injEq] at eq
    obtain ⟨rfl, -, rfl⟩ := eq
    exact hr.drew
  have hA : (es.take rk).length = rk := by rw [List.length_take]; omega
  have hD : (es.drop rk).length = (n - rk) := by rw [List.length_drop]; omega
  obtain ⟨o2, ho2⟩ : ∃ o2, (if c = rk then some (⟨b, 0, none⟩ : Addr) else some ⟨b, rk * 2, none⟩) = some ⟨b, o2, none⟩ := by
    by_cases h : c = rk
    · exact ⟨0, by rw [if_pos h]⟩
    · exact ⟨rk * 2, by rw [if_neg h]⟩
  have hs1 : Rp w2.drew (some ⟨b, 0, none⟩) (es.take rk) := hrpW.take rk
  have hs2 : Rp w2.drew (some ⟨b, o2, none⟩) (es.drop rk) := by
    rw [← ho2]
    by_cases h : c = rk
    · rw [if_pos h, List.drop_eq_nil_of_le (by omega)]; exact Rp.nil _ _
    · rw [if_neg h]; have := hrpW.drop rk; rwa [Nat.zero_add] at this
  obtain ⟨c2, hc2⟩ : ∃ c2, c - rk = c2 := ⟨_, rfl⟩
  have Q := chain_a (W := w2.drew) c c2 ⟨ka', kc', k, u⟩ hA hD hs1 hs2 rkd hu
  obtain ⟨a1a, d1a, w1a, a2a, d2a, w2a, a3a, d3a, w3a, r1a, f1a, r2a, fla, f2a, r3a, f3a, o3a⟩ := Q
  have Q := chain_b (W := w2.drew) c c2 ⟨ka', kc', k, u⟩ hA hD hs1 hs2 rkd hu
  obtain ⟨a1b, d1b, w1b, a2b, d2b, w2b, a3b, d3b, w3b, r1b, flb, f1b, r2b, f2b, r3b, f3b, o3b⟩ := Q
  simp only at r1a r2a r3a r1b r2b r3b fla flb
  have s1a := stood_below S0 f1a
  have sla := stood_below S0 fla
  have s2a := stood_below S0 f2a
  have s3a := stood_below S0 f3a
  have slb := stood_below S0 flb
  have s1b := stood_below S0 f1b
  have s2b := stood_below S0 f2b
  have s3b := stood_below S0 f3b
  have fin : ∀ (w3 : World) (v' : Value), Below w2.drew.heap.size w2.drew w3 → w3.ownsRow w2.drew.heap.size 54 2 v' (es.take rk ++ (⟨ka', kc', k, u⟩ : Ent) :: es.drop rk).length (flat Ent.cells (es.take rk ++ ⟨ka', kc', k, u⟩ :: es.drop rk)) → Md g (putM k u ps) K (w3.setCell ⟨g, 0, none⟩ v') ∧ Kp K w0 (w3.setCell ⟨g, 0, none⟩ v') ∧ Blk w3 g 50 [.slice (some ⟨b, 0, none⟩) n c] := fun w3 v' f3 o3 => by
    have f3' : Below w0.heap.size w0 w3 := F2.out.trans ((show Below w2.heap.size w2 w3 from ⟨f3.os, f3.tape, f3.output, f3.size, f3.block⟩).mono F2.out.size)
    refine md_row H.out f3' (by show w0.heap.size ≤ w2.heap.size; exact F2.out.size) o3 (fun e he => ?_) ?_ (putM_ups H.out.up k u) (by simp; omega)
    · rcases List.mem_append.1 he with he | he
      · exact .inl (List.mem_of_mem_take he)
      · rcases List.mem_cons.1 he with rfl | he
        · exact .inr ⟨⟨own_bd (w := w2.drew) (B := w0.heap.size) OK2.out HB.out f3 o3, hk, hu⟩, own_cap OK2.out⟩
        · exact .inl (List.mem_of_mem_drop he)
    · unfold putM
      rw [HIN.out, HRK.out, if_neg (by simp), List.map_append, List.map_cons, List.map_take, List.map_drop, H.out.kv]
      rfl
  have fa := fin w3a _ f3a o3a
  have fb := fin w3b _ f3b o3b
  have za := fa.2.2.frozen 0
  have zb := fb.2.2.frozen 0
  have ya := fa.2.2.cell 0
  have yb := fb.2.2.cell 0
  simp only [List.getElem?_cons_zero] at ya yb
  have FA := hide (show Md g (putM k u ps) K (w3a.setCell ⟨g, 0, none⟩ (.slice a3a (rk + 1 + (n - rk)) d3a)) ∧ Kp K w0 (w3a.setCell ⟨g, 0, none⟩ (.slice a3a (rk + 1 + (n - rk)) d3a)) from ⟨fa.1, fa.2.1⟩)
  have FB := hide (show Md g (putM k u ps) K (w3b.setCell ⟨g, 0, none⟩ (.slice a3b (rk + 1 + (n - rk)) d3b)) ∧ Kp K w0 (w3b.setCell ⟨g, 0, none⟩ (.slice a3b (rk + 1 + (n - rk)) d3b)) from ⟨fb.1, fb.2.1⟩)
  clear hnl
  clear fa fb fin o3a o3b f1a f2a f3a fla flb f1b f2b f3b hs1 hs2 hA hD rkd hrpW hrp
  refine regionF (S := fun W' : World => W'.cell? ⟨g, 0, none⟩ = some (.slice (some ⟨b, 0, none⟩) n c) ∧ W'.cell? ⟨pb, 0, none⟩ = some (.slice ka' k.length kc') ∧ W'.cell? ⟨pb, 1, none⟩ = some (.int .u64 u)) (F := 20) (by kernel_rfl) ?_
  refine takeY (i := 0) (v := ?v0) rfl (by decide) (by kernel_rfl) (by kernel_rfl) (by kernel_rfl) (fun _ _ _ h => h) (Or.inl ⟨by rfl, ?hy0⟩) (fun _ => S0) ?rest0
  case hy0 => (intro w _; go_simp; first | done | with_reducible rfl)
  try simp only [Act.put, List.setIfInBounds_toArray, List.set_cons_zero, List.set_cons_succ]
  refine takeY (i := 1) (v := ?v1) rfl (by decide) (by kernel_rfl) (by kernel_rfl) (by kernel_rfl) (fun _ _ _ h => h) (Or.inl ⟨by rfl, ?hy1⟩) (fun _ => S0) ?rest1
  case hy1 => (intro w _; go_simp; first | done | with_reducible rfl)
  try simp only [Act.put, List.setIfInBounds_toArray, List.set_cons_zero, List.set_cons_succ]
  refine takeY (i := 2) (v := ?v2) rfl (by decide) (by kernel_rfl) (by kernel_rfl) (by kernel_rfl) (fun _ _ _ h => h) (Or.inl ⟨by rfl, ?hy2⟩) (fun _ => S0) ?rest2
  case hy2 => (intro w _; go_simp; first | done | with_reducible rfl)
  try simp only [Act.put, List.setIfInBounds_toArray, List.set_cons_zero, List.set_cons_succ]
  refine takeY (i := 3) (v := ?v3) rfl (by decide) (by kernel_rfl) (by kernel_rfl) (by kernel_rfl) (fun _ _ _ h => h) (Or.inl ⟨by rfl, ?hy3⟩) (fun _ => S0) ?rest3
  case hy3 => (intro w _; go_simp; first | done | with_reducible rfl)
  try simp only [Act.put, List.setIfInBounds_toArray, List.set_cons_zero, List.set_cons_succ]
  refine takeF (i := 4) (v := ?v4) rfl rfl (by kernel_rfl) (by decide) (by kernel_rfl) (by kernel_rfl) (by kernel_rfl) (by kernel_rfl) (fun _ _ _ h => h) (Or.inl ⟨by rfl, ?hy4⟩) S0 ?rest4
  case hy4 => (intro w hSw; obtain ⟨k0, k1, k2⟩ := hSw; go_simp; first | done | with_reducible rfl)
  try simp only [Act.put, List.setIfInBounds_toArray, List.set_cons_zero, List.set_cons_succ]
  refine takeY (i := 5) (v := ?v5) rfl (by decide) (by kernel_rfl) (by kernel_rfl) (by kernel_rfl) (fun _ _ _ h => h) (Or.inl ⟨by rfl, ?hy5⟩) (fun _ => S0) ?rest5
  case hy5 => (intro w _; go_simp; first | done | with_reducible rfl)
  try simp only [Act.put, List.setIfInBounds_toArray, List.set_cons_zero, List.set_cons_succ]
  refine takeY (i := 6) (v := ?v6) rfl (by decide) (by kernel_rfl) (by kernel_rfl) (by kernel_rfl) (fun _ _ _ h => h) (Or.inl ⟨by rfl, ?hy6⟩) (fun _ => S0) ?rest6
  case hy6 => (intro w _; go_simp; first | done | with_reducible rfl)
  try simp only [Act.put, List.setIfInBounds_toArray, List.set_cons_zero, List.set_cons_succ]
  refine takeF (i := 8) (v := ?v8) rfl rfl (by kernel_rfl) (by decide) (by kernel_rfl) (by kernel_rfl) (by kernel_rfl) (by kernel_rfl) (fun _ _ _ h => h) (Or.inl ⟨by rfl, ?hy8⟩) S0 ?rest8
  case hy8 => (intro w hSw; obtain ⟨k0, k1, k2⟩ := hSw; go_simp; first | done | with_reducible rfl)
  try simp only [Act.put, List.setIfInBounds_toArray, List.set_cons_zero, List.set_cons_succ]
  refine takeY (i := 11) (v := ?v11) rfl (by decide) (by kernel_rfl) (by kernel_rfl) (by kernel_rfl) (fun _ _ _ h => h) (Or.inl ⟨by rfl, ?hy11⟩) (fun _ => S0) ?rest11
  case hy11 => (intro w _; go_simp; first | done | with_reducible rfl)
  try simp only [Act.put, List.setIfInBounds_toArray, List.set_cons_zero, List.set_cons_succ]
  refine takeY (i := 12) (v := ?v12) rfl (by decide) (by kernel_rfl) (by kernel_rfl) (by kernel_rfl) (fun _ _ _ h => h) (Or.inl ⟨by rfl, ?hy12⟩) (fun _ => S0) ?rest12
  case hy12 => (intro w _; go_simp; first | done | with_reducible rfl)
  try simp only [Act.put, List.setIfInBounds_toArray, List.set_cons_zero, List.set_cons_succ]
  refine takeY (i := 13) (v := ?v13) rfl (by decide) (by kernel_rfl) (by kernel_rfl) (by kernel_rfl) (fun _ _ _ h => h) (Or.inl ⟨by rfl, ?hy13⟩) (fun _ => S0) ?rest13
  case hy13 => (intro w _; go_simp; first | done | with_reducible rfl)
  try simp only [Act.put, List.setIfInBounds_toArray, List.set_cons_zero, List.set_cons_succ]
  refine takeF (i := 14) (v := ?v14) rfl rfl (by kernel_rfl) (by decide) (by kernel_rfl) (by kernel_rfl) (by kernel_rfl) (by kernel_rfl) (fun _ _ _ h => h) (Or.inl ⟨by rfl, ?hy14⟩) S0 ?rest14
  case hy14 => (intro w hSw; obtain ⟨k0, k1, k2⟩ := hSw; go_simp; first | done | with_reducible rfl)
  try simp only [Act.put, List.setIfInBounds_toArray, List.set_cons_zero, List.set_cons_succ]
  refine takeY (i := 15) (v := ?v15) rfl (by decide) (by kernel_rfl) (by kernel_rfl) (by kernel_rfl) (fun _ _ _ h => h) (Or.inl ⟨by rfl, ?hy15⟩) (fun _ => S0) ?rest15
  case hy15 => (intro w _; go_simp; first | done | with_reducible rfl)
  try simp only [Act.put, List.setIfInBounds_toArray, List.set_cons_zero, List.set_cons_succ]
  refine takeY (i := 16) (v := ?v16) rfl (by decide) (by kernel_rfl) (by kernel_rfl) (by kernel_rfl) (fun _ _ _ h => h) (Or.inl ⟨by rfl, ?hy16⟩) (fun _ => S0) ?rest16
  case hy16 => (intro w _; go_simp; first | done | with_reducible rfl)
  try simp only [Act.put, List.setIfInBounds_toArray, List.set_cons_zero, List.set_cons_succ]
  refine readyF (rs := [7, 9]) (by kernel_rfl) (by simp) (AllF.cons rfl (fun K hK => ?_) (AllF.cons rfl (fun K hK => ?_) AllF.nil))
  · refine step_append_run rfl _ _ _ _ rfl _ _ _ _ rfl rfl r1a ?_
    refine hK.out _ _ (fun _ => s1a) ?_
    clear hK K
    try simp only [Act.put, List.setIfInBounds_toArray, List.set_cons_zero, List.set_cons_succ]
    refine readyF (rs := [9]) (by kernel_rfl) (by simp) (AllF.cons rfl (fun K hK => ?_) AllF.nil)
    go_simp
    refine hK.out _ _ (fun _ => sla) ?_
    clear hK K
    try simp only [Act.put, List.setIfInBounds_toArray, List.set_cons_zero, List.set_cons_succ]
    refine readyF (rs := [10]) (by kernel_rfl) (by simp) (AllF.cons rfl (fun K hK => ?_) AllF.nil)
    refine step_append_run rfl _ _ _ _ rfl _ _ _ _ rfl rfl r2a ?_
    refine hK.out _ _ (fun _ => s2a) ?_
    clear hK K
    try simp only [Act.put, List.setIfInBounds_toArray, List.set_cons_zero, List.set_cons_succ]
    refine readyF (rs := [17]) (by kernel_rfl) (by simp) (AllF.cons rfl (fun K hK => ?_) AllF.nil)
    refine step_append_run rfl _ _ _ _ rfl _ _ _ _ rfl rfl r3a ?_
    refine hK.out _ _ (fun _ => s3a) ?_
    clear hK K
    try simp only [Act.put, List.setIfInBounds_toArray, List.set_cons_zero, List.set_cons_succ]
    refine takeY (i := 18) (v := ?v18a) rfl (by decide) (by kernel_rfl) (by kernel_rfl) (by kernel_rfl) (fun _ _ _ h => h) (Or.inl ⟨by rfl, ?hy18a⟩) (fun _ => s3a) ?rest18a
    case hy18a => (intro w _; go_simp; first | done | with_reducible rfl)
    try simp only [Act.put, List.setIfInBounds_toArray, List.set_cons_zero, List.set_cons_succ]
    refine takeY (i := 19) (v := ?v19a) rfl (by decide) (by kernel_rfl) (by kernel_rfl) (by kernel_rfl) (fun _ _ _ h => h) (Or.inl ⟨by rfl, ?hy19a⟩) (fun _ => s3a) ?rest19a
    case hy19a => (intro w _; go_simp; first | done | with_reducible rfl)
    try simp only [Act.put, List.setIfInBounds_toArray, List.set_cons_zero, List.set_cons_succ]
    refine readyF (rs := [20]) (by kernel_rfl) (by simp) (AllF.cons rfl (fun K hK => ?_) AllF.nil)
    go_simp
    refine hK.out _ _ (fun h => absurd h (by simp)) ?_
    clear hK K
    try simp only [Act.put, List.setIfInBounds_toArray, List.set_cons_zero, List.set_cons_succ]
    refine doneF (by kernel_rfl) ?_ _
    go_wp2
    refine bodyPost_ret (results_tmp3 rfl _ _ _) rfl ?_
    refine ⟨?_, FA.out.1, FA.out.2⟩
    rw [hv.out]
    rfl
  · go_simp
    refine hK.out _ _ (fun _ => slb) ?_
    clear hK K
    try simp only [Act.put, List.setIfInBounds_toArray, List.set_cons_zero, List.set_cons_succ]
    refine readyF (rs := [7]) (by kernel_rfl) (by simp) (AllF.cons rfl (fun K hK => ?_) AllF.nil)
    refine step_append_run rfl _ _ _ _ rfl _ _ _ _ rfl rfl r1b ?_
    refine hK.out _ _ (fun _ => s1b) ?_
    clear hK K
    try simp only [Act.put, List.setIfInBounds_toArray, List.set_cons_zero, List.set_cons_succ]
    refine readyF (rs := [10]) (by kernel_rfl) (by simp) (AllF.cons rfl (fun K hK => ?_) AllF.nil)
    refine step_append_run rfl _ _ _ _ rfl _ _ _ _ rfl rfl r2b ?_
    refine hK.out _ _ (fun _ => s2b) ?_
    clear hK K
    try simp only [Act.put, List.setIfInBounds_toArray, List.set_cons_zero, List.set_cons_succ]
    refine readyF (rs := [17]) (by kernel_rfl) (by simp) (AllF.cons rfl (fun K hK => ?_) AllF.nil)
    refine step_append_run rfl _ _ _ _ rfl _ _ _ _ rfl rfl r3b ?_
    refine hK.out _ _ (fun _ => s3b) ?_
    clear hK K
    try simp only [Act.put, List.setIfInBounds_toArray, List.set_cons_zero, List.set_cons_succ]
    refine takeY (i := 18) (v := ?v18b) rfl (by decide) (by kernel_rfl) (by kernel_rfl) (by kernel_rfl) (fun _ _ _ h => h) (Or.inl ⟨by rfl, ?hy18b⟩) (fun _ => s3b) ?rest18b
    case hy18b => (intro w _; go_simp; first | done | with_reducible rfl)
    try simp only [Act.put, List.setIfInBounds_toArray, List.set_cons_zero, List.set_cons_succ]
    refine takeY (i := 19) (v := ?v19b) rfl (by decide) (by kernel_rfl) (by kernel_rfl) (by kernel_rfl) (fun _ _ _ h => h) (Or.inl ⟨by rfl, ?hy19b⟩) (fun _ => s3b) ?rest19b
    case hy19b => (intro w _; go_simp; first | done | with_reducible rfl)
    try simp only [Act.put, List.setIfInBounds_toArray, List.set_cons_zero, List.set_cons_succ]
    refine readyF (rs := [20]) (by kernel_rfl) (by simp) (AllF.cons rfl (fun K hK => ?_) AllF.nil)
    go_simp
    refine hK.out _ _ (fun h => absurd h (by simp)) ?_
    clear hK K
    try simp only [Act.put, List.setIfInBounds_toArray, List.set_cons_zero, List.set_cons_succ]
    refine doneF (by kernel_rfl) ?_ _
    go_wp2
    refine bodyPost_ret (results_tmp3 rfl _ _ _) rfl ?_
    refine ⟨?_, FB.out.1, FB.out.2⟩
    rw [hv.out]
    rfl

set_option maxHeartbeats 12800000 in
theorem put_new_none {g : Nat} {ps : List KV} {K : Nat → Prop} (ka : Option Addr) (kc : Nat) (k : List Int) (u : Int) (w : World) {F : Nat → Prop} {es : List Ent} (h : MdF g ps K w F (.slice none 0 0) es) (ht : Rd w ka k) (hk : k.length ≤ 65535) (hu : 0 ≤ u ∧ u ≤ 18446744073709551615) (hn : es.length < 1000000) (hin : isIn k ps = false) (hrk : rankM k ps = 0) (hrl : 0 ≤ es.length) (hel : es.length = 0) :
    Calls Try.prog 20 #[.pointer (some ⟨g, 0, none⟩), .slice ka k.length kc, .int .u64 u] w fun r w' => r = .returned (.tuple #[.int .u64 (valO (findM k ps)), .bool false, .int .i64 0]) ∧ Md g (putM k u ps) K w' ∧ Kp K w w' := by
  have M := rmay_any ka k.length kc w ht.2.1
  have hd : decide ((k.length : Int) ≤ 65535) = true := by simp; omega
  rw [hd] at M
  have HM := hide M
  obtain ⟨ka', kc', w1, rk1, ok1, fk1⟩ := clone_u8 ht kc (by omega)
  have fW : Below w.heap.size w (w1.alloc (.cells #[.slice ka' k.length kc', .int .u64 u] 54 (0, 0))) := fk1.alloc fk1.size _
  have bx : Blk (w1.alloc (.cells #[.slice ka' k.length kc', .int .u64 u] 54 (0, 0))) w1.heap.size 54 [.slice ka' k.length kc', .int .u64 u] := Blk.new w1 _ _ _ rfl
  have ok2 := ok1.alloc (.cells #[.slice ka' k.length kc', .int .u64 u] 54 (0, 0))
  generalize hW1 : w1.alloc (.cells #[.slice ka' k.length kc', .int .u64 u] 54 (0, 0)) = W1 at fW bx ok2
  have P := find_any ka kc k W1 ((Md.lies g ps).below ⟨F, _, es, h⟩ fW) (ht.below fW (Nat.le_refl _))
  rw [hin, hrk] at P
  have HP := hide P
  have H := hide h
  have FW := hide fW
  have BX := hide bx
  have OK := hide ok2
  have HB := hide ht.1
  have HIN := hide hin
  have HRK := hide hrk
  obtain ⟨pb, hpb⟩ : ∃ pb, w1.heap.size = pb := ⟨_, rfl⟩
  rw [hpb] at BX
  clear M hd P h ht hin hrk fW bx ok1 ok2 fk1
  go_enter Try.func20, Try.ntmps20
  go_wp2_with fail
  refine HM.out.mono ?_
  rintro r w0 ⟨rfl, hw⟩
  subst hw
  clear HM
  go_wp2_with (at_builtin; refine wpList_append_run rfl _ _ _ _ rfl _ _ _ _ rfl rfl rk1 ?_)
  refine HP.out.mono ?_
  rintro r w2 ⟨rfl, f2⟩
  clear HP rk1 hW1
  have F2 : Hid (Below w0.heap.size w0 w2) := FW.out.trans (f2.mono FW.out.size)
  have BX2 := hide (BX.out.below f2 BX.out.lt)
  have OK2 := hide (OK.out.below f2 (Nat.le_refl _))
  have H2 := hide ((H.out.hd.below F2.out H.out.hd.lt).cell 0)
  have RW2 := hide (H.out.rp)
  clear f2
  simp only [List.getElem?_cons_zero] at H2
  have d0 := H2.out
  have hv : Hid (valO (findM k ps) = 0) := by show _ = _; unfold findM; rw [HIN.out]; rfl
  go_upto_region 9 with fail
  -- the pieces
  obtain ⟨aq, cq, eq, hrp⟩ := RW2.out
  simp only [Value.slice.injEq] at eq
  obtain ⟨e1, -, -⟩ := eq
  rw [← e1] at hrp
  clear e1
  have hrpW : Rp w2.drew none es := hrp.below (F2.out.drew) (Nat.le_refl _)
  have S0 : w2.drew.cell? ⟨g, 0, none⟩ = some (.slice none 0 0) ∧ w2.drew.cell? ⟨pb, 0, none⟩ = some (.slice ka' k.length kc') ∧ w2.drew.cell? ⟨pb, 1, none⟩ = some (.int .u64 u) := ⟨H2.out, BX2.out.cell 0, BX2.out.cell 1⟩
  have rkd : Rd w2.drew ka' k := by
    obtain ⟨aq, cq, eq, hr, -⟩ := owns_rd OK2.out HB.out
    simp only [Value.slice.injEq] at eq
    obtain ⟨rfl, -, rfl⟩ := eq
    exact hr.drew
  have hA : (es.take 0).length = 0 := by rw [List.length_take]; omega
  have hD : (es.drop 0).length = 0 := by rw [List.length_drop]; omega
  have hs1 : Rp w2.drew none (es.take 0) := hrpW.take 0
  have hs2 : Rp w2.drew none (es.drop 0) := by rw [List.drop_eq_nil_of_le (by omega)]; exact Rp.nil _ _
  obtain ⟨c2, hc2⟩ : ∃ c2, 0 = c2 := ⟨_, rfl⟩
  have Q := chain_a (W := w2.drew) 0 c2 ⟨ka', kc', k, u⟩ hA hD hs1 hs2 rkd hu
  obtain ⟨a1a, d1a, w1a, a2a, d2a, w2a, a3a, d3a, w3a, r1a, f1a, r2a, fla, f2a, r3a, f3a, o3a⟩ := Q
  have Q := chain_b (W := w2.drew) 0 c2 ⟨ka', kc', k, u⟩ hA hD hs1 hs2 rkd hu
  obtain ⟨a1b, d1b, w1b, a2b, d2b, w2b, a3b, d3b, w3b, r1b, flb, f1b, r2b, f2b, r3b, f3b, o3b⟩ := Q
  subst hc2
  simp only [Nat.zero_add, Nat.add_zero] at r1a r2a r3a r1b r2b r3b fla flb o3a o3b
  have s1a := stood_below S0 f1a
  have sla := stood_below S0 fla
  have s2a := stood_below S0 f2a
  have s3a := stood_below S0 f3a
  have slb := stood_below S0 flb
  have s1b := stood_below S0 f1b
  have s2b := stood_below S0 f2b
  have s3b := stood_below S0 f3b
  have fin : ∀ (w3 : World) (v' : Value), Below w2.drew.heap.size w2.drew w3 → w3.ownsRow w2.drew.heap.size 54 2 v' (es.take 0 ++ (⟨ka', kc', k, u⟩ : Ent) :: es.drop 0).length (flat Ent.cells (es.take 0 ++ ⟨ka', kc', k, u⟩ :: es.drop 0)) → Md g (putM k u ps) K (w3.setCell ⟨g, 0, none⟩ v') ∧ Kp K w0 (w3.setCell ⟨g, 0, none⟩ v') ∧ Blk w3 g 50 [.slice none 0 0] := fun w3 v' f3 o3 => by
    have f3' : Below w0.heap.size w0 w3 := F2.out.trans ((show Below w2.heap.size w2 w3 from ⟨f3.os, f3.tape, f3.output, f3.size, f3.block⟩).mono F2.out.size)
    refine md_row H.out f3' (by show w0.heap.size ≤ w2.heap.size; exact F2.out.size) o3 (fun e he => ?_) ?_ (putM_ups H.out.up k u) (by simp; omega)
    · rcases List.mem_append.1 he with he | he
      · exact .inl (List.mem_of_mem_take he)
      · rcases List.mem_cons.1 he with rfl | he
        · exact .inr ⟨⟨own_bd (w := w2.drew) (B := w0.heap.size) OK2.out HB.out f3 o3, hk, hu⟩, own_cap OK2.out⟩
        · exact .inl (List.mem_of_mem_drop he)
    · unfold putM
      rw [HIN.out, HRK.out, if_neg (by simp), List.map_append, List.map_cons, List.map_take, List.map_drop, H.out.kv]
      rfl
  have fa := fin w3a _ f3a o3a
  have fb := fin w3b _ f3b o3b
  have za := fa.2.2.frozen 0
  have zb := fb.2.2.frozen 0
  have ya := fa.2.2.cell 0
  have yb := fb.2.2.cell 0
  simp only [List.getElem?_cons_zero] at ya yb
  have FA := hide (show Md g (putM k u ps) K (w3a.setCell ⟨g, 0, none⟩ (.slice a3a 1 d3a)) ∧ Kp K w0 (w3a.setCell ⟨g, 0, none⟩ (.slice a3a 1 d3a)) from ⟨fa.1, fa.2.1⟩)
  have FB := hide (show Md g (putM k u ps) K (w3b.setCell ⟨g, 0, none⟩ (.slice a3b 1 d3b)) ∧ Kp K w0 (w3b.setCell ⟨g, 0, none⟩ (.slice a3b 1 d3b)) from ⟨fb.1, fb.2.1⟩)
  clear fa fb fin o3a o3b f1a f2a f3a fla flb f1b f2b f3b hs1 hs2 hA hD rkd hrpW hrp
  refine regionF (S := fun W' : World => W'.cell? ⟨g, 0, none⟩ = some (.slice none 0 0) ∧ W'.cell? ⟨pb, 0, none⟩ = some (.slice ka' k.length kc') ∧ W'.cell? ⟨pb, 1, none⟩ = some (.int .u64 u)) (F := 20) (by kernel_rfl) ?_
  refine takeY (i := 0) (v := ?v0) rfl (by decide) (by kernel_rfl) (by kernel_rfl) (by kernel_rfl) (fun _ _ _ h => h) (Or.inl ⟨by rfl, ?hy0⟩) (fun _ => S0) ?rest0
  case hy0 => (intro w _; go_simp; first | done | with_reducible rfl)
  try simp only [Act.put, List.setIfInBounds_toArray, List.set_cons_zero, List.set_cons_succ]
  refine takeY (i := 1) (v := ?v1) rfl (by decide) (by kernel_rfl) (by kernel_rfl) (by kernel_rfl) (fun _ _ _ h => h) (Or.inl ⟨by rfl, ?hy1⟩) (fun _ => S0) ?rest1
  case hy1 => (intro w _; go_simp; first | done | with_reducible rfl)
  try simp only [Act.put, List.setIfInBounds_toArray, List.set_cons_zero, List.set_cons_succ]
  refine takeY (i := 2) (v := ?v2) rfl (by decide) (by kernel_rfl) (by kernel_rfl) (by kernel_rfl) (fun _ _ _ h => h) (Or.inl ⟨by rfl, ?hy2⟩) (fun _ => S0) ?rest2
  case hy2 => (intro w _; go_simp; first | done | with_reducible rfl)
  try simp only [Act.put, List.setIfInBounds_toArray, List.set_cons_zero, List.set_cons_succ]
  refine takeY (i := 3) (v := ?v3) rfl (by decide) (by kernel_rfl) (by kernel_rfl) (by kernel_rfl) (fun _ _ _ h => h) (Or.inl ⟨by rfl, ?hy3⟩) (fun _ => S0) ?rest3
  case hy3 => (intro w _; go_simp; first | done | with_reducible rfl)
  try simp only [Act.put, List.setIfInBounds_toArray, List.set_cons_zero, List.set_cons_succ]
  refine takeF (i := 4) (v := ?v4) rfl rfl (by kernel_rfl) (by decide) (by kernel_rfl) (by kernel_rfl) (by kernel_rfl) (by kernel_rfl) (fun _ _ _ h => h) (Or.inl ⟨by rfl, ?hy4⟩) S0 ?rest4
  case hy4 => (intro w hSw; obtain ⟨k0, k1, k2⟩ := hSw; go_simp; first | done | with_reducible rfl)
  try simp only [Act.put, List.setIfInBounds_toArray, List.set_cons_zero, List.set_cons_succ]
  refine takeY (i := 5) (v := ?v5) rfl (by decide) (by kernel_rfl) (by kernel_rfl) (by kernel_rfl) (fun _ _ _ h => h) (Or.inl ⟨by rfl, ?hy5⟩) (fun _ => S0) ?rest5
  case hy5 => (intro w _; go_simp; first | done | with_reducible rfl)
  try simp only [Act.put, List.setIfInBounds_toArray, List.set_cons_zero, List.set_cons_succ]
  refine takeY (i := 6) (v := ?v6) rfl (by decide) (by kernel_rfl) (by kernel_rfl) (by kernel_rfl) (fun _ _ _ h => h) (Or.inl ⟨by rfl, ?hy6⟩) (fun _ => S0) ?rest6
  case hy6 => (intro w _; go_simp; first | done | with_reducible rfl)
  try simp only [Act.put, List.setIfInBounds_toArray, List.set_cons_zero, List.set_cons_succ]
  refine takeF (i := 8) (v := ?v8) rfl rfl (by kernel_rfl) (by decide) (by kernel_rfl) (by kernel_rfl) (by kernel_rfl) (by kernel_rfl) (fun _ _ _ h => h) (Or.inl ⟨by rfl, ?hy8⟩) S0 ?rest8
  case hy8 => (intro w hSw; obtain ⟨k0, k1, k2⟩ := hSw; go_simp; first | done | with_reducible rfl)
  try simp only [Act.put, List.setIfInBounds_toArray, List.set_cons_zero, List.set_cons_succ]
  refine takeY (i := 11) (v := ?v11) rfl (by decide) (by kernel_rfl) (by kernel_rfl) (by kernel_rfl) (fun _ _ _ h => h) (Or.inl ⟨by rfl, ?hy11⟩) (fun _ => S0) ?rest11
  case hy11 => (intro w _; go_simp; first | done | with_reducible rfl)
  try simp only [Act.put, List.setIfInBounds_toArray, List.set_cons_zero, List.set_cons_succ]
  refine takeY (i := 12) (v := ?v12) rfl (by decide) (by kernel_rfl) (by kernel_rfl) (by kernel_rfl) (fun _ _ _ h => h) (Or.inl ⟨by rfl, ?hy12⟩) (fun _ => S0) ?rest12
  case hy12 => (intro w _; go_simp; first | done | with_reducible rfl)
  try simp only [Act.put, List.setIfInBounds_toArray, List.set_cons_zero, List.set_cons_succ]
  refine takeY (i := 13) (v := ?v13) rfl (by decide) (by kernel_rfl) (by kernel_rfl) (by kernel_rfl) (fun _ _ _ h => h) (Or.inl ⟨by rfl, ?hy13⟩) (fun _ => S0) ?rest13
  case hy13 => (intro w _; go_simp; first | done | with_reducible rfl)
  try simp only [Act.put, List.setIfInBounds_toArray, List.set_cons_zero, List.set_cons_succ]
  refine takeF (i := 14) (v := ?v14) rfl rfl (by kernel_rfl) (by decide) (by kernel_rfl) (by kernel_rfl) (by kernel_rfl) (by kernel_rfl) (fun _ _ _ h => h) (Or.inl ⟨by rfl, ?hy14⟩) S0 ?rest14
  case hy14 => (intro w hSw; obtain ⟨k0, k1, k2⟩ := hSw; go_simp; first | done | with_reducible rfl)
  try simp only [Act.put, List.setIfInBounds_toArray, List.set_cons_zero, List.set_cons_succ]
  refine takeY (i := 15) (v := ?v15) rfl (by decide) (by kernel_rfl) (by kernel_rfl) (by kernel_rfl) (fun _ _ _ h => h) (Or.inl ⟨by rfl, ?hy15⟩) (fun _ => S0) ?rest15
  case hy15 => (intro w _; go_simp; first | done | with_reducible rfl)
  try simp only [Act.put, List.setIfInBounds_toArray, List.set_cons_zero, List.set_cons_succ]
  refine takeY (i := 16) (v := ?v16) rfl (by decide) (by kernel_rfl) (by kernel_rfl) (by kernel_rfl) (fun _ _ _ h => h) (Or.inl ⟨by rfl, ?hy16⟩) (fun _ => S0) ?rest16
  case hy16 => (intro w _; go_simp; first | done | with_reducible rfl)
  try simp only [Act.put, List.setIfInBounds_toArray, List.set_cons_zero, List.set_cons_succ]
  refine readyF (rs := [7, 9]) (by kernel_rfl) (by simp) (AllF.cons rfl (fun K hK => ?_) (AllF.cons rfl (fun K hK => ?_) AllF.nil))
  · refine step_append_run rfl _ _ _ _ rfl _ _ _ _ rfl rfl r1a ?_
    refine hK.out _ _ (fun _ => s1a) ?_
    clear hK K
    try simp only [Act.put, List.setIfInBounds_toArray, List.set_cons_zero, List.set_cons_succ]
    refine readyF (rs := [9]) (by kernel_rfl) (by simp) (AllF.cons rfl (fun K hK => ?_) AllF.nil)
    go_simp
    refine hK.out _ _ (fun _ => sla) ?_
    clear hK K
    try simp only [Act.put, List.setIfInBounds_toArray, List.set_cons_zero, List.set_cons_succ]
    refine readyF (rs := [10]) (by kernel_rfl) (by simp) (AllF.cons rfl (fun K hK => ?_) AllF.nil)
    refine step_append_run rfl _ _ _ _ rfl _ _ _ _ rfl rfl r2a ?_
    refine hK.out _ _ (fun _ => s2a) ?_
    clear hK K
    try simp only [Act.put, List.setIfInBounds_toArray, List.set_cons_zero, List.set_cons_succ]
    refine readyF (rs := [17]) (by kernel_rfl) (by simp) (AllF.cons rfl (fun K hK => ?_) AllF.nil)
    refine step_append_run rfl _ _ _ _ rfl _ _ _ _ rfl rfl r3a ?_
    refine hK.out _ _ (fun _ => s3a) ?_
    clear hK K
    try simp only [Act.put, List.setIfInBounds_toArray, List.set_cons_zero, List.set_cons_succ]
    refine takeY (i := 18) (v := ?v18a) rfl (by decide) (by kernel_rfl) (by kernel_rfl) (by kernel_rfl) (fun _ _ _ h => h) (Or.inl ⟨by rfl, ?hy18a⟩) (fun _ => s3a) ?rest18a
    case hy18a => (intro w _; go_simp; first | done | with_reducible rfl)
    try simp only [Act.put, List.setIfInBounds_toArray, List.set_cons_zero, List.set_cons_succ]
    refine takeY (i := 19) (v := ?v19a) rfl (by decide) (by kernel_rfl) (by kernel_rfl) (by kernel_rfl) (fun _ _ _ h => h) (Or.inl ⟨by rfl, ?hy19a⟩) (fun _ => s3a) ?rest19a
    case hy19a => (intro w _; go_simp; first | done | with_reducible rfl)
    try simp only [Act.put, List.setIfInBounds_toArray, List.set_cons_zero, List.set_cons_succ]
    refine readyF (rs := [20]) (by kernel_rfl) (by simp) (AllF.cons rfl (fun K hK => ?_) AllF.nil)
    go_simp
    refine hK.out _ _ (fun h => absurd h (by simp)) ?_
    clear hK K
    try simp only [Act.put, List.setIfInBounds_toArray, List.set_cons_zero, List.set_cons_succ]
    refine doneF (by kernel_rfl) ?_ _
    go_wp2
    refine bodyPost_ret (results_tmp3 rfl _ _ _) rfl ?_
    refine ⟨?_, FA.out.1, FA.out.2⟩
    rw [hv.out]
    rfl
  · go_simp
    refine hK.out _ _ (fun _ => slb) ?_
    clear hK K
    try simp only [Act.put, List.setIfInBounds_toArray, List.set_cons_zero, List.set_cons_succ]
    refine readyF (rs := [7]) (by kernel_rfl) (by simp) (AllF.cons rfl (fun K hK => ?_) AllF.nil)
    refine step_append_run rfl _ _ _ _ rfl _ _ _ _ rfl rfl r1b ?_
    refine hK.out _ _ (fun _ => s1b) ?_
    clear hK K
    try simp only [Act.put, List.setIfInBounds_toArray, List.set_cons_zero, List.set_cons_succ]
    refine readyF (rs := [10]) (by kernel_rfl) (by simp) (AllF.cons rfl (fun K hK => ?_) AllF.nil)
    refine step_append_run rfl _ _ _ _ rfl _ _ _ _ rfl rfl r2b ?_
    refine hK.out _ _ (fun _ => s2b) ?_
    clear hK K
    try simp only [Act.put, List.setIfInBounds_toArray, List.set_cons_zero, List.set_cons_succ]
    refine readyF (rs := [17]) (by kernel_rfl) (by simp) (AllF.cons rfl (fun K hK => ?_) AllF.nil)
    refine step_append_run rfl _ _ _ _ rfl _ _ _ _ rfl rfl r3b ?_
    refine hK.out _ _ (fun _ => s3b) ?_
    clear hK K
    try simp only [Act.put, List.setIfInBounds_toArray, List.set_cons_zero, List.set_cons_succ]
    refine takeY (i := 18) (v := ?v18b) rfl (by decide) (by kernel_rfl) (by kernel_rfl) (by kernel_rfl) (fun _ _ _ h => h) (Or.inl ⟨by rfl, ?hy18b⟩) (fun _ => s3b) ?rest18b
    case hy18b => (intro w _; go_simp; first | done | with_reducible rfl)
    try simp only [Act.put, List.setIfInBounds_toArray, List.set_cons_zero, List.set_cons_succ]
    refine takeY (i := 19) (v := ?v19b) rfl (by decide) (by kernel_rfl) (by kernel_rfl) (by kernel_rfl) (fun _ _ _ h => h) (Or.inl ⟨by rfl, ?hy19b⟩) (fun _ => s3b) ?rest19b
    case hy19b => (intro w _; go_simp; first | done | with_reducible rfl)
    try simp only [Act.put, List.setIfInBounds_toArray, List.set_cons_zero, List.set_cons_succ]
    refine readyF (rs := [20]) (by kernel_rfl) (by simp) (AllF.cons rfl (fun K hK => ?_) AllF.nil)
    go_simp
    refine hK.out _ _ (fun h => absurd h (by simp)) ?_
    clear hK K
    try simp only [Act.put, List.setIfInBounds_toArray, List.set_cons_zero, List.set_cons_succ]
    refine doneF (by kernel_rfl) ?_ _
    go_wp2
    refine bodyPost_ret (results_tmp3 rfl _ _ _) rfl ?_
    refine ⟨?_, FB.out.1, FB.out.2⟩
    rw [hv.out]
    rfl

set_option maxHeartbeats 12800000 in
theorem put_old {g : Nat} {ps : List KV} {K : Nat → Prop} (ka : Option Addr) (kc : Nat) (k : List Int) (u : Int) (w : World) {F : Nat → Prop} {n c : Nat} {es : List Ent} {b : Nat} (h : MdF g ps K w F (.slice (some ⟨b, 0, none⟩) n c) es) (ht : Rd w ka k) (hk : k.length ≤ 65535) (hu : 0 ≤ u ∧ u ≤ 18446744073709551615) (hn : es.length < 1000000) (hnl : n = es.length) (hin : isIn k ps = true) {rk : Nat} (hrk : rankM k ps = rk) (hrl : rk ≤ es.length) (hc1 : es.length ≤ c) (hlt : rk < es.length) {u0 : Int} (hu0 : w.cell? ⟨b, rk * 2 + 1, none⟩ = some (.int .u64 u0)) (hv : Hid (valO (findM k ps) = u0)) :
    Calls Try.prog 20 #[.pointer (some ⟨g, 0, none⟩), .slice ka k.length kc, .int .u64 u] w fun r w' => r = .returned (.tuple #[.int .u64 (valO (findM k ps)), .bool true, .int .i64 0]) ∧ Md g (putM k u ps) K w' ∧ Kp K w w' := by
  have M := rmay_any ka k.length kc w ht.2.1
  have hd : decide ((k.length : Int) ≤ 65535) = true := by simp; omega
  rw [hd] at M
  have HM := hide M
  obtain ⟨ka', kc', w1, rk1, ok1, fk1⟩ := clone_u8 ht kc (by omega)
  have fW : Below w.heap.size w (w1.alloc (.cells #[.slice ka' k.length kc', .int .u64 u] 54 (0, 0))) := fk1.alloc fk1.size _
  have bx : Blk (w1.alloc (.cells #[.slice ka' k.length kc', .int .u64 u] 54 (0, 0))) w1.heap.size 54 [.slice ka' k.length kc', .int .u64 u] := Blk.new w1 _ _ _ rfl
  have ok2 := ok1.alloc (.cells #[.slice ka' k.length kc', .int .u64 u] 54 (0, 0))
  generalize hW1 : w1.alloc (.cells #[.slice ka' k.length kc', .int .u64 u] 54 (0, 0)) = W1 at fW bx ok2
  have P := find_any ka kc k W1 ((Md.lies g ps).below ⟨F, _, es, h⟩ fW) (ht.below fW (Nat.le_refl _))
  rw [hin, hrk] at P
  have HP := hide P
  have H := hide h
  have FW := hide fW
  have BX := hide bx
  have OK := hide ok2
  have HB := hide ht.1
  have HIN := hide hin
  have HRK := hide hrk
  obtain ⟨pb, hpb⟩ : ∃ pb, w1.heap.size = pb := ⟨_, rfl⟩
  rw [hpb] at BX
  clear M hd P h ht hin hrk fW bx ok1 ok2 fk1
  go_enter Try.func20, Try.ntmps20
  go_wp2_with fail
  refine HM.out.mono ?_
  rintro r w0 ⟨rfl, hw⟩
  subst hw
  clear HM
  go_wp2_with (at_builtin; refine wpList_append_run rfl _ _ _ _ rfl _ _ _ _ rfl rfl rk1 ?_)
  refine HP.out.mono ?_
  rintro r w2 ⟨rfl, f2⟩
  clear HP rk1 hW1
  have F2 : Hid (Below w0.heap.size w0 w2) := FW.out.trans (f2.mono FW.out.size)
  have BX2 := hide (BX.out.below f2 BX.out.lt)
  have OK2 := hide (OK.out.below f2 (Nat.le_refl _))
  have H2 := hide ((H.out.hd.below F2.out H.out.hd.lt).cell 0)
  have RW2 := hide (H.out.rp)
  clear f2
  simp only [List.getElem?_cons_zero] at H2
  have d0 := H2.out
  have c1 := (F2.out.cell (p := ⟨b, rk * 2 + 1, none⟩) (World.block_lt_of_cell? w0 _ hu0)).trans hu0
  have q0 : (rk : Int) < (n : Int) := by omega
  have q1 : (rk : Int) ≤ (c : Int) := by omega
  have q2 : (rk : Int) + 1 ≤ (n : Int) := by omega
  have q3 : (0 : Int) ≤ (rk : Int) + 1 := by omega
  have q4 : IntKind.i64.wrap ((rk : Int) + 1) = (rk : Int) + 1 := by rw [IntKind.wrap_i64]; omega
  have q5 : ((rk : Int) + 1).toNat = rk + 1 := by omega
  go_upto_region 7 with fail
  -- the pieces
  obtain ⟨aq, cq, eq, hrp⟩ := RW2.out
  simp only [Value.slice.injEq] at eq
  obtain ⟨e1, -, -⟩ := eq
  rw [← e1] at hrp
  clear e1
  have hrpW : Rp w2.drew (some ⟨b, 0, none⟩) es := hrp.below (F2.out.drew) (Nat.le_refl _)
  have S0 : w2.drew.cell? ⟨g, 0, none⟩ = some (.slice (some ⟨b, 0, none⟩) n c) ∧ w2.drew.cell? ⟨pb, 0, none⟩ = some (.slice ka' k.length kc') ∧ w2.drew.cell? ⟨pb, 1, none⟩ = some (.int .u64 u) := ⟨H2.out, BX2.out.cell 0, BX2.out.cell 1⟩
  have rkd : Rd w2.drew ka' k := by
    obtain ⟨aq, cq, eq, hr, -⟩ := owns_rd OK2.out HB.out
    simp only [Value.slice.injEq] at eq
    obtain ⟨rfl, -, rfl⟩ := eq
    exact hr.drew
  have hA : (es.take rk).length = rk := by rw [List.length_take]; omega
  have hD : (es.drop (rk + 1)).length = (n - (rk + 1)) := by rw [List.length_drop]; omega
  obtain ⟨o2, ho2⟩ : ∃ o2, (if c = rk + 1 then some (⟨b, 0, none⟩ : Addr) else some ⟨b, (rk + 1) * 2, none⟩) = some ⟨b, o2, none⟩ := by
    by_cases h : c = rk + 1
    · exact ⟨0, by rw [if_pos h]⟩
    · exact ⟨(rk + 1) * 2, by rw [if_neg h]⟩
  have hs1 : Rp w2.drew (some ⟨b, 0, none⟩) (es.take rk) := hrpW.take rk
  have hs2 : Rp w2.drew (some ⟨b, o2, none⟩) (es.drop (rk + 1)) := by
    rw [← ho2]
    by_cases h : c = rk + 1
    · rw [if_pos h, List.drop_eq_nil_of_le (by omega)]; exact Rp.nil _ _
    · rw [if_neg h]; have := hrpW.drop (rk + 1); rwa [Nat.zero_add] at this
  obtain ⟨c2, hc2⟩ : ∃ c2, c - (rk + 1) = c2 := ⟨_, rfl⟩
  have Q := chain_a (W := w2.drew) c c2 ⟨ka', kc', k, u⟩ hA hD hs1 hs2 rkd hu
  obtain ⟨a1a, d1a, w1a, a2a, d2a, w2a, a3a, d3a, w3a, r1a, f1a, r2a, fla, f2a, r3a, f3a, o3a⟩ := Q
  have Q := chain_b (W := w2.drew) c c2 ⟨ka', kc', k, u⟩ hA hD hs1 hs2 rkd hu
  obtain ⟨a1b, d1b, w1b, a2b, d2b, w2b, a3b, d3b, w3b, r1b, flb, f1b, r2b, f2b, r3b, f3b, o3b⟩ := Q
  simp only at r1a r2a r3a r1b r2b r3b fla flb
  have s1a := stood_below S0 f1a
  have sla := stood_below S0 fla
  have s2a := stood_below S0 f2a
  have s3a := stood_below S0 f3a
  have slb := stood_below S0 flb
  have s1b := stood_below S0 f1b
  have s2b := stood_below S0 f2b
  have s3b := stood_below S0 f3b
  have fin : ∀ (w3 : World) (v' : Value), Below w2.drew.heap.size w2.drew w3 → w3.ownsRow w2.drew.heap.size 54 2 v' (es.take rk ++ (⟨ka', kc', k, u⟩ : Ent) :: es.drop (rk + 1)).length (flat Ent.cells (es.take rk ++ ⟨ka', kc', k, u⟩ :: es.drop (rk + 1))) → Md g (putM k u ps) K (w3.setCell ⟨g, 0, none⟩ v') ∧ Kp K w0 (w3.setCell ⟨g, 0, none⟩ v') ∧ Blk w3 g 50 [.slice (some ⟨b, 0, none⟩) n c] := fun w3 v' f3 o3 => by
    have f3' : Below w0.heap.size w0 w3 := F2.out.trans ((show Below w2.heap.size w2 w3 from ⟨f3.os, f3.tape, f3.output, f3.size, f3.block⟩).mono F2.out.size)
    refine md_row H.out f3' (by show w0.heap.size ≤ w2.heap.size; exact F2.out.size) o3 (fun e he => ?_) ?_ (putM_ups H.out.up k u) (by simp; omega)
    · rcases List.mem_append.1 he with he | he
      · exact .inl (List.mem_of_mem_take he)
      · rcases List.mem_cons.1 he with rfl | he
        · exact .inr ⟨⟨own_bd (w := w2.drew) (B := w0.heap.size) OK2.out HB.out f3 o3, hk, hu⟩, own_cap OK2.out⟩
        · exact .inl (List.mem_of_mem_drop he)
    · unfold putM
      rw [HIN.out, HRK.out, if_pos rfl, List.map_append, List.map_cons, List.map_take, List.map_drop, H.out.kv]
      rfl
  have fa := fin w3a _ f3a o3a
  have fb := fin w3b _ f3b o3b
  have za := fa.2.2.frozen 0
  have zb := fb.2.2.frozen 0
  have ya := fa.2.2.cell 0
  have yb := fb.2.2.cell 0
  simp only [List.getElem?_cons_zero] at ya yb
  have FA := hide (show Md g (putM k u ps) K (w3a.setCell ⟨g, 0, none⟩ (.slice a3a (rk + 1 + (n - (rk + 1))) d3a)) ∧ Kp K w0 (w3a.setCell ⟨g, 0, none⟩ (.slice a3a (rk + 1 + (n - (rk + 1))) d3a)) from ⟨fa.1, fa.2.1⟩)
  have FB := hide (show Md g (putM k u ps) K (w3b.setCell ⟨g, 0, none⟩ (.slice a3b (rk + 1 + (n - (rk + 1))) d3b)) ∧ Kp K w0 (w3b.setCell ⟨g, 0, none⟩ (.slice a3b (rk + 1 + (n - (rk + 1))) d3b)) from ⟨fb.1, fb.2.1⟩)
  clear hnl
  clear fa fb fin o3a o3b f1a f2a f3a fla flb f1b f2b f3b hs1 hs2 hA hD rkd hrpW hrp
  refine regionF (S := fun W' : World => W'.cell? ⟨g, 0, none⟩ = some (.slice (some ⟨b, 0, none⟩) n c) ∧ W'.cell? ⟨pb, 0, none⟩ = some (.slice ka' k.length kc') ∧ W'.cell? ⟨pb, 1, none⟩ = some (.int .u64 u)) (F := 21) (by kernel_rfl) ?_
  refine takeY (i := 0) (v := ?v0) rfl (by decide) (by kernel_rfl) (by kernel_rfl) (by kernel_rfl) (fun _ _ _ h => h) (Or.inl ⟨by rfl, ?hy0⟩) (fun _ => S0) ?rest0
  case hy0 => (intro w _; go_simp; first | done | with_reducible rfl)
  try simp only [Act.put, List.setIfInBounds_toArray, List.set_cons_zero, List.set_cons_succ]
  refine takeY (i := 1) (v := ?v1) rfl (by decide) (by kernel_rfl) (by kernel_rfl) (by kernel_rfl) (fun _ _ _ h => h) (Or.inl ⟨by rfl, ?hy1⟩) (fun _ => S0) ?rest1
  case hy1 => (intro w _; go_simp; first | done | with_reducible rfl)
  try simp only [Act.put, List.setIfInBounds_toArray, List.set_cons_zero, List.set_cons_succ]
  refine takeY (i := 2) (v := ?v2) rfl (by decide) (by kernel_rfl) (by kernel_rfl) (by kernel_rfl) (fun _ _ _ h => h) (Or.inl ⟨by rfl, ?hy2⟩) (fun _ => S0) ?rest2
  case hy2 => (intro w _; go_simp; first | done | with_reducible rfl)
  try simp only [Act.put, List.setIfInBounds_toArray, List.set_cons_zero, List.set_cons_succ]
  refine takeY (i := 3) (v := ?v3) rfl (by decide) (by kernel_rfl) (by kernel_rfl) (by kernel_rfl) (fun _ _ _ h => h) (Or.inl ⟨by rfl, ?hy3⟩) (fun _ => S0) ?rest3
  case hy3 => (intro w _; go_simp; first | done | with_reducible rfl)
  try simp only [Act.put, List.setIfInBounds_toArray, List.set_cons_zero, List.set_cons_succ]
  refine takeF (i := 4) (v := ?v4) rfl rfl (by kernel_rfl) (by decide) (by kernel_rfl) (by kernel_rfl) (by kernel_rfl) (by kernel_rfl) (fun _ _ _ h => h) (Or.inl ⟨by rfl, ?hy4⟩) S0 ?rest4
  case hy4 => (intro w hSw; obtain ⟨k0, k1, k2⟩ := hSw; go_simp; first | done | with_reducible rfl)
  try simp only [Act.put, List.setIfInBounds_toArray, List.set_cons_zero, List.set_cons_succ]
  refine takeY (i := 5) (v := ?v5) rfl (by decide) (by kernel_rfl) (by kernel_rfl) (by kernel_rfl) (fun _ _ _ h => h) (Or.inl ⟨by rfl, ?hy5⟩) (fun _ => S0) ?rest5
  case hy5 => (intro w _; go_simp; first | done | with_reducible rfl)
  try simp only [Act.put, List.setIfInBounds_toArray, List.set_cons_zero, List.set_cons_succ]
  refine takeY (i := 6) (v := ?v6) rfl (by decide) (by kernel_rfl) (by kernel_rfl) (by kernel_rfl) (fun _ _ _ h => h) (Or.inl ⟨by rfl, ?hy6⟩) (fun _ => S0) ?rest6
  case hy6 => (intro w _; go_simp; first | done | with_reducible rfl)
  try simp only [Act.put, List.setIfInBounds_toArray, List.set_cons_zero, List.set_cons_succ]
  refine takeF (i := 8) (v := ?v8) rfl rfl (by kernel_rfl) (by decide) (by kernel_rfl) (by kernel_rfl) (by kernel_rfl) (by kernel_rfl) (fun _ _ _ h => h) (Or.inl ⟨by rfl, ?hy8⟩) S0 ?rest8
  case hy8 => (intro w hSw; obtain ⟨k0, k1, k2⟩ := hSw; go_simp; first | done | with_reducible rfl)
  try simp only [Act.put, List.setIfInBounds_toArray, List.set_cons_zero, List.set_cons_succ]
  refine takeY (i := 11) (v := ?v11) rfl (by decide) (by kernel_rfl) (by kernel_rfl) (by kernel_rfl) (fun _ _ _ h => h) (Or.inl ⟨by rfl, ?hy11⟩) (fun _ => S0) ?rest11
  case hy11 => (intro w _; go_simp; first | done | with_reducible rfl)
  try simp only [Act.put, List.setIfInBounds_toArray, List.set_cons_zero, List.set_cons_succ]
  refine takeY (i := 12) (v := ?v12) rfl (by decide) (by kernel_rfl) (by kernel_rfl) (by kernel_rfl) (fun _ _ _ h => h) (Or.inl ⟨by rfl, ?hy12⟩) (fun _ => S0) ?rest12
  case hy12 => (intro w _; go_simp; first | done | with_reducible rfl)
  try simp only [Act.put, List.setIfInBounds_toArray, List.set_cons_zero, List.set_cons_succ]
  refine takeY (i := 13) (v := ?v13) rfl (by decide) (by kernel_rfl) (by kernel_rfl) (by kernel_rfl) (fun _ _ _ h => h) (Or.inl ⟨by rfl, ?hy13⟩) (fun _ => S0) ?rest13
  case hy13 => (intro w _; go_simp; first | done | with_reducible rfl)
  try simp only [Act.put, List.setIfInBounds_toArray, List.set_cons_zero, List.set_cons_succ]
  refine takeF (i := 14) (v := ?v14) rfl rfl (by kernel_rfl) (by decide) (by kernel_rfl) (by kernel_rfl) (by kernel_rfl) (by kernel_rfl) (fun _ _ _ h => h) (Or.inl ⟨by rfl, ?hy14⟩) S0 ?rest14
  case hy14 => (intro w hSw; obtain ⟨k0, k1, k2⟩ := hSw; go_simp; first | done | with_reducible rfl)
  try simp only [Act.put, List.setIfInBounds_toArray, List.set_cons_zero, List.set_cons_succ]
  refine takeY (i := 15) (v := ?v15) rfl (by decide) (by kernel_rfl) (by kernel_rfl) (by kernel_rfl) (fun _ _ _ h => h) (Or.inl ⟨by rfl, ?hy15⟩) (fun _ => S0) ?rest15
  case hy15 => (intro w _; go_simp; first | done | with_reducible rfl)
  try simp only [Act.put, List.setIfInBounds_toArray, List.set_cons_zero, List.set_cons_succ]
  refine takeY (i := 16) (v := ?v16) rfl (by decide) (by kernel_rfl) (by kernel_rfl) (by kernel_rfl) (fun _ _ _ h => h) (Or.inl ⟨by rfl, ?hy16⟩) (fun _ => S0) ?rest16
  case hy16 => (intro w _; go_simp; first | done | with_reducible rfl)
  try simp only [Act.put, List.setIfInBounds_toArray, List.set_cons_zero, List.set_cons_succ]
  refine takeY (i := 17) (v := ?v17) rfl (by decide) (by kernel_rfl) (by kernel_rfl) (by kernel_rfl) (fun _ _ _ h => h) (Or.inl ⟨by rfl, ?hy17⟩) (fun _ => S0) ?rest17
  case hy17 => (intro w _; go_simp; first | done | with_reducible rfl)
  try simp only [Act.put, List.setIfInBounds_toArray, List.set_cons_zero, List.set_cons_succ]
  refine readyF (rs := [7, 9]) (by kernel_rfl) (by simp) (AllF.cons rfl (fun K hK => ?_) (AllF.cons rfl (fun K hK => ?_) AllF.nil))
  · refine step_append_run rfl _ _ _ _ rfl _ _ _ _ rfl rfl r1a ?_
    refine hK.out _ _ (fun _ => s1a) ?_
    clear hK K
    try simp only [Act.put, List.setIfInBounds_toArray, List.set_cons_zero, List.set_cons_succ]
    refine readyF (rs := [9]) (by kernel_rfl) (by simp) (AllF.cons rfl (fun K hK => ?_) AllF.nil)
    go_simp
    refine hK.out _ _ (fun _ => sla) ?_
    clear hK K
    try simp only [Act.put, List.setIfInBounds_toArray, List.set_cons_zero, List.set_cons_succ]
    refine readyF (rs := [10]) (by kernel_rfl) (by simp) (AllF.cons rfl (fun K hK => ?_) AllF.nil)
    refine step_append_run rfl _ _ _ _ rfl _ _ _ _ rfl rfl r2a ?_
    refine hK.out _ _ (fun _ => s2a) ?_
    clear hK K
    try simp only [Act.put, List.setIfInBounds_toArray, List.set_cons_zero, List.set_cons_succ]
    refine readyF (rs := [18]) (by kernel_rfl) (by simp) (AllF.cons rfl (fun K hK => ?_) AllF.nil)
    refine step_append_run rfl _ _ _ _ rfl _ _ _ _ rfl rfl r3a ?_
    refine hK.out _ _ (fun _ => s3a) ?_
    clear hK K
    try simp only [Act.put, List.setIfInBounds_toArray, List.set_cons_zero, List.set_cons_succ]
    refine takeY (i := 19) (v := ?v19a) rfl (by decide) (by kernel_rfl) (by kernel_rfl) (by kernel_rfl) (fun _ _ _ h => h) (Or.inl ⟨by rfl, ?hy19a⟩) (fun _ => s3a) ?rest19a
    case hy19a => (intro w _; go_simp; first | done | with_reducible rfl)
    try simp only [Act.put, List.setIfInBounds_toArray, List.set_cons_zero, List.set_cons_succ]
    refine takeY (i := 20) (v := ?v20a) rfl (by decide) (by kernel_rfl) (by kernel_rfl) (by kernel_rfl) (fun _ _ _ h => h) (Or.inl ⟨by rfl, ?hy20a⟩) (fun _ => s3a) ?rest20a
    case hy20a => (intro w _; go_simp; first | done | with_reducible rfl)
    try simp only [Act.put, List.setIfInBounds_toArray, List.set_cons_zero, List.set_cons_succ]
    refine readyF (rs := [21]) (by kernel_rfl) (by simp) (AllF.cons rfl (fun K hK => ?_) AllF.nil)
    go_simp
    refine hK.out _ _ (fun h => absurd h (by simp)) ?_
    clear hK K
    try simp only [Act.put, List.setIfInBounds_toArray, List.set_cons_zero, List.set_cons_succ]
    refine doneF (by kernel_rfl) ?_ _
    go_wp2
    refine bodyPost_ret (results_tmp3 rfl _ _ _) rfl ?_
    refine ⟨?_, FA.out.1, FA.out.2⟩
    rw [hv.out]
    rfl
  · go_simp
    refine hK.out _ _ (fun _ => slb) ?_
    clear hK K
    try simp only [Act.put, List.setIfInBounds_toArray, List.set_cons_zero, List.set_cons_succ]
    refine readyF (rs := [7]) (by kernel_rfl) (by simp) (AllF.cons rfl (fun K hK => ?_) AllF.nil)
    refine step_append_run rfl _ _ _ _ rfl _ _ _ _ rfl rfl r1b ?_
    refine hK.out _ _ (fun _ => s1b) ?_
    clear hK K
    try simp only [Act.put, List.setIfInBounds_toArray, List.set_cons_zero, List.set_cons_succ]
    refine readyF (rs := [10]) (by kernel_rfl) (by simp) (AllF.cons rfl (fun K hK => ?_) AllF.nil)
    refine step_append_run rfl _ _ _ _ rfl _ _ _ _ rfl rfl r2b ?_
    refine hK.out _ _ (fun _ => s2b) ?_
    clear hK K
    try simp only [Act.put, List.setIfInBounds_toArray, List.set_cons_zero, List.set_cons_succ]
    refine readyF (rs := [18]) (by kernel_rfl) (by simp) (AllF.cons rfl (fun K hK => ?_) AllF.nil)
    refine step_append_run rfl _ _ _ _ rfl _ _ _ _ rfl rfl r3b ?_
    refine hK.out _ _ (fun _ => s3b) ?_
    clear hK K
    try simp only [Act.put, List.setIfInBounds_toArray, List.set_cons_zero, List.set_cons_succ]
    refine takeY (i := 19) (v := ?v19b) rfl (by decide) (by kernel_rfl) (by kernel_rfl) (by kernel_rfl) (fun _ _ _ h => h) (Or.inl ⟨by rfl, ?hy19b⟩) (fun _ => s3b) ?rest19b
    case hy19b => (intro w _; go_simp; first | done | with_reducible rfl)
    try simp only [Act.put, List.setIfInBounds_toArray, List.set_cons_zero, List.set_cons_succ]
    refine takeY (i := 20) (v := ?v20b) rfl (by decide) (by kernel_rfl) (by kernel_rfl) (by kernel_rfl) (fun _ _ _ h => h) (Or.inl ⟨by rfl, ?hy20b⟩) (fun _ => s3b) ?rest20b
    case hy20b => (intro w _; go_simp; first | done | with_reducible rfl)
    try simp only [Act.put, List.setIfInBounds_toArray, List.set_cons_zero, List.set_cons_succ]
    refine readyF (rs := [21]) (by kernel_rfl) (by simp) (AllF.cons rfl (fun K hK => ?_) AllF.nil)
    go_simp
    refine hK.out _ _ (fun h => absurd h (by simp)) ?_
    clear hK K
    try simp only [Act.put, List.setIfInBounds_toArray, List.set_cons_zero, List.set_cons_succ]
    refine doneF (by kernel_rfl) ?_ _
    go_wp2
    refine bodyPost_ret (results_tmp3 rfl _ _ _) rfl ?_
    refine ⟨?_, FB.out.1, FB.out.2⟩
    rw [hv.out]
    rfl

/-- Put, wherever. -/
theorem put_any {g : Nat} {ps : List KV} {K : Nat → Prop} (ka : Option Addr) (kc : Nat) (k : List Int) (u : Int) (w : World) (h : Md g ps K w) (ht : Rd w ka k) (hk : k.length ≤ 65535) (hu : 0 ≤ u ∧ u ≤ 18446744073709551615) (hn : ps.length < 1000000) :
    Calls Try.prog 20 #[.pointer (some ⟨g, 0, none⟩), .slice ka k.length kc, .int .u64 u] w fun r w' => r = .returned (.tuple #[.int .u64 (valO (findM k ps)), .bool (isIn k ps), .int .i64 0]) ∧ Md g (putM k u ps) K w' ∧ Kp K w w' := by
  obtain ⟨F, v, es, h⟩ := h
  have hrl := rank_le k ps
  rw [h.len] at hrl hn
  have hcap : v = .slice none 0 0 ∧ es.length = 0 ∨ ∃ b c, v = .slice (some ⟨b, 0, none⟩) es.length c ∧ es.length ≤ c := by
    rcases h.row.2 with ⟨e0, e1⟩ | ⟨b, cap, cur, e0, _, hg, h1, h2, h3, h4⟩
    · exact .inl ⟨e0, e1⟩
    · exact .inr ⟨b, cap, e0, h1⟩
  cases hin : isIn k ps with
  | false =>
    rcases hcap with ⟨rfl, h0⟩ | ⟨b, c, rfl, hc⟩
    · exact put_new_none ka kc k u w h ht hk hu hn hin (by omega) (by omega) h0
    · exact put_new_some ka kc k u w h ht hk hu hn rfl hin rfl hrl hc
  | true =>
    obtain ⟨u0, hu0⟩ := isIn_true hin
    obtain ⟨b, c, e, rfl, he, hke, hil, c0, c1⟩ := h.cells hu0
    have hev : e.v = u0 := congrArg Prod.snd hke
    rw [hev] at c1
    rcases hcap with ⟨e0, h0⟩ | ⟨b', c', e0, hc⟩
    · simp at e0
    · simp only [Value.slice.injEq] at e0
      obtain ⟨-, -, rfl⟩ := e0
      exact put_old ka kc k u w h ht hk hu hn rfl hin rfl hrl hc hil c1 (by show _ = _; unfold findM; rw [if_pos hin, hu0]; rfl)
end Go.Proofs.Ytahlbebkcoofkaa.Rf
