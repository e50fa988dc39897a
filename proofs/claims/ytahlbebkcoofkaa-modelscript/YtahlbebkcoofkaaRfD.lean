/- The document's map: Drop. -/
import Derived.Test.YtahlbebkcoofkaaRfL
import Derived.Test.YtahlbebkcoofkaaOrdF
namespace Go.Proofs.Ytahlbebkcoofkaa.Rf
open Go.RowKit Go.Sort Go.Proofs.Ytahlbebkcoofkaa
set_option linter.unusedVariables false
set_option linter.unusedSimpArgs false
set_option maxRecDepth 20000

set_option maxHeartbeats 12800000 in
theorem drop_old {g : Nat} {ps : List KV} {K : Nat → Prop} (ka : Option Addr) (kc : Nat) (k : List Int) (w : World) {F : Nat → Prop} {n c : Nat} {es : List Ent} {b : Nat} (h : MdF g ps K w F (.slice (some ⟨b, 0, none⟩) n c) es) (ht : Rd w ka k) (hnl : n = es.length) (hin : isIn k ps = true) {rk : Nat} (hrk : rankM k ps = rk) (hc1 : es.length ≤ c) (hlt : rk < es.length) {u0 : Int} (hu0 : w.cell? ⟨b, rk * 2 + 1, none⟩ = some (.int .u64 u0)) (hv : Hid (valO (findM k ps) = u0)) :
    Calls Try.prog 16 #[.pointer (some ⟨g, 0, none⟩), .slice ka k.length kc] w fun r w' => r = .returned (.tuple #[.int .u64 (valO (findM k ps)), .bool true]) ∧ Md g (dropM k ps) K w' ∧ Kp K w w' := by
  have P := find_any ka kc k w ⟨F, _, es, h⟩ ht
  rw [hin, hrk] at P
  have HP := hide P
  have H := hide h
  have hln := h.ln
  have HIN := hide hin
  have HRK := hide hrk
  clear P h ht hin hrk
  go_enter Try.func16, Try.ntmps16
  go_wp2_with fail
  refine HP.out.mono ?_
  rintro r w2 ⟨rfl, f2⟩
  clear HP
  have F2 := hide f2
  have H2 := hide ((H.out.hd.below F2.out H.out.hd.lt).cell 0)
  have RW2 := hide (H.out.rp)
  clear f2
  simp only [List.getElem?_cons_zero] at H2
  have d0 := H2.out
  have c1 := (F2.out.cell (p := ⟨b, rk * 2 + 1, none⟩) (World.block_lt_of_cell? w _ hu0)).trans hu0
  have q0 : (rk : Int) < (n : Int) := by omega
  have q1 : (rk : Int) ≤ (c : Int) := by omega
  have q2 : (rk : Int) + 1 ≤ (n : Int) := by omega
  have q3 : (0 : Int) ≤ (rk : Int) + 1 := by omega
  have q4 : IntKind.i64.wrap ((rk : Int) + 1) = (rk : Int) + 1 := by rw [IntKind.wrap_i64]; omega
  have q5 : ((rk : Int) + 1).toNat = rk + 1 := by omega
  go_upto_region 6 with fail
  obtain ⟨aq, cq, eq, hrp⟩ := RW2.out
  simp only [Value.slice.injEq] at eq
  obtain ⟨e1, -, -⟩ := eq
  rw [← e1] at hrp
  clear e1
  have hrpW : Rp w2.drew (some ⟨b, 0, none⟩) es := hrp.below (F2.out.drew) (Nat.le_refl _)
  have S0 : w2.drew.cell? ⟨g, 0, none⟩ = some (.slice (some ⟨b, 0, none⟩) n c) := H2.out
  have hA : (es.take rk).length = rk := by rw [List.length_take]; omega
  have hD : (es.drop (rk + 1)).length = (n - (rk + 1)) := by rw [List.length_drop]; omega
  obtain ⟨o2, ho2⟩ : ∃ o2, (if c = rk + 1 then some (⟨b, 0, none⟩ : Addr) else some ⟨b, (rk + 1) * 2, none⟩) = some ⟨b, o2, none⟩ := by
    by_cases h : c = rk + 1
    · exact ⟨0, by rw [if_pos h]⟩
    · exact ⟨(rk + 1) * 2, by rw [if_neg h]⟩
  have hs1 : Rp w2.drew (some ⟨b, 0, none⟩) (es.take rk) := hrpW.take rk
  have hs2 : Rp w2.drew (some ⟨b, o2, none⟩) (es.drop (rk + 1)) := by
    rw [← ho2]
    by_cases h : c = rk + 1
    · rw [if_pos h, List.drop_eq_nil_of_le (by omega)]; exact Rp.nil _ _
    · rw [if_neg h]; have := hrpW.drop (rk + 1); rwa [Nat.zero_add] at this
  obtain ⟨c2, hc2⟩ : ∃ c2, c - (rk + 1) = c2 := ⟨_, rfl⟩
  obtain ⟨a1a, d1a, w1a, a3a, d3a, w3a, r1a, f1a, r3a, f3a, o3a⟩ := chain_d (W := w2.drew) c c2 hA hD hs1 hs2
  have s1a := (f1a.cell (p := ⟨g, 0, none⟩) (World.block_lt_of_cell? w2.drew _ S0)).trans S0
  have s3a := (f3a.cell (p := ⟨g, 0, none⟩) (World.block_lt_of_cell? w2.drew _ S0)).trans S0
  have fa : Md g (dropM k ps) K (w3a.setCell ⟨g, 0, none⟩ (.slice a3a (rk + (n - (rk + 1))) d3a)) ∧ Kp K w (w3a.setCell ⟨g, 0, none⟩ (.slice a3a (rk + (n - (rk + 1))) d3a)) ∧ Blk w3a g 50 [.slice (some ⟨b, 0, none⟩) n c] := by
    have f3' : Below w.heap.size w w3a := F2.out.trans ((show Below w2.heap.size w2 w3a from ⟨f3a.os, f3a.tape, f3a.output, f3a.size, f3a.block⟩).mono F2.out.size)
    refine md_row H.out f3' (by show w.heap.size ≤ w2.heap.size; exact F2.out.size) o3a (fun e he => ?_) ?_ (dropM_ups H.out.up k) (by simp; omega)
    · rcases List.mem_append.1 he with he | he
      · exact .inl (List.mem_of_mem_take he)
      · exact .inl (List.mem_of_mem_drop he)
    · unfold dropM
      rw [HIN.out, HRK.out, if_pos rfl, List.map_append, List.map_take, List.map_drop, H.out.kv]
  have za := fa.2.2.frozen 0
  have ya := fa.2.2.cell 0
  simp only [List.getElem?_cons_zero] at ya
  have FA := hide (show Md g (dropM k ps) K (w3a.setCell ⟨g, 0, none⟩ (.slice a3a (rk + (n - (rk + 1))) d3a)) ∧ Kp K w (w3a.setCell ⟨g, 0, none⟩ (.slice a3a (rk + (n - (rk + 1))) d3a)) from ⟨fa.1, fa.2.1⟩)
  clear hnl
  clear fa o3a f1a f3a hs1 hs2 hA hD hrpW hrp
  refine regionF (S := fun W' : World => W'.cell? ⟨g, 0, none⟩ = some (.slice (some ⟨b, 0, none⟩) n c)) (F := 18) (by kernel_rfl) ?_
  refine takeY (i := 0) (v := ?v0) rfl (by decide) (by kernel_rfl) (by kernel_rfl) (by kernel_rfl) (fun _ _ _ h => h) (Or.inl ⟨by rfl, ?hy0⟩) (fun _ => S0) ?rest0
  case hy0 => (intro w _; go_simp; first | done | with_reducible rfl)
  try simp only [Act.put, List.setIfInBounds_toArray, List.set_cons_zero, List.set_cons_succ]
  refine takeY (i := 1) (v := ?v1) rfl (by decide) (by kernel_rfl) (by kernel_rfl) (by kernel_rfl) (fun _ _ _ h => h) (Or.inl ⟨by rfl, ?hy1⟩) (fun _ => S0) ?rest1
  case hy1 => (intro w _; go_simp; first | done | with_reducible rfl)
  try simp only [Act.put, List.setIfInBounds_toArray, List.set_cons_zero, List.set_cons_succ]
  refine takeY (i := 2) (v := ?v2) rfl (by decide) (by kernel_rfl) (by kernel_rfl) (by kernel_rfl) (fun _ _ _ h => h) (Or.inl ⟨by rfl, ?hy2⟩) (fun _ => S0) ?rest2
  case hy2 => (intro w _; go_simp; first | done | with_reducible rfl)
  try simp only [Act.put, List.setIfInBounds_toArray, List.set_cons_zero, List.set_cons_succ]
  refine takeY (i := 3) (v := ?v3) rfl (by decide) (by kernel_rfl) (by kernel_rfl) (by kernel_rfl) (fun _ _ _ h => h) (Or.inl ⟨by rfl, ?hy3⟩) (fun _ => S0) ?rest3
  case hy3 => (intro w _; go_simp; first | done | with_reducible rfl)
  try simp only [Act.put, List.setIfInBounds_toArray, List.set_cons_zero, List.set_cons_succ]
  refine takeF (i := 4) (v := ?v4) rfl rfl (by kernel_rfl) (by decide) (by kernel_rfl) (by kernel_rfl) (by kernel_rfl) (by kernel_rfl) (fun _ _ _ h => h) (Or.inl ⟨by rfl, ?hy4⟩) S0 ?rest4
  case hy4 => (intro w hSw; have k0 := hSw; go_simp; first | done | with_reducible rfl)
  try simp only [Act.put, List.setIfInBounds_toArray, List.set_cons_zero, List.set_cons_succ]
  refine takeY (i := 5) (v := ?v5) rfl (by decide) (by kernel_rfl) (by kernel_rfl) (by kernel_rfl) (fun _ _ _ h => h) (Or.inl ⟨by rfl, ?hy5⟩) (fun _ => S0) ?rest5
  case hy5 => (intro w _; go_simp; first | done | with_reducible rfl)
  try simp only [Act.put, List.setIfInBounds_toArray, List.set_cons_zero, List.set_cons_succ]
  refine takeY (i := 6) (v := ?v6) rfl (by decide) (by kernel_rfl) (by kernel_rfl) (by kernel_rfl) (fun _ _ _ h => h) (Or.inl ⟨by rfl, ?hy6⟩) (fun _ => S0) ?rest6
  case hy6 => (intro w _; go_simp; first | done | with_reducible rfl)
  try simp only [Act.put, List.setIfInBounds_toArray, List.set_cons_zero, List.set_cons_succ]
  refine takeY (i := 8) (v := ?v8) rfl (by decide) (by kernel_rfl) (by kernel_rfl) (by kernel_rfl) (fun _ _ _ h => h) (Or.inl ⟨by rfl, ?hy8⟩) (fun _ => S0) ?rest8
  case hy8 => (intro w _; go_simp; first | done | with_reducible rfl)
  try simp only [Act.put, List.setIfInBounds_toArray, List.set_cons_zero, List.set_cons_succ]
  refine takeY (i := 9) (v := ?v9) rfl (by decide) (by kernel_rfl) (by kernel_rfl) (by kernel_rfl) (fun _ _ _ h => h) (Or.inl ⟨by rfl, ?hy9⟩) (fun _ => S0) ?rest9
  case hy9 => (intro w _; go_simp; first | done | with_reducible rfl)
  try simp only [Act.put, List.setIfInBounds_toArray, List.set_cons_zero, List.set_cons_succ]
  refine takeY (i := 10) (v := ?v10) rfl (by decide) (by kernel_rfl) (by kernel_rfl) (by kernel_rfl) (fun _ _ _ h => h) (Or.inl ⟨by rfl, ?hy10⟩) (fun _ => S0) ?rest10
  case hy10 => (intro w _; go_simp; first | done | with_reducible rfl)
  try simp only [Act.put, List.setIfInBounds_toArray, List.set_cons_zero, List.set_cons_succ]
  refine takeF (i := 11) (v := ?v11) rfl rfl (by kernel_rfl) (by decide) (by kernel_rfl) (by kernel_rfl) (by kernel_rfl) (by kernel_rfl) (fun _ _ _ h => h) (Or.inl ⟨by rfl, ?hy11⟩) S0 ?rest11
  case hy11 => (intro w hSw; have k0 := hSw; go_simp; first | done | with_reducible rfl)
  try simp only [Act.put, List.setIfInBounds_toArray, List.set_cons_zero, List.set_cons_succ]
  refine takeY (i := 12) (v := ?v12) rfl (by decide) (by kernel_rfl) (by kernel_rfl) (by kernel_rfl) (fun _ _ _ h => h) (Or.inl ⟨by rfl, ?hy12⟩) (fun _ => S0) ?rest12
  case hy12 => (intro w _; go_simp; first | done | with_reducible rfl)
  try simp only [Act.put, List.setIfInBounds_toArray, List.set_cons_zero, List.set_cons_succ]
  refine takeY (i := 13) (v := ?v13) rfl (by decide) (by kernel_rfl) (by kernel_rfl) (by kernel_rfl) (fun _ _ _ h => h) (Or.inl ⟨by rfl, ?hy13⟩) (fun _ => S0) ?rest13
  case hy13 => (intro w _; go_simp; first | done | with_reducible rfl)
  try simp only [Act.put, List.setIfInBounds_toArray, List.set_cons_zero, List.set_cons_succ]
  refine takeY (i := 14) (v := ?v14) rfl (by decide) (by kernel_rfl) (by kernel_rfl) (by kernel_rfl) (fun _ _ _ h => h) (Or.inl ⟨by rfl, ?hy14⟩) (fun _ => S0) ?rest14
  case hy14 => (intro w _; go_simp; first | done | with_reducible rfl)
  try simp only [Act.put, List.setIfInBounds_toArray, List.set_cons_zero, List.set_cons_succ]
  refine readyF (rs := [7]) (by kernel_rfl) (by simp) (AllF.cons rfl (fun K hK => ?_) AllF.nil)
  refine step_append_run rfl _ _ _ _ rfl _ _ _ _ rfl rfl r1a ?_
  refine hK.out _ _ (fun _ => s1a) ?_
  clear hK K
  try simp only [Act.put, List.setIfInBounds_toArray, List.set_cons_zero, List.set_cons_succ]
  refine readyF (rs := [15]) (by kernel_rfl) (by simp) (AllF.cons rfl (fun K hK => ?_) AllF.nil)
  refine step_append_run rfl _ _ _ _ rfl _ _ _ _ rfl rfl r3a ?_
  refine hK.out _ _ (fun _ => s3a) ?_
  clear hK K
  try simp only [Act.put, List.setIfInBounds_toArray, List.set_cons_zero, List.set_cons_succ]
  refine takeY (i := 16) (v := ?v16a) rfl (by decide) (by kernel_rfl) (by kernel_rfl) (by kernel_rfl) (fun _ _ _ h => h) (Or.inl ⟨by rfl, ?hy16a⟩) (fun _ => s3a) ?rest16a
  case hy16a => (intro w _; go_simp; first | done | with_reducible rfl)
  try simp only [Act.put, List.setIfInBounds_toArray, List.set_cons_zero, List.set_cons_succ]
  refine takeY (i := 17) (v := ?v17a) rfl (by decide) (by kernel_rfl) (by kernel_rfl) (by kernel_rfl) (fun _ _ _ h => h) (Or.inl ⟨by rfl, ?hy17a⟩) (fun _ => s3a) ?rest17a
  case hy17a => (intro w _; go_simp; first | done | with_reducible rfl)
  try simp only [Act.put, List.setIfInBounds_toArray, List.set_cons_zero, List.set_cons_succ]
  refine readyF (rs := [18]) (by kernel_rfl) (by simp) (AllF.cons rfl (fun K hK => ?_) AllF.nil)
  go_simp
  refine hK.out _ _ (fun h => absurd h (by simp)) ?_
  clear hK K
  try simp only [Act.put, List.setIfInBounds_toArray, List.set_cons_zero, List.set_cons_succ]
  refine doneF (by kernel_rfl) ?_ _
  go_wp2
  go_ret2
  refine ⟨?_, FA.out.1, FA.out.2⟩
  rw [hv.out]
  rfl

set_option maxHeartbeats 1000000 in
theorem drop_any {g : Nat} {ps : List KV} {K : Nat → Prop} (ka : Option Addr) (kc : Nat) (k : List Int) (w : World) (h : Md g ps K w) (ht : Rd w ka k) :
    Calls Try.prog 16 #[.pointer (some ⟨g, 0, none⟩), .slice ka k.length kc] w fun r w' => r = .returned (.tuple #[.int .u64 (valO (findM k ps)), .bool (isIn k ps)]) ∧ Md g (dropM k ps) K w' ∧ Kp K w w' := by
  cases hin : isIn k ps with
  | false =>
    have P := hide (find_any ka kc k w h ht)
    have hv : Hid (valO (findM k ps) = 0) := by show _ = _; unfold findM; rw [hin]; rfl
    have hdr : Hid (dropM k ps = ps) := by show _ = _; unfold dropM; rw [hin]; rfl
    rw [hin] at P
    generalize rankM k ps = rk at P
    have H := hide h
    clear h ht hin
    go_enter Try.func16, Try.ntmps16
    go_wp2_with fail
    refine P.out.mono ?_
    rintro r w2 ⟨rfl, f2⟩
    have F2 := hide f2
    clear f2
    go_wp2
    go_ret2
    refine ⟨?_, ?_, (Kp.of_below F2.out).mono (fun x hx => (Md.lies g ps).lt H.out x hx)⟩
    · rw [hv.out]; rfl
    · rw [hdr.out]; exact (Md.lies g ps).below H.out F2.out
  | true =>
    obtain ⟨F, v, es, h⟩ := h
    obtain ⟨u0, hu0⟩ := isIn_true hin
    obtain ⟨b, c, e, rfl, he, hke, hil, c0, c1⟩ := h.cells hu0
    have hev : e.v = u0 := congrArg Prod.snd hke
    rw [hev] at c1
    have hcap : es.length ≤ c := by
      rcases h.row.2 with ⟨e0, e1⟩ | ⟨b', cap, cur, e0, _, hg, h1, h2, h3, h4⟩
      · simp at e0
      · simp only [Value.slice.injEq] at e0
        obtain ⟨-, -, rfl⟩ := e0
        exact h1
    exact drop_old ka kc k w h ht rfl hin rfl hcap hil c1 (by show _ = _; unfold findM; rw [if_pos hin, hu0]; rfl)
end Go.Proofs.Ytahlbebkcoofkaa.Rf
