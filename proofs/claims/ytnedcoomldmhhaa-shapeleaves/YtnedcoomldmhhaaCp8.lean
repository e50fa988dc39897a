/- Pairs in a row of the call's own; Copied, OverPairs. -/
import Derived.Test.YtnedcoomldmhhaaRfL
namespace Go.Proofs.Ytnedcoomldmhhaa.Rf
open Go.RowKit Go.Sort Go.Proofs.Ytnedcoomldmhhaa
set_option linter.unusedVariables false
set_option linter.unusedSimpArgs false
set_option maxRecDepth 20000

/-- Pairs in a row of the call's own, their keys in memory of their own. -/
structure Lk (B : Nat) (w : World) (v : Value) (fs : List Ent) : Prop where
  row : w.ownsRow B 47 2 v fs.length (flat Ent.cells fs)
  ks : ∀ e ∈ fs, w.ownsRow B 5 1 (.slice e.a e.k.length e.c) e.k.length (u8s e.k) ∧ IsBytes e.k ∧ 0 ≤ e.v ∧ e.v ≤ 18446744073709551615
  ln : fs.length ≤ 1000000
theorem Lk.nil (B : Nat) (w : World) : Lk B w (.slice none 0 0) [] := ⟨World.ownsRow_nil _ _ _ _, by simp, by simp⟩
theorem Lk.below {B : Nat} {w w' : World} {v : Value} {fs : List Ent} (h : Lk B w v fs) (f : Below w.heap.size w w') : Lk B w' v fs := ⟨h.row.below f (Nat.le_refl _), fun e he => ⟨(h.ks e he).1.below f (Nat.le_refl _), (h.ks e he).2⟩, h.ln⟩
theorem Lk.rp {B : Nat} {w : World} {v : Value} {fs : List Ent} (h : Lk B w v fs) : ∃ a c, v = .slice a fs.length c ∧ Rp w a fs :=
  owns_rp h.row (fun e he => ⟨by
    obtain ⟨a', c', e9, hr, _⟩ := owns_rd (h.ks e he).1 (h.ks e he).2.1
    simp only [Value.slice.injEq] at e9
    obtain ⟨rfl, -, rfl⟩ := e9
    exact hr, (h.ks e he).2.2⟩) h.ln
/-- out = append(out, a pair). -/
theorem lk_push {B : Nat} {w6 : World} {v : Value} {fs : List Ent} (l : Lk B w6 v fs) (hB : B ≤ w6.heap.size) (e : Ent) (ho : w6.ownsRow B 5 1 (.slice e.a e.k.length e.c) e.k.length (u8s e.k)) (hb : IsBytes e.k) (hv : 0 ≤ e.v ∧ e.v ≤ 18446744073709551615) (hl : fs.length < 1000000) :
    ∃ a' c' w', (Builtin.append_ #[26, 26] 26 #[v, .slice (some ⟨w6.heap.size, 0, none⟩) 1 1]).run Try.prog (w6.alloc (.cells #[.slice e.a e.k.length e.c, .int .u64 e.v] 47)) = .ok (.slice a' (fs.length + 1) c') w' ∧ Lk B w' (.slice a' (fs.length + 1) c') (fs ++ [e]) ∧ Below B w6 w' := by
  obtain ⟨i, h1, h2, h3, h4⟩ := info_pair
  obtain ⟨v', w', r, o, g, ho'⟩ := append_lit (P := Try.prog) w6 B 26 47 i _ 2 32 Try.underlying26 h1 h2 h3 h4 rfl (by omega) v fs.length _ l.row [.slice e.a e.k.length e.c, .int .u64 e.v] rfl (by intro u hu; simp at hu; rcases hu with rfl | rfl <;> rfl) (by omega) (by omega) hB
  obtain ⟨a', c', rfl⟩ := owns_slice' o
  have f1 : Below B w6 (w6.alloc (.cells #[.slice e.a e.k.length e.c, .int .u64 e.v] 47)) := (Below.refl _ _).alloc hB _
  have keep : ∀ (x : Ent), w6.ownsRow B 5 1 (.slice x.a x.k.length x.c) x.k.length (u8s x.k) → w'.ownsRow B 5 1 (.slice x.a x.k.length x.c) x.k.length (u8s x.k) := fun x hx => by
    refine owns_same hx (fun k hk => ?_)
    have hlt := (hx.lt k hk).2
    rw [g.block k (by simp; omega) (fun e9 => ?_)]
    · exact Below.heap_alloc w6 _ k hlt
    · rcases hx.2 with ⟨e0, _⟩ | ⟨b, cap, cur, e0, _, hg, _⟩
      · rw [e0] at hk; simp [Value.ownBlock] at hk
      · have hbk : b = k := by rw [e0] at hk; simpa [Value.ownBlock] using hk
        subst hbk
        have hg' : Blk w6 b 5 cur.toList := hg
        exact owns_apart l.row hg' (by decide) e9.symm
  refine ⟨a', c', w', r, ⟨?_, fun x hx => ?_, by simp; omega⟩, f1.grown g (by have := f1.size; omega) (fun k hk => (l.row.lt k hk).1)⟩
  · have e1 : flat Ent.cells (fs ++ [e]) = flat Ent.cells fs ++ [.slice e.a e.k.length e.c, .int .u64 e.v] := by rw [flat_append]; rfl
    rw [e1]
    simpa using o
  · rcases List.mem_append.1 hx with hx | hx
    · exact ⟨keep x (l.ks x hx).1, (l.ks x hx).2⟩
    · simp at hx; subst hx; exact ⟨keep x ho, hb, hv⟩
end Go.Proofs.Ytnedcoomldmhhaa.Rf
namespace Go.Proofs.Ytnedcoomldmhhaa
open Go.RowKit Go.Sort
set_option linter.unusedVariables false
set_option linter.unusedSimpArgs false
set_option maxRecDepth 20000

/-- No two keys in one block. -/
def Apart (fs : List Ent) : Prop := fs.Pairwise (fun e f => ∀ k, (Value.slice e.a e.k.length e.c).ownBlock = some k → (Value.slice f.a f.k.length f.c).ownBlock ≠ some k)
set_option maxHeartbeats 1000000 in
theorem copied_in (es : List Ent) (a : Option Addr) (c : Nat) (w : World) (h : Rp w a es) (hk : ∀ e ∈ es, e.k.length ≤ 65535) :
    Calls Try.prog 20 #[.slice a es.length c] w fun r w' => ∃ a' c' fs, r = .returned (.slice a' fs.length c') ∧ Rf.Lk w.heap.size w' (.slice a' fs.length c') fs ∧ Apart fs ∧ fs.map Ent.kv = es.map Ent.kv ∧ Below w.heap.size w w' := by
  have hn := h.1
  have H := hide h
  have HK := hide hk
  clear h hk
  go_enter Try.func20, Try.ntmps20
  go_wp2_with fail
  go_loopw [3, 4] (fun vo vi wr => ∃ (i : Nat) (ao : Option Addr) (co : Nat) (fs : List Ent), vo = .slice ao fs.length co ∧ vi = .int .i64 i ∧ i ≤ es.length ∧ Hid (fs.length = i) ∧ Hid (fs.map Ent.kv = (es.map Ent.kv).take i) ∧ Hid (Rf.Lk w.heap.size wr (.slice ao fs.length co) fs) ∧ Hid (Apart fs) ∧ Hid (Below w.heap.size w wr)) (fun _ vi _ => (es.length - intOf vi).toNat)
  case atStart => exact ⟨0, none, 0, [], rfl, rfl, by omega, rfl, rfl, Rf.Lk.nil _ _, List.Pairwise.nil, Below.refl _ _⟩
  case round =>
    obtain ⟨i, ao, co, fs, rfl, rfl, hi, HL, HM, L, A, F⟩ := hrel
    by_cases hin : i < es.length
    · obtain ⟨e, he⟩ : ∃ e, es[i]? = some e := ⟨es[i], List.getElem?_eq_getElem hin⟩
      have hr := H.out.below F.out (Nat.le_refl _)
      obtain ⟨b, off, rfl, c0, c1⟩ := hr.cells he
      have hme := List.mem_of_getElem? he
      have hok := hr.2.1 e hme
      have hkl := HK.out e hme
      obtain ⟨a5, c5, w5, r5, o5, f5⟩ := Rf.clone_u8 hok.1.drew e.c (by omega)
      have f5' : Below wr.heap.size wr w5 := ⟨f5.os, f5.tape, f5.output, f5.size, f5.block⟩
      have d0 : wr.drew.cell? ⟨b, off + i * 2, none⟩ = some (.slice e.a e.k.length e.c) := c0
      have d1 : wr.drew.cell? ⟨b, off + i * 2 + 1, none⟩ = some (.int .u64 e.v) := c1
      have d2 := (f5'.cell (p := ⟨b, off + i * 2 + 1, none⟩) (World.block_lt_of_cell? wr _ c1)).trans c1
      have hB5 : w.heap.size ≤ w5.heap.size := by have := F.out.size; have := f5'.size; omega
      have hsw : w.heap.size ≤ wr.heap.size := F.out.size
      obtain ⟨a7, c7, w7, r7, l7, f7⟩ := Rf.lk_push (L.out.below f5') hB5 ⟨a5, c5, e.k, e.v⟩ (Rf.owns_down o5 hsw) hok.1.1 hok.2 (by have := HL.out; omega)
      simp only at r7
      have A7 : Hid (Apart (fs ++ [⟨a5, c5, e.k, e.v⟩])) := by
        unfold Apart
        show List.Pairwise _ _
        rw [List.pairwise_append]
        refine ⟨A.out, List.pairwise_singleton _ _, fun x hx y hy k hk hk2 => ?_⟩
        simp only [List.mem_singleton] at hy
        subst hy
        have h1 := ((L.out.ks x hx).1.lt k hk).2
        have h2 := (o5.lt k hk2).1
        have h3 : wr.drew.heap.size = wr.heap.size := rfl
        omega
      have hlen : (fs ++ [(⟨a5, c5, e.k, e.v⟩ : Ent)]).length = fs.length + 1 := by simp
      have L8 : Hid (Rf.Lk w.heap.size w7 (.slice a7 (fs ++ [(⟨a5, c5, e.k, e.v⟩ : Ent)]).length c7) (fs ++ [⟨a5, c5, e.k, e.v⟩])) := by rw [hlen]; exact l7
      have HM8 : Hid ((fs ++ [(⟨a5, c5, e.k, e.v⟩ : Ent)]).map Ent.kv = (es.map Ent.kv).take (i + 1)) := by
        show _ = _
        rw [List.map_append, HM.out, List.take_add_one]
        simp [he, Ent.kv]
      have F7 : Hid (Below w.heap.size w w7) := F.out.trans ((f5'.mono hsw).trans f7)
      clear hr he hme hok l7 f7 f5 f5' o5 c0 c1 hB5 hsw
      go_wp2_with fail
      go_region_law (first
        | (refine step_append_run rfl _ _ _ _ rfl _ _ _ _ rfl rfl r5 ?_)
        | (refine step_append_run rfl _ _ _ _ rfl _ _ _ _ rfl rfl r7 ?_))
      all_goals
        clear d0 d1 d2 r5 r7
        go_wp2
        go_roundw
        case rel => exact ⟨i + 1, a7, c7, _, by rw [hlen], by go_num, by omega, by show _ = _; rw [hlen]; have := HL.out; omega, HM8, L8, A7, F7⟩
        case measure => simp [intOf]; omega
    · obtain rfl : i = es.length := by omega
      have hfin : Hid (fs.map Ent.kv = es.map Ent.kv) := by
        show _ = _
        rw [HM.out, List.take_of_length_le (by simp)]
      go_wp2
      go_ret
      exact ⟨ao, co, fs, rfl, L.out, A.out, hfin.out, F.out⟩
/-- What is written over. -/
def overE : Ent := ⟨none, 0, [], 777⟩
set_option maxHeartbeats 1000000 in
theorem over_in (fs : List Ent) (a : Option Addr) (c B : Nat) (w : World) (h : Rf.Lk B w (.slice a fs.length c) fs) (hA : Apart fs) (hB : B ≤ w.heap.size) (N : Nat) (hN : ∀ k, ((Value.slice a fs.length c).ownBlock = some k ∨ ∃ e ∈ fs, (Value.slice e.a e.k.length e.c).ownBlock = some k) → k < N) (hkl : ∀ e ∈ fs, e.k.length ≤ 65535) :
    Calls Try.prog 21 #[.slice a fs.length c] w fun r w' => r = .returned (.tuple #[]) ∧ Kp (fun k => k < B ∨ N ≤ k) w w' := by
  have hn := h.ln
  have hrow : fs = [] ∨ ∃ b rest, a = some ⟨b, 0, none⟩ ∧ Blk w b 47 (flat Ent.cells fs ++ rest) := by
    rcases h.row.2 with ⟨e0, h0⟩ | ⟨b, cap, cur, e0, _, hg, h1, h2, h3, h4⟩
    · exact .inl (List.eq_nil_of_length_eq_zero h0)
    · simp only [Value.slice.injEq] at e0
      obtain ⟨rfl, -, rfl⟩ := e0
      refine .inr ⟨b, cur.toList.drop (fs.length * 2), rfl, ?_⟩
      unfold Blk; rw [← h4, List.take_append_drop]; exact hg
  rcases hrow with rfl | ⟨b, rest, rfl, hb⟩
  · clear h hA hN
    go_enter Try.func21, Try.ntmps21
    go_wp2_with fail
    refine wp_loop_rounds 1 ?_
    rw [rounds_succ]
    go_wp2
    go_end0
    exact ⟨rfl, Kp.refl _ _⟩
  · have hbB : B ≤ b ∧ b < N := ⟨(h.row.lt b rfl).1, hN b (.inl rfl)⟩
    have KS := hide h.ks
    have HA := hide hA
    have HN := hide hN
    have HKL := hide hkl
    have HB0 := hide hb
    clear h hA hN hkl hb
    go_enter Try.func21, Try.ntmps21
    go_wp2_with fail
    go_loopw [2] (fun vi wr => ∃ i : Nat, vi = .int .i64 i ∧ i ≤ fs.length ∧ Hid (Blk wr b 47 (flat Ent.cells (List.replicate i overE ++ fs.drop i) ++ rest)) ∧ Hid (∀ e ∈ fs.drop i, wr.ownsRow B 5 1 (.slice e.a e.k.length e.c) e.k.length (u8s e.k)) ∧ Hid (Kp (fun k => k < B ∨ N ≤ k) w wr)) (fun vi _ => (fs.length - intOf vi).toNat)
    case atStart => exact ⟨0, rfl, by omega, by show Blk _ _ _ _; simpa using HB0.out, fun e he => (KS.out e (by simpa using he)).1, Kp.refl _ _⟩
    case round =>
      obtain ⟨i, rfl, hi, BW, KW, KP⟩ := hrel
      by_cases hin : i < fs.length
      · obtain ⟨e, he⟩ : ∃ e, fs[i]? = some e := ⟨fs[i], List.getElem?_eq_getElem hin⟩
        have hge : (List.replicate i overE ++ fs.drop i)[i]? = some e := by
          rw [List.getElem?_append_right (by simp)]
          simpa using he
        obtain ⟨c0, c1⟩ := row_cells BW.out hge
        have hed : fs.drop i = e :: fs.drop (i + 1) := by
          rw [List.drop_eq_getElem_cons hin, (List.getElem?_eq_some_iff.1 he).2]
        have hme := List.mem_of_getElem? he
        have hoe := KW.out e (by rw [hed]; simp)
        have OV := over_any (.slice e.a e.k.length e.c) e.k.length B (u8s e.k) wr hoe (by intro u hu; simp [u8s] at hu; obtain ⟨q, _, rfl⟩ := hu; exact ⟨q, rfl⟩) (by have := HKL.out e hme; omega) (by have := KP.out.size; omega)
        have HO := hide OV
        have HOE := hide hoe
        have HED := hide hed
        have HME := hide hme
        have HGE := hide hge
        clear OV hoe hge he hed hme c1
        go_wp2_with fail
        refine HO.out.mono ?_
        rintro r w5 ⟨rfl, g5⟩
        have hne : (Value.slice e.a e.k.length e.c).ownBlock ≠ some b := owns_apart HOE.out BW.out (by decide)
        have b5 : Blk w5 b 47 (flat Ent.cells (List.replicate i overE ++ fs.drop i) ++ rest) := (g5.block b BW.out.lt (fun e9 => hne e9.symm)).trans BW.out
        have hlen : i < (List.replicate i overE ++ fs.drop i).length := by simp; omega
        have b6 := row_put b5 i overE hlen
        have hset : (List.replicate i overE ++ fs.drop i).set i overE = List.replicate (i + 1) overE ++ fs.drop (i + 1) := by
          rw [HED.out, List.set_append_right _ _ (by simp)]
          simp only [List.length_replicate, Nat.sub_self, List.set_cons_zero]
          rw [List.replicate_succ', List.append_assoc]
          rfl
        rw [hset] at b6
        obtain ⟨z0, z1⟩ := row_cells b5 HGE.out
        have y0 := b5.frozen (i * 2)
        have y1 := b5.frozen (i * 2 + 1)
        have hkn : ∀ k, (Value.slice e.a e.k.length e.c).ownBlock = some k → ¬ (k < B ∨ N ≤ k) := fun k hk => by
          have h1 := (HOE.out.lt k hk).1
          have h2 := HN.out k (.inr ⟨e, HME.out, hk⟩)
          omega
        have kp5 : Kp (fun k => k < B ∨ N ≤ k) w w5 := KP.out.grown g5 hkn
        have kp6 : Hid (Kp (fun k => k < B ∨ N ≤ k) w ((w5.setCell ⟨b, i * 2, none⟩ (.slice overE.a overE.k.length overE.c)).setCell ⟨b, i * 2 + 1, none⟩ (.int .u64 overE.v))) := (kp5.setCell b _ _ (by omega)).setCell b _ _ (by omega)
        have KW6 : Hid (∀ x ∈ fs.drop (i + 1), ((w5.setCell ⟨b, i * 2, none⟩ (.slice overE.a overE.k.length overE.c)).setCell ⟨b, i * 2 + 1, none⟩ (.int .u64 overE.v)).ownsRow B 5 1 (.slice x.a x.k.length x.c) x.k.length (u8s x.k)) := fun x hx => by
          have hx0 := KW.out x (by rw [HED.out]; simp [hx])
          refine owns_same hx0 (fun k hk => ?_)
          have hkb : k ≠ b := fun e9 => by subst e9; exact owns_apart hx0 BW.out (by decide) hk
          rw [set2_other w5 b _ _ _ _ k hkb]
          refine g5.block k (hx0.lt k hk).2 (fun e9 => ?_)
          have hap := HA.out
          unfold Apart at hap
          have h3 := (List.pairwise_append.1 (by rw [List.take_append_drop i fs]; exact hap : (fs.take i ++ fs.drop i).Pairwise _)).2.1
          rw [HED.out] at h3
          exact (List.pairwise_cons.1 h3).1 x hx k e9.symm hk
        have B6 := hide b6
        clear b5 b6 hset hkn kp5 g5 HO
        clear c0
        unfold overE at kp6 KW6 B6
        simp only [List.length_nil] at kp6 KW6 B6
        go_wp2
        go_roundw
        case rel => exact ⟨i + 1, by go_num, by omega, B6, KW6, kp6⟩
        case measure => simp [intOf]; omega
      · go_wp2
        go_end0
        exact ⟨rfl, KP.out⟩
end Go.Proofs.Ytnedcoomldmhhaa
