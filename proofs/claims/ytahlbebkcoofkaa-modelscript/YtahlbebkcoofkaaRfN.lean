/- The document's map: New, Rises. -/
import Derived.Test.YtahlbebkcoofkaaRfP
import Derived.Test.YtahlbebkcoofkaaRfD
import Derived.Test.YtahlbebkcoofkaaOf7
namespace Go.Proofs.Ytahlbebkcoofkaa.Rf
open Go.RowKit Go.Sort Go.Proofs.Ytahlbebkcoofkaa
set_option linter.unusedVariables false
set_option linter.unusedSimpArgs false
set_option maxRecDepth 20000

theorem md_nil (w : World) : Md w.heap.size [] (fun k => k < w.heap.size) (w.alloc (.cells #[.slice none 0 0] 50 (0, 0))) := by
  refine ⟨fun k => k = w.heap.size, .slice none 0 0, [], ⟨?_, fun k hk => by simp; omega, rfl, Blk.new w _ _ _ rfl, World.ownsRow_nil _ _ _ _, by simp [Value.ownBlock], by simp, rfl, List.Pairwise.nil, by simp, by simp⟩⟩
  rintro k rfl
  exact ⟨by omega, by simp⟩
theorem ofM_take {ps : List KV} {i : Nat} {p : KV} (h : ps[i]? = some p) : ofM (ps.take (i + 1)) = putM p.1 p.2 (ofM (ps.take i)) := by
  rw [List.take_add_one, h]; exact ofM_snoc _ _
set_option maxHeartbeats 1000000 in
theorem new_any (es : List Ent) (a : Option Addr) (c : Nat) (w : World) (h : Rp w a es) (hk : ∀ e ∈ es, e.k.length ≤ 65535) (hl : es.length ≤ 100000) :
    Calls Try.prog 11 #[.slice a es.length c] w fun r w' => ∃ g, r = .returned (.pointer (some ⟨g, 0, none⟩)) ∧ Md g (ofM (es.map Ent.kv)) (fun k => k < w.heap.size) w' ∧ Below w.heap.size w w' := by
  have H := hide h
  have HK := hide hk
  have N := hide (md_nil w)
  have F0 := hide ((Below.refl w.heap.size w).alloc (Nat.le_refl _) (.cells #[.slice none 0 0] 50 (0, 0)))
  clear h hk
  go_enter Try.func11, Try.ntmps11
  go_wp2_with fail
  go_loopw [4] (fun vi wr => ∃ i : Nat, vi = .int .i64 i ∧ i ≤ es.length ∧ Hid (Md w.heap.size (ofM ((es.map Ent.kv).take i)) (fun k => k < w.heap.size) wr) ∧ Hid (Below w.heap.size w wr)) (fun vi _ => (es.length - intOf vi).toNat)
  case atStart => exact ⟨0, rfl, by omega, N, F0⟩
  case round =>
    clear N F0
    obtain ⟨i, rfl, hi, MW, FW⟩ := hrel
    by_cases hin : i < es.length
    · obtain ⟨e, he⟩ : ∃ e, es[i]? = some e := ⟨es[i], List.getElem?_eq_getElem hin⟩
      have hr := H.out.below FW.out (Nat.le_refl _)
      obtain ⟨b, off, rfl, c0, c1⟩ := hr.cells he
      have hme := List.mem_of_getElem? he
      have hok := hr.2.1 e hme
      have hlen : (ofM ((es.map Ent.kv).take i)).length < 1000000 := by have := ofM_len ((es.map Ent.kv).take i); simp at this; omega
      have fd : Below wr.heap.size wr wr.drew := Below.drewN' (Below.refl _ wr) 1
      have P := hide (put_any e.a e.c e.k e.v wr.drew ((Md.lies _ _).below MW.out fd) hok.1.drew (HK.out e hme) hok.2 hlen)
      have d0 : wr.drew.cell? ⟨b, off + i * 2, none⟩ = some (.slice e.a e.k.length e.c) := c0
      have d1 : wr.drew.cell? ⟨b, off + i * 2 + 1, none⟩ = some (.int .u64 e.v) := c1
      have HP : Hid (ofM ((es.map Ent.kv).take (i + 1)) = putM e.k e.v (ofM ((es.map Ent.kv).take i))) := ofM_take (p := e.kv) (by simp [he])
      clear hr he hme hok hlen fd
      go_wp2_with fail
      go_region_law (first
        | (go_simp; go_at_call 20; refine P.out.mono ?_; rintro r w2 ⟨rfl, m2, k2⟩))
      all_goals
       have M2 : Hid (Md w.heap.size (ofM ((es.map Ent.kv).take (i + 1))) (fun k => k < w.heap.size) w2) := by show Md _ _ _ _; rw [HP.out]; exact m2
       have F2 : Hid (Below w.heap.size w w2) := FW.out.trans ((Below.drewN' (Below.refl _ wr) 1 |>.mono FW.out.size).trans (k2.below FW.out.size (fun k hk => hk)))
       clear m2 k2 c0 c1 d0 d1 P
       go_wp2
       go_roundw
       case rel => exact ⟨i + 1, by go_num, by omega, M2, F2⟩
       case measure => simp [intOf]; omega
    · obtain rfl : i = es.length := by omega
      have HM : Hid (Md w.heap.size (ofM (es.map Ent.kv)) (fun k => k < w.heap.size) wr) := by
        have := MW.out
        rw [List.take_of_length_le (by simp)] at this
        exact this
      go_wp2
      go_ret
      exact ⟨_, rfl, HM.out, FW.out⟩
set_option maxHeartbeats 1000000 in
theorem rises_any (es : List Ent) (a : Option Addr) (c : Nat) (w : World) (h : Rp w a es) :
    Calls Try.prog 13 #[.slice a es.length c] w fun r w' => r = .returned (.bool (risesB (es.map Ent.kv))) ∧ Below w.heap.size w w' := by
  have hn := h.1
  have H := hide h
  clear h
  go_enter Try.func13, Try.ntmps13
  go_wp2_with fail
  go_loopw [3] (fun vi wr => ∃ i : Nat, vi = .int .i64 ((i : Int) + 1) ∧ i ≤ es.length ∧ Hid (Below w.heap.size w wr) ∧ Hid (∀ (j : Nat) (p q : KV), (es.map Ent.kv)[j]? = some p → (es.map Ent.kv)[j + 1]? = some q → j < i → cmpK p.1 q.1 < 0)) (fun vi _ => (es.length + 1 - intOf vi).toNat)
  case atStart => exact ⟨0, rfl, by omega, Below.refl _ _, fun j p q _ _ hj => by omega⟩
  case round =>
    obtain ⟨i, rfl, hi, F, HA⟩ := hrel
    by_cases hin : i + 1 < es.length
    · obtain ⟨e, he⟩ : ∃ e, es[i]? = some e := ⟨es[i], List.getElem?_eq_getElem (by omega)⟩
      obtain ⟨f, hf⟩ : ∃ e, es[i + 1]? = some e := ⟨es[i + 1], List.getElem?_eq_getElem hin⟩
      have hr := H.out.below F.out (Nat.le_refl _)
      obtain ⟨b, off, rfl, c0, c1⟩ := hr.cells he
      obtain ⟨b', off', ea, c2, c3⟩ := hr.cells hf
      simp only [Option.some.injEq, Addr.mk.injEq] at ea
      obtain ⟨rfl, rfl, -⟩ := ea
      have hre := (hr.2.1 e (List.mem_of_getElem? he)).1
      have hrf := (hr.2.1 f (List.mem_of_getElem? hf)).1
      have k1 := fun m => conv_str (P := Try.prog) (src := 24) (dst := 9) Try.underlying24 Try.underlying5 Try.underlying9 (hre.drewN m) e.c
      have k2 := fun m => conv_str (P := Try.prog) (src := 24) (dst := 9) Try.underlying24 Try.underlying5 Try.underlying9 (hrf.drewN m) f.c
      have l1 := less_cmp e.k f.k hre.1 hrf.1
      have l3 := less_cmp f.k e.k hrf.1 hre.1
      have l2 := strs_eq f.k e.k hrf.1 hre.1
      rw [← strNums_toList, ← strNums_toList] at l1 l2 l3
      generalize strOfNums e.k = s at k1 l1 l2 l3
      generalize strOfNums f.k = t at k2 l1 l2 l3
      have HE : Hid ((es.map Ent.kv)[i]? = some e.kv) := by show _ = _; simp [he]
      have HF : Hid ((es.map Ent.kv)[i + 1]? = some f.kv) := by show _ = _; simp [hf]
      have z0 : i < es.length := by omega
      have z1 : (i : Int) + 1 < (es.length : Int) := by omega
      have z2 : (0 : Int) ≤ (i : Int) + 1 := by omega
      have z3 : ((i : Int) + 1).toNat = i + 1 := by omega
      have hwp : IntKind.i64.wrap (i : Int) = (i : Int) := by rw [IntKind.wrap_i64]; omega
      have hcr := cmpK_range e.k f.k
      have hcs := cmpK_swap e.k f.k
      have hcz := cmpK_zero f.k e.k
      clear he hf hr hre hrf
      by_cases hlt : cmpK e.k f.k < 0
      · have h1 : cmpK e.k f.k = -1 := by omega
        rw [decide_eq_false (by omega)] at l3
        rw [decide_eq_false (fun e => by have := hcz.2 e; omega)] at l2
        have HL := hide hlt
        clear hcr hcs hcz h1 hlt l1
        go_wp2_with fail
        go_quiet (fail)
        go_wp2
        go_roundw
        case rel =>
          refine ⟨i + 1, by go_num, by omega, F.out.trans (Below.drewN' (Below.refl _ _) _ |>.mono F.out.size), fun j p q hp hq hj => ?_⟩
          by_cases e2 : j = i
          · subst e2
            rw [HE.out] at hp
            rw [HF.out] at hq
            cases hp
            cases hq
            exact HL.out
          · exact HA.out j p q hp hq (by omega)
        case measure => simp [intOf]; omega
      · have HR := hide (risesB_false HE.out HF.out hlt)
        by_cases hz : f.k = e.k
        · rw [decide_eq_true hz] at l2
          rw [decide_eq_false (by have := hcz.2 hz; omega)] at l3
          clear hcr hcs hcz hlt hz l1
          go_wp2_with fail
          go_quiet (fail)
          go_wp2
          go_ret
          exact ⟨ret_bool HR.out.symm, F.out.trans (Below.drewN' (Below.refl _ _) _ |>.mono F.out.size)⟩
        · rw [decide_eq_false hz] at l2
          have hcf : cmpK f.k e.k = -1 := by
            have h1 : ¬ cmpK f.k e.k = 0 := fun e => hz (hcz.1 e)
            omega
          rw [decide_eq_true hcf] at l3
          clear hcr hcs hcz hlt hz l1 hcf
          go_wp2_with fail
          go_quiet (fail)
          go_wp2
          go_ret
          exact ⟨ret_bool HR.out.symm, F.out.trans (Below.drewN' (Below.refl _ _) _ |>.mono F.out.size)⟩
    · have z1 : ¬ (i : Int) + 1 < (es.length : Int) := by omega
      have HR : Hid (risesB (es.map Ent.kv) = true) := (risesB_iff _).2 (fun j p q hp hq => HA.out j p q hp hq (by
        have := (List.getElem?_eq_some_iff.1 hq).1
        simp at this
        omega))
      go_wp2
      go_ret
      exact ⟨ret_bool HR.out.symm, F.out⟩
end Go.Proofs.Ytahlbebkcoofkaa.Rf
