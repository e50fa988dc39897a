/- What the statements share: lists of pairs compared, measured. -/
import Derived.Test.YtahlbebkcoofkaaLg9
import Derived.Test.YtahlbebkcoofkaaLow6
namespace Go.Proofs.Ytahlbebkcoofkaa
set_option maxRecDepth 20000
open Go.RowKit Go.Sort
set_option linter.unusedVariables false

theorem kv_ext {es fs : List Ent} (hl : es.length = fs.length) (h : ∀ (i : Nat) (e f : Ent), es[i]? = some e → fs[i]? = some f → e.v = f.v ∧ e.k = f.k) : es.map Ent.kv = fs.map Ent.kv := by
  refine List.ext_getElem (by simpa using hl) fun i h1 h2 => ?_
  simp at h1 h2
  have := h i es[i] fs[i] (List.getElem?_eq_getElem h1) (List.getElem?_eq_getElem h2)
  simp [Ent.kv, this.1, this.2]
theorem kv_at {es fs : List Ent} (h : es.map Ent.kv = fs.map Ent.kv) {i : Nat} {e f : Ent} (he : es[i]? = some e) (hf : fs[i]? = some f) : e.v = f.v ∧ e.k = f.k := by
  have h1 : (es.map Ent.kv)[i]? = some e.kv := by simp [he]
  have h2 : (fs.map Ent.kv)[i]? = some f.kv := by simp [hf]
  rw [h, h2] at h1
  have h3 : f.kv = e.kv := by simpa using h1
  exact ⟨(congrArg Prod.snd h3).symm, (congrArg Prod.fst h3).symm⟩

set_option maxHeartbeats 1000000 in
theorem samePairs_any (es fs : List Ent) (a b : Option Addr) (ca cb : Nat) (w : World) (ha : Rp w a es) (hb : Rp w b fs) :
    Calls Try.prog 24 #[.slice a es.length ca, .slice b fs.length cb] w fun r w' => r = .returned (.bool (decide (es.map Ent.kv = fs.map Ent.kv))) ∧ Still w w' := by
  have hna := ha.1
  have hnb := hb.1
  obtain ⟨bb, hbb⟩ : ∃ bb : Bool, decide (es.map Ent.kv = fs.map Ent.kv) = bb := ⟨_, rfl⟩
  rw [hbb]
  have HBB := hide hbb
  have HA := hide ha
  have HB := hide hb
  clear ha hb hbb
  by_cases hl : es.length = fs.length
  · have hl' : ((es.length : Int) != (fs.length : Int)) = false := by simp [hl]
    have HL := hide hl
    have hle : es.length ≤ fs.length := by omega
    clear hl
    go_enter Try.func24, Try.ntmps24
    go_wp2
    go_loopw [5] (fun v wr => ∃ i q : Nat, v = .int .i64 i ∧ i ≤ es.length ∧ wr = w.drewN q ∧ Hid (∀ (j : Nat) (e f : Ent), es[j]? = some e → fs[j]? = some f → j < i → e.v = f.v ∧ e.k = f.k)) (fun v _ => (es.length - intOf v).toNat)
    case atStart => exact ⟨0, 0, rfl, by omega, rfl, fun j _ _ _ _ hj => by omega⟩
    case round =>
      obtain ⟨i, q, rfl, hi, hwr, HI⟩ := hrel
      have HW := hide hwr
      by_cases hin : i < es.length
      · have hif : i < fs.length := by omega
        obtain ⟨e, he⟩ : ∃ e, es[i]? = some e := ⟨es[i], List.getElem?_eq_getElem hin⟩
        obtain ⟨f, hf⟩ : ∃ e, fs[i]? = some e := ⟨fs[i], List.getElem?_eq_getElem hif⟩
        have hA : Rp wr a es := by rw [hwr]; exact HA.out
        have hB : Rp wr b fs := by rw [hwr]; exact HB.out
        obtain ⟨b1, o1, rfl, c0, c1⟩ := hA.cells he
        obtain ⟨b2, o2, rfl, c2, c3⟩ := hB.cells hf
        have S := fun d => same_any e.a f.a e.k f.k e.c f.c (wr.drewN d) ((hA.2.1 e (List.mem_of_getElem? he)).1.drewN d) ((hB.2.1 f (List.mem_of_getElem? hf)).1.drewN d)
        have HE := hide he
        have HF := hide hf
        have HS := hide S
        clear hwr he hf hA hB S
        by_cases hv : e.v = f.v
        · have hv' : (e.v != f.v) = false := by simpa using hv
          have HV := hide hv
          clear hv
          by_cases hk : e.k = f.k
          · have hk' : decide (e.k = f.k) = true := by simpa using hk
            rw [hk'] at HS
            have HK := hide hk
            clear hk hk'
            go_wp2_with fail
            go_quiet (first | (go_at_call 34; exact Calls.quiet_of (HS.out _)))
            go_wp2
            go_roundw
            case rel =>
              refine ⟨i + 1, q + nq, by go_num, by omega, by rw [HW.out]; simp, fun j e' f' he' hf' hj => ?_⟩
              by_cases e9 : j = i
              · subst e9
                rw [HE.out] at he'
                rw [HF.out] at hf'
                cases he'
                cases hf'
                exact ⟨HV.out, HK.out⟩
              · exact HI.out j e' f' he' hf' (by omega)
            case measure => simp [intOf]; omega
          · have hk' : decide (e.k = f.k) = false := by simpa using hk
            rw [hk'] at HS
            have HK := hide hk
            clear hk hk'
            go_wp2_with fail
            go_quiet (first | (go_at_call 34; exact Calls.quiet_of (HS.out _)))
            go_wp2
            go_ret
            refine ⟨ret_bool ?_, q + nq, by rw [HW.out]; simp⟩
            rw [← HBB.out]
            symm
            simp only [decide_eq_false_iff_not]
            intro h9
            exact HK.out (kv_at h9 HE.out HF.out).2
        · have hv' : (e.v != f.v) = true := by simpa using hv
          have HV := hide hv
          clear hv
          go_wp2_with fail
          go_quiet (fail)
          go_wp2
          go_ret
          refine ⟨ret_bool ?_, q + nq, by rw [HW.out]; simp⟩
          rw [← HBB.out]
          symm
          simp only [decide_eq_false_iff_not]
          intro h9
          exact HV.out (kv_at h9 HE.out HF.out).1
      · clear hwr
        go_wp2
        go_ret
        refine ⟨ret_bool ?_, q, HW.out⟩
        rw [← HBB.out]
        symm
        simp only [decide_eq_true_eq]
        exact kv_ext HL.out (fun j e f he hf => HI.out j e f he hf (by have := (List.getElem?_eq_some_iff.1 he).1; omega))
  · have hl' : ((es.length : Int) != (fs.length : Int)) = true := by simp; omega
    have HL := hide hl
    clear hl
    go_enter Try.func24, Try.ntmps24
    go_wp2
    go_ret
    refine ⟨ret_bool ?_, 0, rfl⟩
    rw [← HBB.out]
    symm
    simp only [decide_eq_false_iff_not]
    intro e
    exact HL.out (by simpa using congrArg List.length e)

/-- More pairs, or a longer key, than are gone through. -/
def greatP (es : List Ent) (most long : Nat) : Bool := decide (most < es.length ∨ ∃ e ∈ es, long < e.k.length)
theorem great_false {es : List Ent} {most long : Nat} (h : greatP es most long = false) : es.length ≤ most ∧ ∀ e ∈ es, e.k.length ≤ long := by
  unfold greatP at h
  simp only [decide_eq_false_iff_not] at h
  refine ⟨by rcases Nat.lt_or_ge most es.length with h1 | h1; exact absurd (.inl h1) h; exact h1, fun e he => ?_⟩
  rcases Nat.lt_or_ge long e.k.length with h1 | h1
  · exact absurd (.inr ⟨e, he, h1⟩) h
  · exact h1
set_option maxHeartbeats 1000000 in
theorem great_any (es : List Ent) (a : Option Addr) (c most long : Nat) (w : World) (h : Rp w a es) (hm : most ≤ 1000) (hl : long ≤ 1000) (hkb : ∀ e ∈ es, e.k.length ≤ 9223372036854775807) :
    Calls Try.prog 7 #[.slice a es.length c, .int .i64 (most : Int), .int .i64 (long : Int)] w fun r w' => r = .returned (.bool (greatP es most long)) ∧ Still w w' := by
  have hn := h.1
  obtain ⟨bb, hbb⟩ : ∃ bb : Bool, greatP es most long = bb := ⟨_, rfl⟩
  rw [hbb]
  have HBB := hide hbb
  have H := hide h
  have HKB := hide hkb
  clear h hbb hkb
  by_cases hgt : most < es.length
  · have hb1 : Hid (bb = true) := by show _ = _; rw [← HBB.out]; unfold greatP; simp [hgt]
    have hd : decide (es.length ≤ most) = false := by simp; omega
    have hd' : decide ((es.length : Int) ≤ (most : Int)) = false := by simp; omega
    have hpos : 0 < es.length := by omega
    go_enter Try.func7, Try.ntmps7
    go_wp2
    refine wp_loop_rounds 1 ?_
    rw [rounds_succ]
    go_wp2
    go_ret
    exact ⟨ret_bool hb1.out.symm, 0, rfl⟩
  · have hle : es.length ≤ most := by omega
    clear hgt
    go_enter Try.func7, Try.ntmps7
    go_wp2
    go_loopw [7] (fun v wr => ∃ i q : Nat, v = .int .i64 i ∧ i ≤ es.length ∧ wr = w.drewN q ∧ Hid (∀ (j : Nat) (e : Ent), es[j]? = some e → j < i → e.k.length ≤ long)) (fun v _ => (es.length - intOf v).toNat)
    case atStart => exact ⟨0, 0, rfl, by omega, rfl, fun j _ _ hj => by omega⟩
    case round =>
      obtain ⟨i, q, rfl, hi, hwr, HI⟩ := hrel
      have HW := hide hwr
      by_cases hin : i < es.length
      · obtain ⟨e, he⟩ : ∃ e, es[i]? = some e := ⟨es[i], List.getElem?_eq_getElem hin⟩
        have hA : Rp wr a es := by rw [hwr]; exact H.out
        obtain ⟨b1, o1, rfl, c0, c1⟩ := hA.cells he
        have hkl := HKB.out e (List.mem_of_getElem? he)
        have HE := hide he
        clear hwr he hA c1
        by_cases hk : long < e.k.length
        · have hb1 : Hid (bb = true) := by show _ = _; rw [← HBB.out]; unfold greatP; simp only [decide_eq_true_eq]; exact .inr ⟨e, List.mem_of_getElem? HE.out, hk⟩
          generalize e.k.length = kl at *
          go_wp2
          go_ret
          exact ⟨ret_bool hb1.out.symm, q, HW.out⟩
        · have HK : Hid (e.k.length ≤ long) := by show _ ≤ _; omega
          generalize hkk : e.k.length = kl at c0 hk hkl
          clear hkk
          go_wp2
          go_roundw
          case rel =>
            refine ⟨i + 1, q, by go_num, by omega, HW.out, fun j e' he' hj => ?_⟩
            by_cases e9 : j = i
            · subst e9
              rw [HE.out] at he'
              cases he'
              exact HK.out
            · exact HI.out j e' he' (by omega)
          case measure => simp [intOf]; omega
      · have hb1 : Hid (bb = false) := by
          show _ = _
          rw [← HBB.out]
          unfold greatP
          simp only [decide_eq_false_iff_not]
          rintro (h1 | ⟨e, he, h1⟩)
          · omega
          · obtain ⟨j, hj⟩ := List.mem_iff_getElem?.1 he
            have := HI.out j e hj (by have := (List.getElem?_eq_some_iff.1 hj).1; omega)
            omega
        clear hwr
        go_wp2
        go_ret
        refine ⟨ret_bool ?_, q, HW.out⟩
        rw [hb1.out]
        simp
        omega
end Go.Proofs.Ytahlbebkcoofkaa
