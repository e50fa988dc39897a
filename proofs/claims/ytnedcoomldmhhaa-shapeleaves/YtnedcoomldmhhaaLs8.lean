/- All, Copy, From, Rises (Rise of pairs). -/
import Derived.Test.YtnedcoomldmhhaaLs7
import Derived.Deep.DeepCutAuto
import Derived.Deep.CutBlock
namespace Go.Proofs.Ytnedcoomldmhhaa
set_option maxRecDepth 20000
open Go.RowKit Go.Sort
set_option linter.unusedVariables false

/-- A list of pairs that is answered. -/
def LAns (w w' : World) (ps : List KV) (r : Ending) : Prop := ∃ a c fs, r = .returned (.slice a fs.length c) ∧ Lst w.heap.size w' (.slice a fs.length c) fs ∧ fs.map Ent.kv = ps ∧ Below w.heap.size w w'
theorem copies_l (es : List Ent) (a : Option Addr) (c : Nat) (w : World) (h : Rp w a es) (hk : ∀ e ∈ es, e.k.length ≤ 1000000) :
    Calls Try.prog 53 #[.slice a es.length c] w fun r w' => LAns w w' (es.map Ent.kv) r := by
  refine (copies_any es a c w h hk).mono ?_
  rintro r w' ⟨v, fs, rfl, l, k, f⟩
  obtain ⟨a', c', rfl, _⟩ := l.rp
  exact ⟨a', c', fs, rfl, l, k, f⟩
theorem LAns.later {w w1 w' : World} {ps : List KV} {r : Ending} (h : LAns w1 w' ps r) (f : Below w.heap.size w w1) : LAns w w' ps r := by
  obtain ⟨a, c, fs, e, l, k, f2⟩ := h
  exact ⟨a, c, fs, e, l.down f.size, k, f.trans (f2.mono f.size)⟩

/-- From a place on. -/
theorem Rp.drop {w : World} {b off : Nat} {es : List Ent} (h : Rp w (some ⟨b, off, none⟩) es) (n : Nat) : Rp w (some ⟨b, off + n * 2, none⟩) (es.drop n) := by
  refine ⟨by have := h.1; simp; omega, fun e he => h.2.1 e (List.mem_of_mem_drop he), ?_⟩
  by_cases h0 : es.length ≤ n
  · exact .inl (by simp [h0])
  · rcases h.2.2 with h3 | ⟨b', off', ea, hc⟩
    · subst h3; simp at h0
    · simp only [Option.some.injEq, Addr.mk.injEq] at ea
      obtain ⟨rfl, rfl, -⟩ := ea
      refine .inr ⟨b, off + n * 2, rfl, fun i e he => ?_⟩
      rw [List.getElem?_drop] at he
      have := hc (n + i) e he
      rwa [show off + (n + i) * 2 = off + n * 2 + i * 2 by omega] at this
theorem Rp.take {w : World} {a : Option Addr} {es : List Ent} (h : Rp w a es) (n : Nat) : Rp w a (es.take n) := by
  refine ⟨by have := h.1; simp; omega, fun e he => h.2.1 e (List.mem_of_mem_take he), ?_⟩
  rcases h.2.2 with h3 | ⟨b, off, ea, hc⟩
  · exact .inl (by simp [h3])
  · refine .inr ⟨b, off, ea, fun i e he => hc i e ?_⟩
    rw [List.getElem?_take] at he
    split at he
    · exact he
    · cases he
theorem Rp.nil (w : World) (a : Option Addr) : Rp w a [] := ⟨by simp, by simp, .inl rfl⟩

def risesB : List KV → Bool
  | [] => true
  | [_] => true
  | p :: q :: ps => decide (cmpK p.1 q.1 < 0) && risesB (q :: ps)
theorem risesB_iff : ∀ ps : List KV, risesB ps = true ↔ ∀ (i : Nat) (p q : KV), ps[i]? = some p → ps[i + 1]? = some q → cmpK p.1 q.1 < 0
  | [] => by simp [risesB]
  | [p] => by
    simp only [risesB, true_iff]
    intro i a b h1 h2
    simp at h2
  | p :: q :: ps => by
    have ih := risesB_iff (q :: ps)
    simp only [risesB, Bool.and_eq_true, decide_eq_true_eq, ih]
    constructor
    · rintro ⟨h1, h2⟩ i a b ha hb
      cases i with
      | zero => simp at ha hb; subst ha hb; exact h1
      | succ i => exact h2 i a b (by simpa using ha) (by simpa using hb)
    · intro h
      exact ⟨h 0 p q (by simp) (by simp), fun i a b ha hb => h (i + 1) a b (by simpa using ha) (by simpa using hb)⟩
theorem risesB_of_ups {ps : List KV} (h : Ups ps) : risesB ps = true := (risesB_iff ps).2 (fun i p q hp hq => ups_get h hp hq (by omega))
theorem risesB_false {ps : List KV} {i : Nat} {p q : KV} (hp : ps[i]? = some p) (hq : ps[i + 1]? = some q) (h : ¬ cmpK p.1 q.1 < 0) : risesB ps = false := by
  cases hr : risesB ps with
  | false => rfl
  | true => exact absurd ((risesB_iff ps).1 hr i p q hp hq) h

set_option maxHeartbeats 1000000 in
theorem rise_any (es : List Ent) (a : Option Addr) (c : Nat) (w : World) (h : Rp w a es) :
    Calls Try.prog 90 #[.slice a es.length c] w fun r w' => r = .returned (.bool (risesB (es.map Ent.kv))) ∧ Below w.heap.size w w' := by
  have hn := h.1
  have H := hide h
  clear h
  go_enter Try.func90, Try.ntmps90
  go_wp2_with fail
  go_loopw [3] (fun vi wr => ∃ i : Nat, vi = .int .i64 ((i : Int) + 1) ∧ i ≤ es.length ∧ Hid (Below w.heap.size w wr) ∧ Hid (∀ (j : Nat) (p q : KV), (es.map Ent.kv)[j]? = some p → (es.map Ent.kv)[j + 1]? = some q → j < i → cmpK p.1 q.1 < 0)) (fun vi _ => (es.length + 1 - intOf vi).toNat)
  case atStart => exact ⟨0, rfl, by omega, Below.refl _ _, fun j p q _ _ hj => by omega⟩
  case round =>
    obtain ⟨i, rfl, hi, F, HA⟩ := hrel
    by_cases hin : i + 1 < es.length
    · obtain ⟨e, he⟩ : ∃ e, es[i]? = some e := ⟨es[i], List.getElem?_eq_getElem (by omega)⟩
      obtain ⟨f, hf⟩ : ∃ e, es[i + 1]? = some e := ⟨es[i + 1], List.getElem?_eq_getElem hin⟩
      obtain ⟨b, off, rfl, c0, c1⟩ := (H.out.below F.out (Nat.le_refl _)).cells he
      obtain ⟨b', off', ea, c2, c3⟩ := (H.out.below F.out (Nat.le_refl _)).cells hf
      simp only [Option.some.injEq, Addr.mk.injEq] at ea
      obtain ⟨rfl, rfl, -⟩ := ea
      have d0 := cell_regrown c0
      have d1 := cell_regrown c1
      have d2 := cell_regrown c2
      have d3 := cell_regrown c3
      have hme := List.mem_of_getElem? he
      have hmf := List.mem_of_getElem? hf
      have cB : ∀ d os, Calls Try.prog 91 #[.agg #[.slice e.a e.k.length e.c, .int .u64 e.v], .agg #[.slice f.a f.k.length f.c, .int .u64 f.v]] (grow (redrawn wr d) os) fun r w'' => r = .returned (.int .i64 (cmpK e.k f.k)) ∧ ∃ p : Regrown, w'' = grow (redrawn wr p.d) p.os := fun d os =>
        Calls.regrown_of (byKey_any e f _ (((H.out.2.1 e hme).1.below F.out (Nat.le_refl _)).below (below_regrown wr d os) (Nat.le_refl _)) (((H.out.2.1 f hmf).1.below F.out (Nat.le_refl _)).below (below_regrown wr d os) (Nat.le_refl _)))
      have HE : Hid ((es.map Ent.kv)[i]? = some e.kv) := by show _ = _; simp [he]
      have HF : Hid ((es.map Ent.kv)[i + 1]? = some f.kv) := by show _ = _; simp [hf]
      have z0 : i < es.length := by omega
      have z1 : (i : Int) + 1 < (es.length : Int) := by omega
      have z2 : (0 : Int) ≤ (i : Int) + 1 := by omega
      have z3 : ((i : Int) + 1).toNat = i + 1 := by omega
      have hwp : IntKind.i64.wrap (i : Int) = (i : Int) := by rw [IntKind.wrap_i64]; omega
      have FB : Hid (∀ d os, Below w.heap.size w (grow (redrawn wr d) os)) := fun d os => F.out.trans ((below_regrown wr d os).mono F.out.size)
      clear he hf c0 c1 c2 c3 hme hmf
      by_cases hlt : cmpK e.k f.k < 0
      · have hlt' : decide (0 ≤ cmpK e.k f.k) = false := by simpa using hlt
        have HL := hide hlt
        generalize hcv : cmpK e.k f.k = cv at cB hlt hlt'
        clear hcv
        go_wp2_with fail
        refine wp_region_quiet_below (by kernel_rfl) (by kernel_rfl) ?_
        repeat (quiet_step (first | (go_at_call 91; exact cB _ _)))
        refine wpQuiet_nil ?_
        intro _ hw'
        obtain ⟨⟨dq, osq⟩, hw''⟩ := hw'
        subst hw''
        clear cB d0 d1 d2 d3
        go_wp2
        go_roundw
        case rel =>
          refine ⟨i + 1, by go_num, by omega, FB.out dq osq, fun j p q hp hq hj => ?_⟩
          by_cases e2 : j = i
          · subst e2
            rw [HE.out] at hp
            rw [HF.out] at hq
            cases hp
            cases hq
            exact HL.out
          · exact HA.out j p q hp hq (by omega)
        case measure => simp [intOf]; omega
      · have hlt' : decide (0 ≤ cmpK e.k f.k) = true := by simp; omega
        have HR := hide (risesB_false HE.out HF.out hlt)
        generalize hcv : cmpK e.k f.k = cv at cB hlt hlt'
        clear hcv
        go_wp2_with fail
        refine wp_region_quiet_below (by kernel_rfl) (by kernel_rfl) ?_
        repeat (quiet_step (first | (go_at_call 91; exact cB _ _)))
        refine wpQuiet_nil ?_
        intro _ hw'
        obtain ⟨⟨dq, osq⟩, hw''⟩ := hw'
        subst hw''
        clear cB d0 d1 d2 d3
        go_wp2
        go_ret
        exact ⟨ret_bool HR.out.symm, FB.out dq osq⟩
    · have z1 : ¬ (i : Int) + 1 < (es.length : Int) := by omega
      have HR : Hid (risesB (es.map Ent.kv) = true) := (risesB_iff _).2 (fun j p q hp hq => HA.out j p q hp hq (by
        have := (List.getElem?_eq_some_iff.1 hq).1
        simp at this
        omega))
      go_wp2
      go_ret
      exact ⟨ret_bool HR.out.symm, F.out⟩

set_option maxHeartbeats 400000 in
theorem rises_any (es : List Ent) (a : Option Addr) (c : Nat) (w : World) (h : Rp w a es) :
    Calls Try.prog 87 #[.slice a es.length c] w fun r w' => r = .returned (.bool (risesB (es.map Ent.kv))) ∧ Below w.heap.size w w' := by
  have C := hide (rise_any es a c w h)
  clear h
  go_enter Try.func87, Try.ntmps87
  go_wp2_with fail
  refine C.out.mono ?_
  rintro r w1 ⟨rfl, f⟩
  have F := hide f
  clear f
  go_wp2
  go_ret
  exact ⟨rfl, F.out⟩
end Go.Proofs.Ytnedcoomldmhhaa
