/- shape.holds. -/
import Derived.Test.YtnedcoomldmhhaaTr13
namespace Go.Proofs.Ytnedcoomldmhhaa
set_option maxRecDepth 20000
open Go.RowKit Go.Sort
set_option linter.unusedVariables false
set_option linter.unusedSimpArgs false

def mayOne (key : List Int) (p : KV) : Bool := decide (p.1.length ≤ 65535) && decide (common p.1 key = key.length)
def mayAll (key : List Int) (ps : List KV) : Bool := ps.all (mayOne key)
def holdsP (c : PC) : Bool := if c.kind = 10 then 4 < c.count else mayAll c.key c.pairs && risesB c.pairs
set_option maxHeartbeats 1600000 in
theorem astray_any (e : Ent) (c : Cel) (q : Nat) (w : World) (hq : Blk w q 40 c.fields) (he : Rd w e.a e.k) (hc : Rd w c.ka c.key) :
    Calls Try.prog 85 #[.agg #[.slice e.a e.k.length e.c, .int .u64 e.v], .pointer (some ⟨q, 0, none⟩)] w fun r w' => r = .returned (.bool (!(mayOne c.key e.kv))) ∧ Below w.heap.size w w' := by
  obtain ⟨ea, ec, ek, ev⟩ := e
  simp only at he ⊢
  have hl := he.2.1
  have hl2 := hc.2.1
  have M := hide (may_any ea ek.length ec · hl)
  have B : Hid (∀ w', Below w.heap.size w w' → Calls Try.prog 84 #[.slice ea ek.length ec, .slice c.ka c.key.length c.kc] w' fun e w'' => e = .returned (.bool ((common ek c.key : Int) == (c.key.length : Int))) ∧ ∃ n, w'' = w'.drewN n) := fun w' f =>
    begins_any ea c.ka ek c.key ec c.kc w' (he.below f (Nat.le_refl _)) (hc.below f (Nat.le_refl _))
  have f0 : Below w.heap.size w (w.alloc (.cells #[.slice ea ek.length ec, .int .u64 ev] 47 (0, 0))) := (Below.refl _ w).alloc (Nat.le_refl _) _
  have Q := hq.below f0 hq.lt
  have q7 := hq.cell 7
  have ql := hq.lt
  simp only [Cel.fields, List.getElem?_cons_zero, List.getElem?_cons_succ] at q7
  have F0 := hide f0
  have hz : Hid (mayOne c.key (⟨ea, ec, ek, ev⟩ : Ent).kv = (decide (ek.length ≤ 65535) && decide (common ek c.key = c.key.length))) := rfl
  clear he hc f0 Q hq
  generalize mayOne c.key (⟨ea, ec, ek, ev⟩ : Ent).kv = z at *
  go_enter Try.func85, Try.ntmps85
  go_wp2_with fail
  refine (M.out _).mono ?_
  rintro e w2 ⟨rfl, rfl⟩
  by_cases hA : ek.length ≤ 65535
  · have hA' : decide ((ek.length : Int) ≤ 65535) = true := by simp; omega
    rw [hA']
    go_wp2_with fail
    refine (B.out _ F0.out).mono ?_
    rintro e w2 ⟨rfl, n, rfl⟩
    go_wp2_with fail
    go_ret
    refine ⟨ret_bool ?_, Below.drewN' F0.out n⟩
    rw [hz.out, decide_eq_true hA]
    rw [Bool.eq_iff_iff]; simp; omega
  · have hA' : decide ((ek.length : Int) ≤ 65535) = false := by simp; omega
    rw [hA']
    go_wp2_with fail
    go_ret
    refine ⟨ret_bool ?_, F0.out⟩
    rw [hz.out, decide_eq_false hA]; rfl
set_option maxHeartbeats 1600000 in
theorem indexFunc_any (es : List Ent) (a : Option Addr) (k : Nat) (c : Cel) (q : Nat) (w : World) (h : Rp w a es) (hq : Blk w q 40 c.fields) (hc : Rd w c.ka c.key) :
    Calls Try.prog 89 #[.slice a es.length k, .func (.func 85) #[] #[.pointer (some ⟨q, 0, none⟩)]] w fun r w' => ∃ j : Int, r = .returned (.int .i64 j) ∧ decide (0 ≤ j) = !(mayAll c.key (es.map Ent.kv)) ∧ Below w.heap.size w w' := by
  have hn := h.1
  have H := hide h
  have HQ := hide hq
  have HC := hide hc
  have eg : ∀ args w, (callFunc 85 args).run Try.prog w = .ok (.enter 85 args) w := enters_of Try.func85 (by kernel_rfl) rfl
  clear h hq hc
  go_enter Try.func89, Try.ntmps89
  go_wp2_with fail
  go_loopw [8] (fun vi wr => ∃ i : Nat, vi = .int .i64 i ∧ i ≤ es.length ∧ Hid (Below w.heap.size w wr) ∧ Hid (∀ j e, es[j]? = some e → j < i → mayOne c.key e.kv = true)) (fun vi _ => (es.length - intOf vi).toNat)
  case atStart => exact ⟨0, rfl, by omega, Below.refl _ _, fun j e _ hj => by omega⟩
  case round =>
    obtain ⟨i, rfl, hi, F, HA⟩ := hrel
    by_cases hin : i < es.length
    · obtain ⟨e, he⟩ : ∃ e, es[i]? = some e := ⟨es[i], List.getElem?_eq_getElem hin⟩
      have hr := H.out.below F.out (Nat.le_refl _)
      obtain ⟨b, off, rfl, c0, c1⟩ := hr.cells he
      have C := astray_any e c q wr (HQ.out.below F.out HQ.out.lt) (hr.2.1 e (List.mem_of_getElem? he)).1 (HC.out.below F.out (Nat.le_refl _))
      have HE := hide he
      clear he hr
      go_wp2_with fail
      refine C.mono ?_
      rintro r w2 ⟨rfl, f⟩
      have F2 := hide (F.out.trans (f.mono F.out.size))
      clear f C c0 c1
      by_cases hm : mayOne c.key e.kv = true
      · rw [hm]
        go_wp2
        go_roundw
        case rel => exact ⟨i + 1, by go_num, by omega, F2.out, fun j e' hj hji => by
          by_cases hjj : j < i
          · exact HA.out j e' hj hjj
          · obtain rfl : j = i := by omega
            rw [HE.out] at hj
            cases hj
            exact hm⟩
        case measure => simp [intOf]; omega
      · have hm' : mayOne c.key e.kv = false := by simpa using hm
        rw [hm']
        go_wp2
        go_ret
        refine ⟨i, rfl, ?_, F2.out⟩
        have : mayAll c.key (es.map Ent.kv) = false := by
          unfold mayAll
          rw [List.all_eq_false]
          exact ⟨e.kv, List.mem_map.2 ⟨e, List.mem_of_getElem? HE.out, rfl⟩, hm⟩
        rw [this]
        simp
    · obtain rfl : i = es.length := by omega
      go_wp2
      go_ret
      refine ⟨-1, rfl, ?_, F.out⟩
      have : mayAll c.key (es.map Ent.kv) = true := by
        unfold mayAll
        rw [List.all_eq_true]
        intro p hp
        obtain ⟨e, he, rfl⟩ := List.mem_map.1 hp
        obtain ⟨j, hj⟩ := List.mem_iff_getElem?.1 he
        exact HA.out j e hj (List.getElem?_eq_some_iff.1 hj).1
      rw [this]
      simp
set_option maxHeartbeats 1600000 in
theorem contains_any (es : List Ent) (a : Option Addr) (k : Nat) (c : Cel) (q : Nat) (w : World) (h : Rp w a es) (hq : Blk w q 40 c.fields) (hc : Rd w c.ka c.key) :
    Calls Try.prog 86 #[.slice a es.length k, .func (.func 85) #[] #[.pointer (some ⟨q, 0, none⟩)]] w fun r w' => r = .returned (.bool (!(mayAll c.key (es.map Ent.kv)))) ∧ Below w.heap.size w w' := by
  have C := hide (indexFunc_any es a k c q w h hq hc)
  clear h hq hc
  go_enter Try.func86, Try.ntmps86
  go_wp2_with fail
  refine C.out.mono ?_
  rintro r w2 ⟨j, rfl, hj, f⟩
  have F := hide f
  have HJ := hide hj
  clear f hj
  go_wp2
  go_ret
  exact ⟨ret_bool (by rw [← HJ.out]), F.out⟩
set_option maxHeartbeats 1600000 in
theorem holds_any (c : Cel) (w : World) (h : Cok w c) : Calls Try.prog 79 #[.agg #[.int .i64 c.kind, .int .i64 c.at_, .int .i64 c.count, .int .i64 c.kids, .int .u8 c.byte, .bool c.full, .int .u64 c.val, .slice c.ka c.key.length c.kc, .slice c.pa c.ps.length c.pc]] w fun e w' => e = .returned (.bool (holdsP c.pure)) ∧ Below w.heap.size w w' := by
  have f0 : Below w.heap.size w (w.alloc (.cells c.fields.toArray 40 (0, 0))) := (Below.refl _ w).alloc (Nat.le_refl _) _
  have C := contains_any c.ps c.pa c.pc c w.heap.size _ (h.2.2.2.2.2.2.2.below f0 (Nat.le_refl _)) (Blk.new w _ _ _ rfl) (h.2.2.2.2.2.2.1.below f0 (Nat.le_refl _))
  have R : Hid (∀ w', Below w.heap.size w w' → Calls Try.prog 87 #[.slice c.pa c.ps.length c.pc] w' fun r w'' => r = .returned (.bool (risesB (c.ps.map Ent.kv))) ∧ Below w'.heap.size w' w'') := fun w' f => rises_any c.ps c.pa c.pc w' (h.2.2.2.2.2.2.2.below f (Nat.le_refl _))
  have F0 := hide f0
  have x0 := hide (Blk.new w 40 c.fields _ rfl)
  simp only [Cel.fields] at C F0 x0
  have HC := hide C
  have hz : Hid (holdsP c.pure = if c.kind = 10 then decide (4 < c.count) else mayAll c.key (c.ps.map Ent.kv) && risesB (c.ps.map Ent.kv)) := rfl
  clear C f0 h
  generalize holdsP c.pure = z at *
  go_enter Try.func79, Try.ntmps79
  by_cases hk : c.kind = 10
  · have hk' : (c.kind == 10) = true := by simpa using hk
    rw [if_pos hk] at hz
    simp only [hk] at F0
    go_wp2_with fail
    go_ret
    exact ⟨ret_bool hz.out.symm, F0.out⟩
  · have hk' : (c.kind == 10) = false := by simpa using hk
    rw [if_neg hk] at hz
    go_wp2_with fail
    refine HC.out.mono ?_
    rintro r w2 ⟨rfl, f2⟩
    have X2 := (x0.out.below f2 x0.out.lt).cell 8
    simp only [List.getElem?_cons_zero, List.getElem?_cons_succ] at X2
    have F2 := hide (F0.out.trans (f2.mono F0.out.size))
    clear f2
    by_cases hm : mayAll c.key (c.ps.map Ent.kv) = true
    · rw [hm] at hz ⊢
      go_wp2_with fail
      refine (R.out _ F2.out).mono ?_
      rintro r w3 ⟨rfl, f3⟩
      have F3 := hide (F2.out.trans (f3.mono F2.out.size))
      clear f3
      go_wp2_with fail
      go_ret
      exact ⟨ret_bool (by rw [hz.out]; rfl), F3.out⟩
    · have hm' : mayAll c.key (c.ps.map Ent.kv) = false := by simpa using hm
      rw [hm'] at hz ⊢
      go_wp2_with fail
      go_ret
      exact ⟨ret_bool (by rw [hz.out]; rfl), F2.out⟩
end Go.Proofs.Ytnedcoomldmhhaa
