/- What New leans on: Clone, IndexFunc, DeleteFunc where nothing goes, the sort of nothing. -/
import Derived.Test.YtahlbebkcoofkaaLs8
import Derived.Test.YtahlbebkcoofkaaStb7
namespace Go.Proofs.Ytahlbebkcoofkaa
set_option maxRecDepth 20000
open Go.RowKit Go.Sort
set_option linter.unusedVariables false

theorem pairs_one (es : List Ent) : ∀ u ∈ flat Ent.cells es, u.oneCell' = true := by
  induction es with
  | nil => intro u hu; simp [flat] at hu
  | cons e es ih =>
    intro u hu
    simp only [flat, List.mem_append] at hu
    rcases hu with hu | hu
    · simp [Ent.cells] at hu
      rcases hu with rfl | rfl <;> rfl
    · exact ih u hu
theorem Rp.src {w : World} {a : Option Addr} {es : List Ent} (h : Rp w a es) {tx e' : TypeId} (hk : Try.prog.underlying tx = some (.slice e')) (c : Nat) : Src Try.prog 2 tx (.slice a es.length c) es.length (flat Ent.cells es) w := by
  rcases h.2.2 with rfl | ⟨b, off, rfl, hc⟩
  · cases a with
    | none => exact Src.ofNil w hk c
    | some x => exact Src.ofSlice w hk x 0 c [] rfl (fun j u hu => by simp at hu) (fun u hu => by simp at hu)
  · refine Src.ofSlice w hk ⟨b, off, none⟩ es.length c _ (by rw [flat_length Ent.cells_length]) (fun j u hu => ?_) (pairs_one es)
    have hj : j < es.length * 2 := by
      have := (List.getElem?_eq_some_iff.1 hu).1
      rwa [flat_length Ent.cells_length] at this
    obtain ⟨e, he⟩ : ∃ e, es[j / 2]? = some e := ⟨es[j / 2]'(by omega), List.getElem?_eq_getElem (by omega)⟩
    have h2 := flat_get Ent.cells_length es (j / 2) e (j % 2) he (by omega)
    rw [show j / 2 * 2 + j % 2 = j by omega, hu] at h2
    have hplain : (⟨b, off, none⟩ : Addr).add j = ⟨b, off + j, none⟩ := by unfold Addr.add; split <;> simp_all
    rw [hplain]
    have hcc := hc (j / 2) e he
    have h3 : j % 2 = 0 ∨ j % 2 = 1 := by omega
    rcases h3 with h3 | h3
    · rw [h3] at h2
      simp [Ent.cells] at h2
      rw [h2, show off + j = off + j / 2 * 2 by omega]
      exact hcc.1
    · rw [h3] at h2
      simp [Ent.cells] at h2
      rw [h2, show off + j = off + j / 2 * 2 + 1 by omega]
      exact hcc.2
theorem append_pairs (w : World) (ty tx : TypeId) (base : Nat) (v : Value) (n : Nat) (xs : List Value) (hown : w.ownsRow base 54 2 v n xs)
    (x : Value) (m : Nat) (news : List Value) (hs : Src Try.prog 2 tx x m news w) (hb : n + m ≤ 1000000000) (hbase : base ≤ w.heap.size) :
    ∃ v' w', (Builtin.append_ #[22, tx] ty #[v, x]).run Try.prog w = .ok v' w' ∧ w'.ownsRow base 54 2 v' (n + m) (xs ++ news) ∧ w.grownBy w' v.ownBlock ∧
      (v'.ownBlock = v.ownBlock ∨ v'.ownBlock = some w.heap.size) ∧ (m = 0 → v' = v ∧ w' = w) ∧ w'.ownsRow base 54 2 v n xs := by
  obtain ⟨i, h1, h2, h3, h4⟩ := info_pair
  exact run_append_src base 22 tx ty 54 i _ 2 32 Try.underlying22 h1 h2 h3 h4 rfl (by omega) v n xs hown x m news hs (by unfold maxLen; omega) (by omega) hbase

set_option maxHeartbeats 1000000 in
theorem clone_some (es : List Ent) (a : Addr) (c : Nat) (w : World) (h : Rp w (some a) es) :
    Calls Try.prog 37 #[.slice (some a) es.length c] w fun r w' => ∃ v, r = .returned v ∧ w'.ownsRow w.heap.size 54 2 v es.length (flat Ent.cells es) ∧ (∃ k, v.ownBlock = some k) ∧ Below w.heap.size w w' := by
  have hn := h.1
  have f0 : Below w.heap.size w (w.alloc (.cells #[] 54 (0, 0))) := (Below.refl _ w).alloc (Nat.le_refl _) _
  have o0 : (w.alloc (.cells #[] 54 (0, 0))).ownsRow w.heap.size 54 2 (.slice (some ⟨w.heap.size, 0, none⟩) 0 0) 0 [] :=
    ⟨rfl, .inr ⟨w.heap.size, 0, #[], rfl, Nat.le_refl _, heap_alloc_new w _, Nat.le_refl _, by unfold maxLen; omega, rfl, rfl⟩⟩
  obtain ⟨v', w', r, o, g, hb, _⟩ := append_pairs _ 22 22 w.heap.size _ 0 [] o0 _ es.length _ ((h.below f0 (Nat.le_refl _)).src Try.underlying22 c) (by omega) (by simp)
  have O : Hid (w'.ownsRow w.heap.size 54 2 v' es.length (flat Ent.cells es)) := by show World.ownsRow _ _ _ _ _ _ _; simpa using o
  have F : Hid (Below w.heap.size w w') := f0.grown g (by simp) (fun k hk => by simp [Value.ownBlock] at hk; omega)
  have HB : Hid (∃ k, v'.ownBlock = some k) := by
    rcases hb with hb | hb
    · exact ⟨_, hb⟩
    · exact ⟨_, hb⟩
  clear o g hb o0 f0 h
  have he : ∀ w : World, (binOp .eql 22 (.slice (some a) es.length c) (.slice none 0 0)).run Try.prog w = .ok (.bool false) w := fun _ => rfl
  go_enter Try.func37, Try.ntmps37
  go_wp2_with (at_builtin; refine wpList_append_run rfl _ _ _ _ rfl _ _ _ _ rfl rfl r ?_)
  go_ret
  exact ⟨v', rfl, O.out, HB.out, F.out⟩
set_option maxHeartbeats 1000000 in
theorem clone_nil (w : World) : Calls Try.prog 37 #[.slice none 0 0] w fun r w' => r = .returned (.slice none 0 0) ∧ w' = w := by
  have he : ∀ w : World, (binOp .eql 22 (.slice none 0 0) (.slice none 0 0)).run Try.prog w = .ok (.bool true) w := fun _ => rfl
  go_enter Try.func37, Try.ntmps37
  go_wp2
  go_ret
  exact ⟨rfl, rfl⟩
set_option maxHeartbeats 1000000 in
theorem tooLong_not (e : Ent) (w : World) (he : e.k.length ≤ 65535) :
    Calls Try.prog 38 #[.agg #[.slice e.a e.k.length e.c, .int .u64 e.v]] w fun r w' => r = .returned (.bool false) ∧ Below w.heap.size w w' := by
  obtain ⟨ea, ec, ek, ev⟩ := e
  simp only at he ⊢
  have M := fun w' => may_any ea ek.length ec w' (by unfold maxLen; omega)
  have hd : decide ((ek.length : Int) ≤ 65535) = true := by simp; omega
  rw [hd] at M
  have HM := hide M
  clear M hd
  go_enter Try.func38, Try.ntmps38
  go_wp2_with fail
  refine (HM.out _).mono ?_
  rintro r w1 ⟨rfl, hw⟩
  subst hw
  go_wp2
  go_ret
  exact ⟨rfl, (Below.refl _ w).alloc (Nat.le_refl _) _⟩
set_option maxHeartbeats 1000000 in
theorem indexFunc_none (es : List Ent) (a : Option Addr) (c : Nat) (w : World) (h : Rp w a es) (hk : ∀ e ∈ es, e.k.length ≤ 65535) :
    Calls Try.prog 61 #[.slice a es.length c, .func (.func 38) #[] #[]] w fun r w' => r = .returned (.int .i64 (-1)) ∧ Below w.heap.size w w' := by
  have hn := h.1
  have H := hide h
  have HK := hide hk
  have eg : ∀ args w, (callFunc 38 args).run Try.prog w = .ok (.enter 38 args) w := enters_of Try.func38 (by kernel_rfl) rfl
  clear h hk
  go_enter Try.func61, Try.ntmps61
  go_wp2_with fail
  go_loopw [8] (fun vi wr => ∃ i : Nat, vi = .int .i64 i ∧ i ≤ es.length ∧ Hid (Below w.heap.size w wr)) (fun vi _ => (es.length - intOf vi).toNat)
  case atStart => exact ⟨0, rfl, by omega, Below.refl _ _⟩
  case round =>
    obtain ⟨i, rfl, hi, F⟩ := hrel
    by_cases hin : i < es.length
    · obtain ⟨e, he⟩ : ∃ e, es[i]? = some e := ⟨es[i], List.getElem?_eq_getElem hin⟩
      obtain ⟨b, off, rfl, c0, c1⟩ := (H.out.below F.out (Nat.le_refl _)).cells he
      have C := tooLong_not e wr (HK.out e (List.mem_of_getElem? he))
      clear he
      go_wp2_with fail
      refine C.mono ?_
      rintro r w2 ⟨rfl, f⟩
      have F2 := hide (F.out.trans (f.mono F.out.size))
      clear f C c0 c1
      go_wp2
      go_roundw
      case rel => exact ⟨i + 1, by go_num, by omega, F2⟩
      case measure => simp [intOf]; omega
    · go_wp2
      go_ret
      exact ⟨rfl, F.out⟩
set_option maxHeartbeats 1000000 in
theorem deleteFunc_none (es : List Ent) (a : Option Addr) (c : Nat) (w : World) (h : Rp w a es) (hk : ∀ e ∈ es, e.k.length ≤ 65535) :
    Calls Try.prog 36 #[.slice a es.length c, .func (.func 38) #[] #[]] w fun r w' => r = .returned (.slice a es.length c) ∧ Below w.heap.size w w' := by
  have C := hide (indexFunc_none es a c w h hk)
  clear h hk
  go_enter Try.func36, Try.ntmps36
  go_wp2_with fail
  refine C.out.mono ?_
  rintro r w2 ⟨rfl, f⟩
  have F := hide f
  clear f
  go_wp2
  go_ret
  exact ⟨rfl, F.out⟩
set_option maxHeartbeats 1000000 in
theorem insertion_nil (w : World) : Calls Try.prog 71 #[.slice none 0 0, .int .i64 0, .int .i64 0, .func (.func 40) #[] #[]] w fun r w' => r = .returned (.tuple #[]) ∧ w' = w := by
  go_enter Try.func71, Try.ntmps71
  go_wp2
  refine wp_loop_rounds 1 ?_
  rw [rounds_succ]
  go_wp2
  go_end0
  exact ⟨rfl, rfl⟩
set_option maxHeartbeats 1000000 in
set_option maxRecDepth 20000 in
theorem stable_nil (w : World) : Calls Try.prog 62 #[.slice none 0 0, .int .i64 0, .func (.func 40) #[] #[]] w fun r w' => r = .returned (.tuple #[]) ∧ w' = w := by
  have C := hide (insertion_nil w)
  go_enter Try.func62, Try.ntmps62
  go_wp2
  refine wp_loop_rounds 1 ?_
  rw [rounds_succ]
  go_wp2_with fail
  refine C.out.mono ?_
  rintro r w2 ⟨rfl, hw⟩
  subst hw
  go_wp2
  refine wp_loop_rounds 1 ?_
  rw [rounds_succ]
  go_wp2
  go_end0
  exact ⟨rfl, rfl⟩
set_option maxHeartbeats 1000000 in
theorem sortStable_nil (w : World) : Calls Try.prog 39 #[.slice none 0 0, .func (.func 40) #[] #[]] w fun r w' => r = .returned (.tuple #[]) ∧ w' = w := by
  have C := hide (stable_nil w)
  go_enter Try.func39, Try.ntmps39
  go_wp2_with fail
  refine C.out.mono ?_
  rintro r w2 ⟨rfl, hw⟩
  subst hw
  go_wp2
  go_end0
  exact ⟨rfl, rfl⟩
end Go.Proofs.Ytahlbebkcoofkaa
