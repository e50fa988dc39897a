/- Rows of pairs (a key and a number): what stands in memory, as a list; pairs compared by their keys. -/
import Derived.Test.YtahlbebkcoofkaaReads7
import Derived.Lib.QuietBelow
import Derived.Shelf.Abstract
namespace Go.Proofs.Ytahlbebkcoofkaa
set_option maxRecDepth 20000
open Go.RowKit Go.Sort
set_option linter.unusedVariables false

/-- A pair as it stands: where its key lies, how much room that slice has, the key, the number. -/
structure Ent where
  a : Option Addr
  c : Nat
  k : List Int
  v : Int
def Ent.cells (e : Ent) : List Value := [.slice e.a e.k.length e.c, .int .u64 e.v]
theorem Ent.cells_length (e : Ent) : e.cells.length = 2 := rfl
def Ent.kv (e : Ent) : List Int × Int := (e.k, e.v)

/-- Its key reads so; its number is one. -/
def Ok (w : World) (e : Ent) : Prop := Rd w e.a e.k ∧ 0 ≤ e.v ∧ e.v ≤ 18446744073709551615
theorem Ok.below {B : Nat} {w w' : World} {e : Ent} (h : Ok w e) (f : Below B w w') (hB : w.heap.size ≤ B) : Ok w' e := ⟨h.1.below f hB, h.2⟩

/-- A slice of pairs that reads so. -/
def Rp (w : World) (a : Option Addr) (es : List Ent) : Prop :=
  es.length ≤ 1000000 ∧ (∀ e ∈ es, Ok w e) ∧ (es = [] ∨ ∃ b off, a = some ⟨b, off, none⟩ ∧ ∀ i e, es[i]? = some e → w.cell? ⟨b, off + i * 2, none⟩ = some (.slice e.a e.k.length e.c) ∧ w.cell? ⟨b, off + i * 2 + 1, none⟩ = some (.int .u64 e.v))
theorem Rp.below {B : Nat} {w w' : World} {a : Option Addr} {es : List Ent} (h : Rp w a es) (f : Below B w w') (hB : w.heap.size ≤ B) : Rp w' a es := by
  refine ⟨h.1, fun e he => (h.2.1 e he).below f hB, ?_⟩
  rcases h.2.2 with h3 | ⟨b, off, ha, hc⟩
  · exact .inl h3
  · refine .inr ⟨b, off, ha, fun i e he => ?_⟩
    have := hc i e he
    have hl : b < w.heap.size := World.block_lt_of_cell? w _ this.1
    rw [f.cell (p := ⟨b, off + i * 2, none⟩) (by show b < B; omega), f.cell (p := ⟨b, off + i * 2 + 1, none⟩) (by show b < B; omega)]
    exact this

theorem Below.drewN' {B : Nat} {w w' : World} (h : Below B w w') (n : Nat) : Below B w (w'.drewN n) := ⟨h.os, h.tape, h.output, h.size, h.block⟩
set_option maxHeartbeats 400000 in
theorem byKey_any (e f : Ent) (w : World) (he : Rd w e.a e.k) (hf : Rd w f.a f.k) :
    Calls Try.prog 40 #[.agg #[.slice e.a e.k.length e.c, .int .u64 e.v], .agg #[.slice f.a f.k.length f.c, .int .u64 f.v]] w fun r w' => r = .returned (.int .i64 (cmpK e.k f.k)) ∧ Below w.heap.size w w' := by
  obtain ⟨ea, ec, ek, ev⟩ := e
  obtain ⟨fa, fc, fk, fv⟩ := f
  simp only at he hf ⊢
  have C := fun w' (h : Below w.heap.size w w') => compare_any ea fa ek fk ec fc w' (he.below h (Nat.le_refl _)) (hf.below h (Nat.le_refl _))
  have hr := cmpK_range ek fk
  have HC := hide C
  clear C he hf
  go_enter Try.func40, Try.ntmps40
  go_wp2_with fail
  refine (HC.out _ (((Below.refl _ w).alloc (Nat.le_refl _) _).alloc (by simp) _)).mono ?_
  rintro r w1 ⟨rfl, n, rfl⟩
  go_wp2
  go_ret
  exact ⟨rfl, Below.drewN' (((Below.refl _ w).alloc (Nat.le_refl _) _).alloc (by simp) _) n⟩

theorem mid_le (i j : Nat) (h : i < j) : i ≤ (i + j) / 2 ∧ (i + j) / 2 < j := by omega
theorem Rp.cells {w : World} {a : Option Addr} {es : List Ent} (h : Rp w a es) {i : Nat} {e : Ent} (he : es[i]? = some e) : ∃ b off, a = some ⟨b, off, none⟩ ∧ w.cell? ⟨b, off + i * 2, none⟩ = some (.slice e.a e.k.length e.c) ∧ w.cell? ⟨b, off + i * 2 + 1, none⟩ = some (.int .u64 e.v) := by
  rcases h.2.2 with h3 | ⟨b, off, ha, hc⟩
  · subst h3; simp at he
  · exact ⟨b, off, ha, hc i e he⟩

set_option maxHeartbeats 1000000 in
theorem search_pair (es : List Ent) (a : Option Addr) (c : Nat) (t : Ent) (p : Nat) (w : World) (h : Rp w a es) (ht : Rd w t.a t.k) (hp : p ≤ es.length)
    (hl : ∀ i e, es[i]? = some e → i < p → cmpK e.k t.k < 0) (hr : ∀ i e, es[i]? = some e → p ≤ i → 0 ≤ cmpK e.k t.k) :
    Calls Try.prog 64 #[.slice a es.length c, .agg #[.slice t.a t.k.length t.c, .int .u64 t.v], .func (.func 40) #[] #[]] w fun r w' => r = .returned (.tuple #[.int .i64 (p : Int), .bool (decide ((es[p]?).map (fun e => e.k) = some t.k))]) ∧ Below w.heap.size w w' := by
  have hn := h.1
  have H := hide h
  have T := hide ht
  have L := hide hl
  have R := hide hr
  clear h hl hr ht
  go_enter Try.func64, Try.ntmps64
  go_wp2_with fail
  go_loopw [9, 10] (fun vi vj wr => ∃ i j : Nat, vi = .int .i64 i ∧ vj = .int .i64 j ∧ i ≤ p ∧ p ≤ j ∧ j ≤ es.length ∧ Below w.heap.size w wr ∧ wr.heap[w.heap.size]? = some (.cells #[.slice t.a t.k.length t.c, .int .u64 t.v] 54 (0, 0))) (fun vi vj _ => (intOf vj - intOf vi).toNat)
  case atStart => exact ⟨0, es.length, rfl, rfl, by omega, by omega, by omega, (Below.refl _ _).alloc (Nat.le_refl _) _, heap_alloc_new w _⟩
  case round =>
    obtain ⟨i, j, rfl, rfl, hi, hj, hjl, hb, hx⟩ := hrel
    have F := hide hb
    have X := hide hx
    clear hb hx
    by_cases hij : i < j
    · have hm := mid_le i j hij
      generalize hmm : (i + j) / 2 = m at hm
      have e1 : Hid (((i : Int) + (j : Int)) / 2 = (m : Int)) := by show _ = _; omega
      clear hmm
      obtain ⟨e, he⟩ : ∃ e, es[m]? = some e := ⟨es[m], List.getElem?_eq_getElem (by omega)⟩
      have hmem := List.mem_of_getElem? he
      have HE := hide he
      obtain ⟨b, off, rfl, c0, c1⟩ := (H.out.below F.out (Nat.le_refl _)).cells he
      have d0 := cell_regrown c0
      have d1 := cell_regrown c1
      have d2 := cell_regrown (block_cell (cur := [.slice t.a t.k.length t.c, .int .u64 t.v]) X.out 0)
      have d3 := cell_regrown (block_cell (cur := [.slice t.a t.k.length t.c, .int .u64 t.v]) X.out 1)
      have hsz := F.out.size
      have cB : ∀ d os, Calls Try.prog 40 #[.agg #[.slice e.a e.k.length e.c, .int .u64 e.v], .agg #[.slice t.a t.k.length t.c, .int .u64 t.v]] (grow (redrawn wr d) os) fun r w'' => r = .returned (.int .i64 (cmpK e.k t.k)) ∧ ∃ p : Regrown, w'' = grow (redrawn wr p.d) p.os := fun d os =>
        Calls.regrown_of (byKey_any e t _ (((H.out.2.1 e hmem).1.below F.out (Nat.le_refl _)).below (below_regrown wr d os) (Nat.le_refl _)) ((T.out.below F.out (Nat.le_refl _)).below (below_regrown wr d os) (Nat.le_refl _)))
      have hml : m < es.length := by omega
      have eg : ∀ args w, (callFunc 40 args).run Try.prog w = .ok (.enter 40 args) w := enters_of Try.func40 (by kernel_rfl) rfl
      clear c0 c1 he hmem
      go_wp2_with fail
      rw [e1.out]
      have FB : Hid (∀ d os, Below w.heap.size w (grow (redrawn wr d) os)) := fun d os => F.out.trans ((below_regrown wr d os).mono hsz)
      have XB : Hid (∀ d os, (grow (redrawn wr d) os).heap[w.heap.size]? = some (.cells #[.slice t.a t.k.length t.c, .int .u64 t.v] 54 (0, 0))) := fun d os => ((below_regrown wr d os).block _ (block_lt X.out)).trans X.out
      by_cases hlt : cmpK e.k t.k < 0
      · have hlt' : decide (cmpK e.k t.k < 0) = true := by simpa using hlt
        have hpm : m < p := by
          rcases Nat.lt_or_ge m p with h | h
          · exact h
          · have := R.out m e HE.out h; omega
        generalize hcv : cmpK e.k t.k = cv at cB hlt hlt'
        clear hcv
        refine wp_region_quiet_below (by kernel_rfl) (by kernel_rfl) ?_
        repeat (quiet_step (first | (go_at_call 40; exact cB _ _)))
        refine wpQuiet_nil ?_
        intro _ hw'
        obtain ⟨⟨dq, osq⟩, hw''⟩ := hw'
        subst hw''
        clear cB d0 d1 d2 d3
        go_wp2
        go_roundw
        case rel => exact ⟨m + 1, j, by go_num, rfl, by omega, hj, hjl, FB.out _ _, XB.out _ _⟩
        case measure => simp [intOf]; omega
      · have hlt' : decide (cmpK e.k t.k < 0) = false := by simpa using hlt
        have hpm : p ≤ m := by
          rcases Nat.lt_or_ge m p with h | h
          · have := L.out m e HE.out h; omega
          · exact h
        generalize hcv : cmpK e.k t.k = cv at cB hlt hlt'
        clear hcv
        refine wp_region_quiet_below (by kernel_rfl) (by kernel_rfl) ?_
        repeat (quiet_step (first | (go_at_call 40; exact cB _ _)))
        refine wpQuiet_nil ?_
        intro _ hw'
        obtain ⟨⟨dq, osq⟩, hw''⟩ := hw'
        subst hw''
        clear cB d0 d1 d2 d3
        go_wp2
        go_roundw
        case rel => exact ⟨i, m, rfl, rfl, hi, hpm, by omega, FB.out _ _, XB.out _ _⟩
        case measure => simp [intOf]; omega
    · obtain rfl : i = p := by omega
      obtain rfl : j = i := by omega
      clear hi hj
      have eg : ∀ args w, (callFunc 40 args).run Try.prog w = .ok (.enter 40 args) w := enters_of Try.func40 (by kernel_rfl) rfl
      have hsz := F.out.size
      have FB : Hid (∀ d os, Below w.heap.size w (grow (redrawn wr d) os)) := fun d os => F.out.trans ((below_regrown wr d os).mono hsz)
      rcases Nat.lt_or_ge j es.length with hpl | hpl
      · obtain ⟨e, he⟩ : ∃ e, es[j]? = some e := ⟨es[j], List.getElem?_eq_getElem (by omega)⟩
        have hmem := List.mem_of_getElem? he
        have HE := hide he
        obtain ⟨b, off, rfl, c0, c1⟩ := (H.out.below F.out (Nat.le_refl _)).cells he
        have d0 := cell_regrown c0
        have d1 := cell_regrown c1
        have d2 := cell_regrown (block_cell (cur := [.slice t.a t.k.length t.c, .int .u64 t.v]) X.out 0)
        have d3 := cell_regrown (block_cell (cur := [.slice t.a t.k.length t.c, .int .u64 t.v]) X.out 1)
        have cB : ∀ d os, Calls Try.prog 40 #[.agg #[.slice e.a e.k.length e.c, .int .u64 e.v], .agg #[.slice t.a t.k.length t.c, .int .u64 t.v]] (grow (redrawn wr d) os) fun r w'' => r = .returned (.int .i64 (cmpK e.k t.k)) ∧ ∃ p : Regrown, w'' = grow (redrawn wr p.d) p.os := fun d os =>
          Calls.regrown_of (byKey_any e t _ (((H.out.2.1 e hmem).1.below F.out (Nat.le_refl _)).below (below_regrown wr d os) (Nat.le_refl _)) ((T.out.below F.out (Nat.le_refl _)).below (below_regrown wr d os) (Nat.le_refl _)))
        have hfin : Hid ((cmpK e.k t.k == 0) = decide ((es[j]?).map (fun e => e.k) = some t.k)) := by
          show _ = _
          rw [HE.out]
          have := cmpK_zero e.k t.k
          rw [Bool.eq_iff_iff]
          simp [this]
        clear c0 c1 he hmem
        generalize hcv : cmpK e.k t.k = cv at cB hfin
        clear hcv
        go_wp2_with fail
        refine wp_region_quiet_below (by kernel_rfl) (by kernel_rfl) ?_
        repeat (quiet_step (first | (go_at_call 40; exact cB _ _)))
        refine wpQuiet_nil ?_
        intro _ hw'
        obtain ⟨⟨dq, osq⟩, hw''⟩ := hw'
        subst hw''
        clear cB d0 d1 d2 d3
        go_wp2
        go_ret2
        refine ⟨?_, FB.out _ _⟩
        rw [← hfin.out]
        rfl
      · have hfin : Hid (decide ((es[j]?).map (fun e => e.k) = some t.k) = false) := by
          show _ = _
          rw [List.getElem?_eq_none hpl]
          simp
        have hd : decide (j < es.length) = false := by simp; omega
        have FD : Hid (∀ n, Below w.heap.size w (wr.drewN n)) := fun n => Below.drewN' F.out n
        go_wp2_with fail
        go_quiet (fail)
        go_wp2
        go_ret2
        refine ⟨?_, FD.out _⟩
        rw [hfin.out]
        rfl
end Go.Proofs.Ytahlbebkcoofkaa
