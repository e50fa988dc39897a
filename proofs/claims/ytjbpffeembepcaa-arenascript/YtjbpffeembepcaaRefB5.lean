/- The document's arena: Word, Give, New. -/
import Derived.Test.YtjbpffeembepcaaRefA5
namespace Go.Proofs.Ytjbpffeembepcaa
open Go.RowKit
set_option linter.unusedVariables false
set_option linter.unusedSimpArgs false

theorem set_same {α : Type} (l : List α) (i : Nat) (a : α) (h : l[i]? = some a) : l.set i a = l := by
  apply List.ext_getElem?
  intro j
  rw [List.getElem?_set]
  by_cases e : i = j
  · subst e
    rw [if_pos rfl, if_pos (List.getElem?_eq_some_iff.1 h).1, h]
  · rw [if_neg e]
section
variable {w : World} {g : Nat} {most : Int} {rs : List RowR} {back : List Nat} {vc vb : Value}
theorem rword_none (h : RfC w g most rs back vc vb) (hl : rs.length ≤ 1048577) (x : Nat) (hx : x < 4294967296) (hn : hasR rs x = false) (i v : Int) (on : Bool) :
    Calls Try.prog 17 #[.pointer (some ⟨g, 0, none⟩), .int .u32 (x : Int), .int .i64 i, .int .u64 v, .bool on] w fun e w' => e = .returned (.tuple #[.int .u64 0, .int .i64 5]) ∧ w' = w := by
  have T := rthere h hl x hx
  rw [hn] at T
  clear h hn hl
  go_enter Try.func17, Try.ntmps17
  go_wp2_with (go_at_call 19; refine T.mono ?_; rintro e w1 ⟨rfl, rfl⟩)
  go_ret2
  exact ⟨rfl, rfl⟩
theorem hasR_some {x : Nat} {v : Value} {ws : List Int} (hr : rs[x]? = some (some (v, ws))) : hasR rs x = true := by
  unfold hasR
  rw [hr]
  rfl
theorem RfC.word (h : RfC w g most rs back vc vb) {x : Nat} {v : Value} {ws : List Int} (hr : rs[x]? = some (some (v, ws))) : ∃ gc cap a capw, vc = .slice (some ⟨gc, 0, none⟩) rs.length cap ∧ v = .slice a ws.length capw ∧ x < rs.length ∧ w.cell? ⟨g, 0, none⟩ = some (.slice (some ⟨gc, 0, none⟩) rs.length cap) ∧ w.cell? ⟨gc, x * 2, none⟩ = some (.slice a ws.length capw) := by
  have hlt : x < rs.length := (List.getElem?_eq_some_iff.1 hr).1
  obtain ⟨gc, cap, rfl⟩ := owns_slice h.rows (by omega)
  obtain ⟨a, capw, rfl⟩ := owns_slice' (h.words x v ws hr)
  exact ⟨gc, cap, a, capw, rfl, rfl, hlt, h.blk.cell 0, (h.rows.cellAt (x * 2) (by omega)).trans (flatR_get rs x _ 0 hr (by omega))⟩
theorem rword_out (h : RfC w g most rs back vc vb) (hl : rs.length ≤ 1048577) (x : Nat) (hx : x < 4294967296) (v0 : Value) (ws : List Int) (hr : rs[x]? = some (some (v0, ws))) (i v : Int) (hi : i < 0 ∨ (ws.length : Int) ≤ i) (on : Bool) :
    Calls Try.prog 17 #[.pointer (some ⟨g, 0, none⟩), .int .u32 (x : Int), .int .i64 i, .int .u64 v, .bool on] w fun e w' => e = .returned (.tuple #[.int .u64 0, .int .i64 2]) ∧ w' = w := by
  have T := rthere h hl x hx
  rw [hasR_some hr] at T
  obtain ⟨gc, cap, a, capw, rfl, rfl, hlt, c0, c1⟩ := h.word hr
  clear h hr hl
  by_cases h0 : i < 0
  · go_enter Try.func17, Try.ntmps17
    go_wp2_with (go_at_call 19; refine T.mono ?_; rintro e w1 ⟨rfl, rfl⟩)
    go_ret2
    exact ⟨rfl, rfl⟩
  · have h1 : (ws.length : Int) ≤ i := by omega
    clear hi
    go_enter Try.func17, Try.ntmps17
    go_wp2_with (go_at_call 19; refine T.mono ?_; rintro e w1 ⟨rfl, rfl⟩)
    go_ret2
    exact ⟨rfl, rfl⟩
theorem rword_get (h : RfC w g most rs back vc vb) (hl : rs.length ≤ 1048577) (x : Nat) (hx : x < 4294967296) (v0 : Value) (ws : List Int) (hr : rs[x]? = some (some (v0, ws))) (i : Nat) (v : Int) (hi : i < ws.length) :
    Calls Try.prog 17 #[.pointer (some ⟨g, 0, none⟩), .int .u32 (x : Int), .int .i64 (i : Int), .int .u64 v, .bool false] w fun e w' => e = .returned (.tuple #[.int .u64 (wAt ws i), .int .i64 0]) ∧ w' = w := by
  have T := rthere h hl x hx
  rw [hasR_some hr] at T
  obtain ⟨gc, cap, a, capw, rfl, rfl, hlt, c0, c1⟩ := h.word hr
  have ow := h.words x _ ws hr
  obtain ⟨q, capq, e⟩ := owns_slice ow (by omega)
  simp only [Value.slice.injEq] at e
  obtain ⟨rfl, -, rfl⟩ := e
  have d := (ow.cellAt i (by omega)).trans (u64s_get ws i hi)
  have hi1 : ¬ ((ws.length : Int) ≤ (i : Int)) := by omega
  clear h hr hl ow
  go_enter Try.func17, Try.ntmps17
  go_wp2_with (go_at_call 19; refine T.mono ?_; rintro e w1 ⟨rfl, rfl⟩)
  go_ret2
  exact ⟨rfl, rfl⟩
/-- One word is another one. -/
theorem RfC.setW (h : RfC w g most rs back vc vb) {x q capq : Nat} {ws : List Int} (hr : rs[x]? = some (some (.slice (some ⟨q, 0, none⟩) ws.length capq, ws))) (i : Nat) (v : Int) :
    RfC (w.setCell ⟨q, i, none⟩ (.int .u64 v)) g most (rs.set x (some (.slice (some ⟨q, 0, none⟩) ws.length capq, ws.set i v))) back vc vb := by
  have hlt : x < rs.length := (List.getElem?_eq_some_iff.1 hr).1
  have ow := h.words x _ ws hr
  have sm : ∀ k, k ≠ q → (w.setCell ⟨q, i, none⟩ (.int .u64 v)).heap[k]? = w.heap[k]? := fun k hk => Below.heap_setCell w ⟨q, i, none⟩ _ k hk
  have ob : ∀ k, Value.ownBlock (.slice (some ⟨q, 0, none⟩) ws.length capq) = some k → k = q := fun k hk => by simpa [Value.ownBlock] using hk.symm
  have hfl : flatR (rs.set x (some (.slice (some ⟨q, 0, none⟩) ws.length capq, ws.set i v))) = flatR rs := by
    rw [← flatR_set rs x _ (.slice (some ⟨q, 0, none⟩) ws.length capq) (.bool true) rfl hlt]
    have g0 := flatR_get rs x _ 0 hr (by omega)
    have g1 := flatR_get rs x _ 1 hr (by omega)
    simp only [cellR, Nat.add_zero] at g0 g1
    rw [set_same _ _ _ g0]
    exact set_same _ _ _ g1
  refine ⟨(sm g (fun e => owns_apart ow h.blk (by decide) (by rw [e]; rfl))).trans h.blk, by rw [List.length_set, hfl]; exact owns_same h.rows (fun k hk => sm k (fun e => owns_apart2 h.rows ow (by decide) k hk (by rw [e]; rfl))), owns_same h.backs (fun k hk => sm k (fun e => owns_apart2 h.backs ow (by decide) k hk (by rw [e]; rfl))), ?_, ?_⟩
  · intro j v' ws' hj
    rw [List.getElem?_set] at hj
    split at hj
    · simp only [hlt, if_true, Option.some.injEq, Prod.mk.injEq] at hj
      obtain ⟨rfl, rfl⟩ := hj
      have o1 := (ow.stored i (.int .u64 v)).1
      rw [u64s_set] at o1
      rw [List.length_set]
      exact o1
    · rename_i hne
      refine owns_same (h.words j v' ws' hj) (fun k hk => sm k (fun e => ?_))
      exact hne (h.apart x j q _ v' ws ws' hr hj rfl (e ▸ hk))
  · intro i1 j1 q1 v1 v2 ws1 ws2 h1 h2 e1 e2
    have dn : ∀ (i1 : Nat) (v1 : Value) (ws1 : List Int), (rs.set x (some (.slice (some ⟨q, 0, none⟩) ws.length capq, ws.set i v)))[i1]? = some (some (v1, ws1)) → ∃ ws2, rs[i1]? = some (some (v1, ws2)) := by
      intro i1 v1 ws1 h1
      rw [List.getElem?_set] at h1
      split at h1
      · rename_i e
        subst e
        simp only [hlt, if_true, Option.some.injEq, Prod.mk.injEq] at h1
        obtain ⟨rfl, rfl⟩ := h1
        exact ⟨ws, hr⟩
      · exact ⟨ws1, h1⟩
    obtain ⟨u1, h1'⟩ := dn _ _ _ h1
    obtain ⟨u2, h2'⟩ := dn _ _ _ h2
    exact h.apart i1 j1 q1 v1 v2 u1 u2 h1' h2' e1 e2
theorem rword_set (h : RfC w g most rs back vc vb) (hl : rs.length ≤ 1048577) (x : Nat) (hx : x < 4294967296) (v0 : Value) (ws : List Int) (hr : rs[x]? = some (some (v0, ws))) (i : Nat) (v : Int) (hi : i < ws.length) :
    Calls Try.prog 17 #[.pointer (some ⟨g, 0, none⟩), .int .u32 (x : Int), .int .i64 (i : Int), .int .u64 v, .bool true] w fun e w' => e = .returned (.tuple #[.int .u64 0, .int .i64 0]) ∧ ∃ q capq, v0 = .slice (some ⟨q, 0, none⟩) ws.length capq ∧ w' = w.setCell ⟨q, i, none⟩ (.int .u64 v) := by
  have T := rthere h hl x hx
  rw [hasR_some hr] at T
  obtain ⟨gc, cap, a, capw, rfl, rfl, hlt, c0, c1⟩ := h.word hr
  have ow := h.words x _ ws hr
  obtain ⟨q, capq, e⟩ := owns_slice ow (by omega)
  simp only [Value.slice.injEq] at e
  obtain ⟨rfl, -, rfl⟩ := e
  have d := (ow.cellAt i (by omega)).trans (u64s_get ws i hi)
  have f := ow.frozenAt i
  have hi1 : ¬ ((ws.length : Int) ≤ (i : Int)) := by omega
  clear h hr hl ow
  go_enter Try.func17, Try.ntmps17
  go_wp2_with (go_at_call 19; refine T.mono ?_; rintro e w1 ⟨rfl, rfl⟩)
  go_ret2
  exact ⟨rfl, q, capw, rfl, rfl⟩
end
end Go.Proofs.Ytjbpffeembepcaa
