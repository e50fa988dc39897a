/- find, word, Size, Get, Set, Live, Free. -/
import Derived.Test.YtjbpffeembepcaaRows
import Derived.Test.YtjbpffeembepcaaAr5
namespace Go.Proofs.Ytjbpffeembepcaa
open Go.RowKit
set_option linter.unusedVariables false

theorem owns_slice {w : World} {base : Nat} {e : TypeId} {size : Nat} {v : Value} {n : Nat} {xs : List Value} (h : w.ownsRow base e size v n xs) (hn : 0 < n) : ∃ g cap, v = .slice (some ⟨g, 0, none⟩) n cap := by
  rcases h.2 with ⟨rfl, h0⟩ | ⟨g, cap, cur, rfl, _⟩
  · omega
  · exact ⟨g, cap, rfl⟩
theorem owns_slice' {w : World} {base : Nat} {e : TypeId} {size : Nat} {v : Value} {n : Nat} {xs : List Value} (h : w.ownsRow base e size v n xs) : ∃ a cap, v = .slice a n cap := by
  rcases h.2 with ⟨rfl, h0⟩ | ⟨g, cap, cur, rfl, _⟩
  · exact ⟨none, 0, by rw [h0]⟩
  · exact ⟨_, cap, rfl⟩

theorem find_nil (x : Int) (w : World) : Calls Try.prog 30 #[.pointer none, .int .u32 x] w fun e w' => e = .returned (.tuple #[.pointer none, .int .i64 1]) ∧ w' = w := by
  go_enter Try.func30, Try.ntmps30
  go_wp2
  go_ret2
  exact ⟨rfl, rfl⟩

set_option maxHeartbeats 800000 in
theorem find_has {w : World} {g : Nat} {most : Int} {rs : List Row} {back : List Nat} {vb : Value} {gc cap : Nat} (h : ArC w g most rs back (.slice (some ⟨gc, 0, none⟩) rs.length cap) vb) (hl : rs.length ≤ 1048576) (n q : Nat) (ws : List Int) (hn : rs[n]? = some (some (q, ws))) :
    Calls Try.prog 30 #[.pointer (some ⟨g, 0, none⟩), .int .u32 ((n : Int) + 1)] w fun e w' => e = .returned (.tuple #[.pointer (some ⟨gc, n * 2, none⟩), .int .i64 0]) ∧ w' = w := by
  have hlt : n < rs.length := (List.getElem?_eq_some_iff.1 hn).1
  have c1 : w.cell? ⟨g, 1, none⟩ = some (.slice (some ⟨gc, 0, none⟩) rs.length cap) := h.blk.cell 1
  have d1 : w.cell? ⟨gc, n * 2 + 1, none⟩ = some (.bool true) := (h.rows.cellAt (n * 2 + 1) (by omega)).trans (flat2_get rs n _ 1 hn (by omega))
  obtain ⟨x, hx⟩ : ∃ x : Int, x = (n : Int) + 1 := ⟨_, rfl⟩
  rw [← hx]
  have e1 : IntKind.u32.wrap (x - 1) = (n : Int) := by rw [IntKind.wrap_u32]; omega
  have e1' : (x - 1) % 4294967296 = (n : Int) := by omega
  have e2 : IntKind.u64.wrap x = x := by rw [IntKind.wrap_u64]; omega
  have e3 : IntKind.u64.wrap (rs.length : Int) = (rs.length : Int) := by rw [IntKind.wrap_u64]; omega
  have e4 : (x == 0) = false := by simp; omega
  have e5 : decide ((rs.length : Int) < x) = false := decide_eq_false (by omega)
  clear h hn hl hx
  go_enter Try.func30, Try.ntmps30
  go_wp2
  go_ret2
  exact ⟨rfl, rfl⟩

/-- There is no such cell. -/
def noCell (rs : List Row) (h : Nat) : Prop := h = 0 ∨ rs.length < h ∨ rs[h - 1]? = some none
set_option maxHeartbeats 800000 in
theorem find_none {w : World} {g : Nat} {most : Int} {rs : List Row} {back : List Nat} {vc vb : Value} (h : ArC w g most rs back vc vb) (hl : rs.length ≤ 1048576) (x : Nat) (hx : x < 4294967296) (hn : noCell rs x) :
    Calls Try.prog 30 #[.pointer (some ⟨g, 0, none⟩), .int .u32 (x : Int)] w fun e w' => e = .returned (.tuple #[.pointer none, .int .i64 5]) ∧ w' = w := by
  by_cases h0 : x = 0
  · subst h0
    show Calls Try.prog 30 #[.pointer (some ⟨g, 0, none⟩), .int .u32 (0 : Int)] w _
    go_enter Try.func30, Try.ntmps30
    go_wp2
    go_ret2
    exact ⟨rfl, rfl⟩
  obtain ⟨ac, cap, rfl⟩ := owns_slice' h.rows
  have c1 : w.cell? ⟨g, 1, none⟩ = some (.slice ac rs.length cap) := h.blk.cell 1
  have e2 : IntKind.u64.wrap (x : Int) = (x : Int) := by rw [IntKind.wrap_u64]; omega
  have e3 : IntKind.u64.wrap (rs.length : Int) = (rs.length : Int) := by rw [IntKind.wrap_u64]; omega
  have e4 : ¬ ((x : Int) = 0) := by omega
  by_cases h1 : rs.length < x
  · obtain ⟨y, hy⟩ : ∃ y : Int, y = (x : Int) := ⟨_, rfl⟩
    rw [← hy] at e2 ⊢
    have e4 : (y == 0) = false := by simp; omega
    have e5 : decide ((rs.length : Int) < y) = true := decide_eq_true (by omega)
    clear h hn hl h1 h0 hy
    go_enter Try.func30, Try.ntmps30
    go_wp2
    go_ret2
    exact ⟨rfl, rfl⟩
  · have hn' : rs[x - 1]? = some none := by rcases hn with hn | hn | hn <;> first | omega | exact hn
    obtain ⟨gc, cap', e⟩ := owns_slice h.rows (by omega)
    simp only [Value.slice.injEq] at e
    obtain ⟨rfl, -, rfl⟩ := e
    obtain ⟨n, rfl⟩ : ∃ n, x = n + 1 := ⟨x - 1, by omega⟩
    simp only [Nat.add_sub_cancel] at hn'
    have d1 : w.cell? ⟨gc, n * 2 + 1, none⟩ = some (.bool false) := (h.rows.cellAt (n * 2 + 1) (by omega)).trans (flat2_get rs n _ 1 hn' (by omega))
    have e0 : ((n + 1 : Nat) : Int) = (n : Int) + 1 := by omega
    rw [e0] at e2 e4 ⊢
    have hlt : n < rs.length := by omega
    clear e2 e4
    obtain ⟨x, hx⟩ : ∃ x : Int, x = (n : Int) + 1 := ⟨_, rfl⟩
    rw [← hx]
    have e1 : IntKind.u32.wrap (x - 1) = (n : Int) := by rw [IntKind.wrap_u32]; omega
    have e1' : (x - 1) % 4294967296 = (n : Int) := by omega
    have e2 : IntKind.u64.wrap x = x := by rw [IntKind.wrap_u64]; omega
    have e4 : (x == 0) = false := by simp; omega
    have e5 : decide ((rs.length : Int) < x) = false := decide_eq_false (by omega)
    clear h hn hl h1 e0 hn' h0 hx
    go_enter Try.func30, Try.ntmps30
    go_wp2
    go_ret2
    exact ⟨rfl, rfl⟩

/-- word finds the i-th word. -/
theorem word_has {w : World} {g : Nat} {most : Int} {rs : List Row} {back : List Nat} {vc vb : Value} (h : ArC w g most rs back vc vb) (hl : rs.length ≤ 1048576) (n q i : Nat) (ws : List Int) (hn : rs[n]? = some (some (q, ws))) (hi : i < ws.length) :
    Calls Try.prog 31 #[.pointer (some ⟨g, 0, none⟩), .int .u32 ((n : Int) + 1), .int .i64 (i : Int)] w fun e w' => e = .returned (.tuple #[.pointer (some ⟨q, i, none⟩), .int .i64 0]) ∧ w' = w := by
  have hlt : n < rs.length := (List.getElem?_eq_some_iff.1 hn).1
  obtain ⟨gc, cap, rfl⟩ := owns_slice h.rows (by omega)
  have F := find_has h hl n q ws hn
  have d0 : w.cell? ⟨gc, n * 2, none⟩ = some (.slice (some ⟨q, 0, none⟩) ws.length ws.length) := (h.rows.cellAt (n * 2) (by omega)).trans (flat2_get rs n _ 0 hn (by omega))
  have e1 : ¬ ((ws.length : Int) ≤ (i : Int)) := by omega
  clear h hn hl hlt
  go_enter Try.func31, Try.ntmps31
  go_wp2_with (go_at_call 30; refine F.mono ?_; rintro e w1 ⟨rfl, rfl⟩)
  go_ret2
  exact ⟨rfl, rfl⟩
theorem word_out {w : World} {g : Nat} {most : Int} {rs : List Row} {back : List Nat} {vc vb : Value} (h : ArC w g most rs back vc vb) (hl : rs.length ≤ 1048576) (n q : Nat) (i : Int) (ws : List Int) (hn : rs[n]? = some (some (q, ws))) (hi : i < 0 ∨ (ws.length : Int) ≤ i) :
    Calls Try.prog 31 #[.pointer (some ⟨g, 0, none⟩), .int .u32 ((n : Int) + 1), .int .i64 i] w fun e w' => e = .returned (.tuple #[.pointer none, .int .i64 2]) ∧ w' = w := by
  have hlt : n < rs.length := (List.getElem?_eq_some_iff.1 hn).1
  obtain ⟨gc, cap, rfl⟩ := owns_slice h.rows (by omega)
  have F := find_has h hl n q ws hn
  have d0 : w.cell? ⟨gc, n * 2, none⟩ = some (.slice (some ⟨q, 0, none⟩) ws.length ws.length) := (h.rows.cellAt (n * 2) (by omega)).trans (flat2_get rs n _ 0 hn (by omega))
  clear h hn hl hlt
  by_cases h0 : i < 0
  · go_enter Try.func31, Try.ntmps31
    go_wp2_with (go_at_call 30; refine F.mono ?_; rintro e w1 ⟨rfl, rfl⟩)
    go_ret2
    exact ⟨rfl, rfl⟩
  · have h1 : (ws.length : Int) ≤ i := by omega
    clear hi
    go_enter Try.func31, Try.ntmps31
    go_wp2_with (go_at_call 30; refine F.mono ?_; rintro e w1 ⟨rfl, rfl⟩)
    go_ret2
    exact ⟨rfl, rfl⟩
theorem word_none {w : World} {g : Nat} {most : Int} {rs : List Row} {back : List Nat} {vc vb : Value} (h : ArC w g most rs back vc vb) (hl : rs.length ≤ 1048576) (x : Nat) (hx : x < 4294967296) (i : Int) (hn : noCell rs x) :
    Calls Try.prog 31 #[.pointer (some ⟨g, 0, none⟩), .int .u32 (x : Int), .int .i64 i] w fun e w' => e = .returned (.tuple #[.pointer none, .int .i64 5]) ∧ w' = w := by
  have F := find_none h hl x hx hn
  clear h hn hl
  go_enter Try.func31, Try.ntmps31
  go_wp2_with (go_at_call 30; refine F.mono ?_; rintro e w1 ⟨rfl, rfl⟩)
  go_ret2
  exact ⟨rfl, rfl⟩
theorem get_has {w : World} {g : Nat} {most : Int} {rs : List Row} {back : List Nat} {vc vb : Value} (h : ArC w g most rs back vc vb) (hl : rs.length ≤ 1048576) (n q i : Nat) (ws : List Int) (hn : rs[n]? = some (some (q, ws))) (hi : i < ws.length) :
    Calls Try.prog 16 #[.pointer (some ⟨g, 0, none⟩), .int .u32 ((n : Int) + 1), .int .i64 (i : Int)] w fun e w' => e = .returned (.tuple #[.int .u64 (wAt ws i), .int .i64 0]) ∧ w' = w := by
  have F := word_has h hl n q i ws hn hi
  have c : w.cell? ⟨q, i, none⟩ = some (.int .u64 (wAt ws i)) := ((h.words n q ws hn).cell i).trans (u64s_get ws i hi)
  clear h hn hl hi
  go_enter Try.func16, Try.ntmps16
  go_wp2_with (go_at_call 31; refine F.mono ?_; rintro e w1 ⟨rfl, rfl⟩)
  go_ret2
  exact ⟨rfl, rfl⟩
theorem get_not (a x i c : Value) (w : World) (k : Int) (hk : k ≠ 0) (F : Calls Try.prog 31 #[a, x, i] w fun e w' => e = .returned (.tuple #[.pointer none, .int .i64 k]) ∧ w' = w) :
    Calls Try.prog 16 #[a, x, i] w fun e w' => e = .returned (.tuple #[.int .u64 0, .int .i64 k]) ∧ w' = w := by
  go_enter Try.func16, Try.ntmps16
  go_wp2_with (go_at_call 31; refine F.mono ?_; rintro e w1 ⟨rfl, rfl⟩)
  go_ret2
  exact ⟨rfl, rfl⟩
theorem set_not (a x i : Value) (v : Int) (w : World) (k : Int) (hk : k ≠ 0) (F : Calls Try.prog 31 #[a, x, i] w fun e w' => e = .returned (.tuple #[.pointer none, .int .i64 k]) ∧ w' = w) :
    Calls Try.prog 18 #[a, x, i, .int .u64 v] w fun e w' => e = .returned (.int .i64 k) ∧ w' = w := by
  go_enter Try.func18, Try.ntmps18
  go_wp2_with (go_at_call 31; refine F.mono ?_; rintro e w1 ⟨rfl, rfl⟩)
  go_ret
  exact ⟨rfl, rfl⟩
theorem set_has {w : World} {g : Nat} {most : Int} {rs : List Row} {back : List Nat} {vc vb : Value} (h : ArC w g most rs back vc vb) (hl : rs.length ≤ 1048576) (n q i : Nat) (v : Int) (ws : List Int) (hn : rs[n]? = some (some (q, ws))) (hi : i < ws.length) :
    Calls Try.prog 18 #[.pointer (some ⟨g, 0, none⟩), .int .u32 ((n : Int) + 1), .int .i64 (i : Int), .int .u64 v] w fun e w' => e = .returned (.int .i64 0) ∧ w' = w.setCell ⟨q, i, none⟩ (.int .u64 v) := by
  have F := word_has h hl n q i ws hn hi
  have c : w.cell? ⟨q, i, none⟩ = some (.int .u64 (wAt ws i)) := ((h.words n q ws hn).cell i).trans (u64s_get ws i hi)
  have f : w.frozen? ⟨q, i, none⟩ = false := (h.words n q ws hn).frozen i
  clear h hn hl hi
  go_enter Try.func18, Try.ntmps18
  go_wp2_with (go_at_call 31; refine F.mono ?_; rintro e w1 ⟨rfl, rfl⟩)
  go_ret
  exact ⟨rfl, rfl⟩
theorem size_has {w : World} {g : Nat} {most : Int} {rs : List Row} {back : List Nat} {vc vb : Value} (h : ArC w g most rs back vc vb) (hl : rs.length ≤ 1048576) (n q : Nat) (ws : List Int) (hn : rs[n]? = some (some (q, ws))) :
    Calls Try.prog 20 #[.pointer (some ⟨g, 0, none⟩), .int .u32 ((n : Int) + 1)] w fun e w' => e = .returned (.int .i64 (ws.length : Int)) ∧ w' = w := by
  have hlt : n < rs.length := (List.getElem?_eq_some_iff.1 hn).1
  obtain ⟨gc, cap, rfl⟩ := owns_slice h.rows (by omega)
  have F := find_has h hl n q ws hn
  have d0 : w.cell? ⟨gc, n * 2, none⟩ = some (.slice (some ⟨q, 0, none⟩) ws.length ws.length) := (h.rows.cellAt (n * 2) (by omega)).trans (flat2_get rs n _ 0 hn (by omega))
  clear h hn hl hlt
  go_enter Try.func20, Try.ntmps20
  go_wp2_with (go_at_call 30; refine F.mono ?_; rintro e w1 ⟨rfl, rfl⟩)
  go_ret
  exact ⟨rfl, rfl⟩
theorem size_none {w : World} {g : Nat} {most : Int} {rs : List Row} {back : List Nat} {vc vb : Value} (h : ArC w g most rs back vc vb) (hl : rs.length ≤ 1048576) (x : Nat) (hx : x < 4294967296) (hn : noCell rs x) :
    Calls Try.prog 20 #[.pointer (some ⟨g, 0, none⟩), .int .u32 (x : Int)] w fun e w' => e = .returned (.int .i64 0) ∧ w' = w := by
  have F := find_none h hl x hx hn
  clear h hn hl
  go_enter Try.func20, Try.ntmps20
  go_wp2_with (go_at_call 30; refine F.mono ?_; rintro e w1 ⟨rfl, rfl⟩)
  go_ret
  exact ⟨rfl, rfl⟩

/-- Nothing has turned but how much was drawn. -/
def Still (w w' : World) : Prop := ∃ n, w' = w.drewN n
theorem Still.kp {w w' : World} (h : Still w w') (K : Nat → Prop) : Kp K w w' := by
  obtain ⟨n, rfl⟩ := h
  exact ⟨rfl, rfl, rfl, Nat.le_refl _, fun _ _ _ => rfl⟩
theorem ArC.still {w w' : World} {g : Nat} {most : Int} {rs : List Row} {back : List Nat} {vc vb : Value} (h : ArC w g most rs back vc vb) (s : Still w w') : ArC w' g most rs back vc vb := by
  obtain ⟨n, rfl⟩ := s
  exact h.same (fun _ _ => rfl)
theorem live_any {w : World} {g : Nat} {most : Int} {rs : List Row} {back : List Nat} {vc vb : Value} (h : ArC w g most rs back vc vb) (hl : rs.length ≤ 1048576) (hb : back.length ≤ rs.length) :
    Calls Try.prog 21 #[.pointer (some ⟨g, 0, none⟩)] w fun e w' => e = .returned (.int .i64 ((rs.length - back.length : Nat) : Int)) ∧ Still w w' := by
  obtain ⟨ac, cap, rfl⟩ := owns_slice' h.rows
  obtain ⟨ab, cab, rfl⟩ := owns_slice' h.backs
  have c1 : w.cell? ⟨g, 1, none⟩ = some (.slice ac rs.length cap) := h.blk.cell 1
  have c2 : w.cell? ⟨g, 2, none⟩ = some (.slice ab back.length cab) := h.blk.cell 2
  clear h
  go_enter Try.func21, Try.ntmps21
  go_wp2
  go_quiet (fail)
  go_wp2
  go_ret
  exact ⟨ret_int (by omega), _, rfl⟩
theorem live_nil (w : World) : Calls Try.prog 21 #[.pointer none] w fun e w' => e = .returned (.int .i64 0) ∧ w' = w := by
  go_enter Try.func21, Try.ntmps21
  go_wp2
  go_ret
  exact ⟨rfl, rfl⟩
end Go.Proofs.Ytjbpffeembepcaa
