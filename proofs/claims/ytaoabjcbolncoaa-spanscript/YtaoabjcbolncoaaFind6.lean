/- find, rest, copied, cut, Used, Live. -/
import Derived.Test.YtaoabjcbolncoaaSp6
import Derived.Deep.RegionHeld3
namespace Go.Proofs.Ytaoabjcbolncoaa
open Go.RowKit
set_option linter.unusedVariables false
set_option linter.unusedSimpArgs false

theorem find_nil (x : Int) (w : World) : Calls Try.prog 28 #[.pointer none, .int .u32 x] w fun e w' => e = .returned (.tuple #[.pointer none, .int .i64 1]) ∧ w' = w := by
  go_enter Try.func28, Try.ntmps28
  go_wp2
  go_ret2
  exact ⟨rfl, rfl⟩

set_option maxHeartbeats 800000 in
theorem find_has {w : World} {g : Nat} {most used : Int} {rs : List Txt} {back : List Nat} {vb : Value} {gc cap : Nat} (h : SpC w g most used rs back (.slice (some ⟨gc, 0, none⟩) rs.length cap) vb) (hl : rs.length ≤ 2147483648) (n q l : Nat) (xs : List Int) (hn : rs[n]? = some (some (q, l, xs))) :
    Calls Try.prog 28 #[.pointer (some ⟨g, 0, none⟩), .int .u32 ((n : Int) + 1)] w fun e w' => e = .returned (.tuple #[.pointer (some ⟨gc, n * 3, none⟩), .int .i64 0]) ∧ w' = w := by
  have hlt : n < rs.length := (List.getElem?_eq_some_iff.1 hn).1
  have c1 : w.cell? ⟨g, 2, none⟩ = some (.slice (some ⟨gc, 0, none⟩) rs.length cap) := h.blk.cell 2
  have d1 : w.cell? ⟨gc, n * 3 + 2, none⟩ = some (.bool true) := (h.rows.cellAt (n * 3 + 2) (by omega)).trans (flat_get cell3_length rs n _ 2 hn (by omega))
  obtain ⟨x, hx⟩ : ∃ x : Int, x = (n : Int) + 1 := ⟨_, rfl⟩
  rw [← hx]
  have e1 : IntKind.u32.wrap (x - 1) = (n : Int) := by rw [IntKind.wrap_u32]; omega
  have e1' : (x - 1) % 4294967296 = (n : Int) := by omega
  have e2 : IntKind.u64.wrap x = x := by rw [IntKind.wrap_u64]; omega
  have e3 : IntKind.u64.wrap (rs.length : Int) = (rs.length : Int) := by rw [IntKind.wrap_u64]; omega
  have e4 : (x == 0) = false := by simp; omega
  have e5 : decide ((rs.length : Int) < x) = false := decide_eq_false (by omega)
  clear h hn hl hx
  go_enter Try.func28, Try.ntmps28
  go_wp2
  go_ret2
  exact ⟨rfl, rfl⟩

set_option maxHeartbeats 800000 in
theorem find_none {w : World} {g : Nat} {most used : Int} {rs : List Txt} {back : List Nat} {vc vb : Value} (h : SpC w g most used rs back vc vb) (hl : rs.length ≤ 2147483648) (x : Nat) (hx : x < 4294967296) (hn : noTxt rs x) :
    Calls Try.prog 28 #[.pointer (some ⟨g, 0, none⟩), .int .u32 (x : Int)] w fun e w' => e = .returned (.tuple #[.pointer none, .int .i64 5]) ∧ w' = w := by
  by_cases h0 : x = 0
  · subst h0
    show Calls Try.prog 28 #[.pointer (some ⟨g, 0, none⟩), .int .u32 (0 : Int)] w _
    go_enter Try.func28, Try.ntmps28
    go_wp2
    go_ret2
    exact ⟨rfl, rfl⟩
  obtain ⟨ac, cap, rfl⟩ := owns_slice' h.rows
  have c1 : w.cell? ⟨g, 2, none⟩ = some (.slice ac rs.length cap) := h.blk.cell 2
  have e2 : IntKind.u64.wrap (x : Int) = (x : Int) := by rw [IntKind.wrap_u64]; omega
  have e3 : IntKind.u64.wrap (rs.length : Int) = (rs.length : Int) := by rw [IntKind.wrap_u64]; omega
  have e4 : ¬ ((x : Int) = 0) := by omega
  by_cases h1 : rs.length < x
  · obtain ⟨y, hy⟩ : ∃ y : Int, y = (x : Int) := ⟨_, rfl⟩
    rw [← hy] at e2 ⊢
    have e4 : (y == 0) = false := by simp; omega
    have e5 : decide ((rs.length : Int) < y) = true := decide_eq_true (by omega)
    clear h hn hl h1 h0 hy
    go_enter Try.func28, Try.ntmps28
    go_wp2
    go_ret2
    exact ⟨rfl, rfl⟩
  · have hn' : rs[x - 1]? = some none := by rcases hn with hn | hn | hn <;> first | omega | exact hn
    obtain ⟨gc, cap', e⟩ := owns_slice h.rows (by omega)
    simp only [Value.slice.injEq] at e
    obtain ⟨rfl, -, rfl⟩ := e
    obtain ⟨n, rfl⟩ : ∃ n, x = n + 1 := ⟨x - 1, by omega⟩
    simp only [Nat.add_sub_cancel] at hn'
    have d1 : w.cell? ⟨gc, n * 3 + 2, none⟩ = some (.bool false) := (h.rows.cellAt (n * 3 + 2) (by omega)).trans (flat_get cell3_length rs n _ 2 hn' (by omega))
    have e0 : ((n + 1 : Nat) : Int) = (n : Int) + 1 := by omega
    rw [e0] at e2 e4 ⊢
    have hlt : n < rs.length := by omega
    clear e2 e4
    obtain ⟨x, hx⟩ : ∃ x : Int, x = (n : Int) + 1 := ⟨_, rfl⟩
    rw [← hx]
    have e1 : IntKind.u32.wrap (x - 1) = (n : Int) := by rw [IntKind.wrap_u32]; omega
    have e1' : (x - 1) % 4294967296 = (n : Int) := by omega
    have e2 : IntKind.u64.wrap x = x := by rw [IntKind.wrap_u64]; omega
    have e4 : (x == 0) = false := by simp; omega
    have e5 : decide ((rs.length : Int) < x) = false := decide_eq_false (by omega)
    clear h hn hl h1 e0 hn' h0 hx
    go_enter Try.func28, Try.ntmps28
    go_wp2
    go_ret2
    exact ⟨rfl, rfl⟩

set_option maxHeartbeats 400000 in
theorem copied_any (a : Option Addr) (xs : List Int) (ca : Nat) (w : World) (ha : Rd w a xs) (hn : xs.length ≤ 16777216) :
    Calls Try.prog 27 #[.slice a xs.length ca] w fun e w' => e = .returned (.slice (some ⟨w.heap.size, 0, none⟩) xs.length xs.length) ∧
      Blk w' w.heap.size 5 (u8s xs) ∧ Below w.heap.size w w' ∧ w'.heap.size = w.heap.size + 1 := by
  obtain ⟨w1, r1, b1, f1, s1⟩ := make_u8 w .i64 .i64 xs.length xs.length xs.length xs.length rfl rfl (Nat.le_refl _) (by omega)
  have ha1 := ha.below f1 (Nat.le_refl _)
  obtain ⟨w2, r2, b2, f2, s2⟩ := run_copy_rd (P := Try.prog) 29 29 3 5 5 Try.underlying29 size_u8 w.heap.size _ b1 xs.length xs.length (by simp) ha1 ca
  have e : u8s (xs.take xs.length) ++ (List.replicate xs.length (Value.int .u8 0)).drop (xs.take xs.length).length = u8s xs := by simp
  rw [e] at b2
  have B2 : Hid (Blk w2 w.heap.size 5 (u8s xs)) := b2
  have F2 : Hid (Below w.heap.size w w2) := f1.grown f2 (by omega) (fun k hk => by cases hk; exact Nat.le_refl _)
  have S2 : Hid (w2.heap.size = w.heap.size + 1) := by rw [s2]; exact s1
  clear b1 f1 s1 ha ha1 b2 f2 s2 e
  go_enter Try.func27, Try.ntmps27
  go_wp2
  go_ret
  exact ⟨rfl, B2.out, F2.out, S2.out⟩

/-- Where the rest of a string begins. -/
def offL (l n : Nat) : Nat := if n = l then 0 else l
theorem rest_any {w : World} {gt o q l n : Nat} (c0 : w.cell? ⟨gt, o, none⟩ = some (.slice (some ⟨q, 0, none⟩) n n)) (c1 : w.cell? ⟨gt, o + 1, none⟩ = some (.int .i64 (l : Int))) (hl : l ≤ n) (hn : n ≤ 16777216) :
    Calls Try.prog 29 #[.pointer (some ⟨gt, o, none⟩)] w fun e w' => e = .returned (.slice (some ⟨q, offL l n, none⟩) (n - l) (n - l)) ∧ Still w w' := by
  by_cases h : n = l
  · subst h
    have e0 : offL n n = 0 := if_pos rfl
    rw [e0, Nat.sub_self]
    clear e0
    go_enter Try.func29, Try.ntmps29
    go_wp2
    go_quiet (fail)
    go_wp2
    go_ret
    exact ⟨rfl, _, rfl⟩
  · have e0 : offL l n = l := if_neg h
    rw [e0]
    clear e0
    go_enter Try.func29, Try.ntmps29
    go_wp2
    go_quiet (fail)
    go_wp2
    go_ret
    exact ⟨rfl, _, rfl⟩
theorem rest_rd {w : World} {q l : Nat} {xs : List Int} (h : TxtOk w q l xs) : Rd w (some ⟨q, offL l xs.length, none⟩) (xs.drop l) := by
  have r := blk_rd h.blk h.by_ (by have := h.len; unfold maxLen; omega)
  by_cases e : xs.length = l
  · rw [show offL l xs.length = 0 from if_pos e, List.drop_eq_nil_of_le (by omega)]
    exact Rd.nil _ _
  · rw [show offL l xs.length = l from if_neg e]
    have := r.drop l
    rwa [Nat.zero_add] at this

section
variable {w : World} {g : Nat} {most used : Int} {rs : List Txt} {back : List Nat} {vc vb : Value}
theorem used_any (h : SpC w g most used rs back vc vb) : Calls Try.prog 21 #[.pointer (some ⟨g, 0, none⟩)] w fun e w' => e = .returned (.int .i64 used) ∧ w' = w := by
  have c : w.cell? ⟨g, 1, none⟩ = some (.int .i64 used) := h.blk.cell 1
  clear h
  go_enter Try.func21, Try.ntmps21
  go_wp2
  go_ret
  exact ⟨rfl, rfl⟩
theorem used_nil (w : World) : Calls Try.prog 21 #[.pointer none] w fun e w' => e = .returned (.int .i64 0) ∧ w' = w := by
  go_enter Try.func21, Try.ntmps21
  go_wp2
  go_ret
  exact ⟨rfl, rfl⟩
theorem live_any (h : SpC w g most used rs back vc vb) (hl : rs.length ≤ 2147483648) (hb : back.length ≤ rs.length) :
    Calls Try.prog 22 #[.pointer (some ⟨g, 0, none⟩)] w fun e w' => e = .returned (.int .i64 ((rs.length - back.length : Nat) : Int)) ∧ Still w w' := by
  obtain ⟨ac, cap, rfl⟩ := owns_slice' h.rows
  obtain ⟨ab, cab, rfl⟩ := owns_slice' h.backs
  have c1 : w.cell? ⟨g, 2, none⟩ = some (.slice ac rs.length cap) := h.blk.cell 2
  have c2 : w.cell? ⟨g, 3, none⟩ = some (.slice ab back.length cab) := h.blk.cell 3
  clear h
  go_enter Try.func22, Try.ntmps22
  go_wp2
  go_quiet (fail)
  go_wp2
  go_ret
  exact ⟨ret_int (by omega), _, rfl⟩
set_option maxHeartbeats 1600000 in
/-- Get of a string that is kept. -/
theorem get_has {gc cap : Nat} (h : SpC w g most used rs back (.slice (some ⟨gc, 0, none⟩) rs.length cap) vb) (hl : rs.length ≤ 2147483648) (n q l : Nat) (xs : List Int) (hn : rs[n]? = some (some (q, l, xs))) :
    Calls Try.prog 18 #[.pointer (some ⟨g, 0, none⟩), .int .u32 ((n : Int) + 1)] w fun e w' => e = .returned (.tuple #[.slice (some ⟨w.heap.size, 0, none⟩) (xs.drop l).length (xs.drop l).length, .int .i64 0]) ∧ Blk w' w.heap.size 5 (u8s (xs.drop l)) ∧ Below w.heap.size w w' := by
  have F := find_has h hl n q l xs hn
  have T := h.words n q l xs hn
  have hlt : n < rs.length := (List.getElem?_eq_some_iff.1 hn).1
  have d0 : w.cell? ⟨gc, n * 3, none⟩ = some (.slice (some ⟨q, 0, none⟩) xs.length xs.length) := (h.rows.cellAt (n * 3) (by omega)).trans (flat_get cell3_length rs n _ 0 hn (by omega))
  have d1 : w.cell? ⟨gc, n * 3 + 1, none⟩ = some (.int .i64 (l : Int)) := (h.rows.cellAt (n * 3 + 1) (by omega)).trans (flat_get cell3_length rs n _ 1 hn (by omega))
  have R := rest_any d0 d1 T.lost T.len
  have C := hide (rest_rd T)
  have hx : (xs.drop l).length ≤ 16777216 := by have := T.len; simp; omega
  have HX := hide hx
  rw [show xs.length - l = (xs.drop l).length by simp] at R
  clear h hn hl T d0 d1 hx
  generalize xs.drop l = ys at *
  go_enter Try.func18, Try.ntmps18
  go_wp2_with fail
  refine F.mono ?_
  rintro e w1 ⟨rfl, rfl⟩
  go_wp2_with fail
  refine R.mono ?_
  rintro e w2 ⟨rfl, s2⟩
  obtain ⟨n2, rfl⟩ := s2
  go_wp2_with fail
  refine (copied_any _ ys _ _ (C.out.drewN _) HX.out).mono ?_
  rintro e w3 ⟨rfl, b3, f3, s3⟩
  have B3 := hide b3
  have F3 := hide f3
  clear b3 f3 s3
  go_wp2
  go_ret2
  exact ⟨rfl, B3.out, (Still.below ⟨n2, rfl⟩ _).trans F3.out⟩
end
end Go.Proofs.Ytaoabjcbolncoaa
