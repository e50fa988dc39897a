/- What every program answers that is one: 'awake' of the statements on keys. -/
import Derived.Test.YtinogmjmmccfmaaDiffer
import Derived.Test.YtinogmjmmccfmaaMakes
import Derived.Test.YtinogmjmmccfmaaStrs
namespace Go.Proofs.Ytinogmjmmccfmaa
open Go.RowKit
set_option linter.unusedVariables false

theorem lit_bytes1 (a : Int) (h : 0 ≤ a ∧ a ≤ 255) : IsBytes [a] := fun x hx => by simp at hx; omega
theorem lit_bytes2 (a b : Int) (h : 0 ≤ a ∧ a ≤ 255) (h' : 0 ≤ b ∧ b ≤ 255) : IsBytes [a, b] := fun x hx => by simp at hx; omega

/-- The last block, and the last but one. -/
theorem rd_new1 (w : World) (e : TypeId) (fr : Nat × Nat) (xs : List Int) (cs : Array Value) (hcs : cs = (u8s xs).toArray) (hb : IsBytes xs) (hm : xs.length ≤ maxLen) :
    Rd (w.alloc (.cells cs e fr)) (some ⟨w.heap.size, 0, none⟩) xs := rd_of_heap xs (heap_alloc_new w _) hcs hb hm
theorem rd_new2 (w : World) (o : Obj) (e : TypeId) (fr : Nat × Nat) (xs : List Int) (cs : Array Value) (hcs : cs = (u8s xs).toArray) (hb : IsBytes xs) (hm : xs.length ≤ maxLen) :
    Rd ((w.alloc o).alloc (.cells cs e fr)) (some ⟨w.heap.size + 1, 0, none⟩) xs := by
  have := rd_new1 (w.alloc o) e fr xs cs hcs hb hm
  simpa using this
theorem rd_old (w : World) (o : Obj) {a : Option Addr} {xs : List Int} (h : Rd w a xs) : Rd (w.alloc o) a xs := h.below ((Below.refl _ _).alloc (Nat.le_refl _) _) (Nat.le_refl _)

theorem aw_behind (w : World) (a : Option Addr) (h : Rd w a [97, 255]) : Calls Try.prog 11 #[.slice a 2 2] w fun e w' =>
    e = .returned (.tuple #[.slice (some ⟨w.heap.size, 0, none⟩) 1 1, .bool true]) ∧ Rd w' (some ⟨w.heap.size, 0, none⟩) [98] ∧ Below w.heap.size w w' := by
  refine (behind_any a [97, 255] 2 w h (by decide)).mono ?_
  rintro e w1 (⟨h0, _⟩ | ⟨_, he, hb1, hf1, hs1⟩)
  · exact absurd h0 (by decide)
  · exact ⟨he, rd_of_heap [98] hb1 rfl (lit_bytes1 _ (by decide)) (by decide), hf1⟩
theorem below_drewN' {B : Nat} {w w' : World} (h : Below B w w') (n : Nat) : Below B w (w'.drewN n) := ⟨h.os, h.tape, h.output, h.size, h.block⟩
theorem quiet_below {w w' : World} {B : Nat} (h : ∃ n, w' = w.drewN n) : Below B w w' := by
  obtain ⟨n, rfl⟩ := h
  exact below_drewN' (Below.refl _ _) n
theorem below2 {w a b : World} {B : Nat} (h : Below B w a) (k : Below (a.heap.size) a b) (hB : B ≤ a.heap.size) : Below B w b := h.trans (k.mono hB)

theorem aw_differ (w : World) (a b : Option Addr) (h1 : Rd w a [97]) (h2 : Rd w b [97, 98]) : Calls Try.prog 22 #[.slice a 1 1, .slice b 2 2] w fun e w' => e = .returned (.int .i64 9) ∧ Below w.heap.size w w' := by
  have h := differ_any a b [97] [97, 98] 1 2 w h1 h2 (by decide)
  rw [show differK [97] [97, 98] = 9 from by decide] at h
  exact h.mono fun e w' hh => ⟨hh.1, quiet_below hh.2⟩
theorem aw_compare (w : World) (a b : Option Addr) (h1 : Rd w a [97]) (h2 : Rd w b [98]) : Calls Try.prog 16 #[.slice a 1 1, .slice b 1 1] w fun e w' => e = .returned (.int .i64 (-1)) ∧ Below w.heap.size w w' := by
  have h := compare_any a b [97] [98] 1 1 w h1 h2
  rw [show cmpK [97] [98] = -1 from by decide] at h
  exact h.mono fun e w' hh => ⟨hh.1, quiet_below hh.2⟩
theorem aw_common (w : World) (a b : Option Addr) (h1 : Rd w a [97, 98]) (h2 : Rd w b [97, 99]) : Calls Try.prog 18 #[.slice a 2 2, .slice b 2 2] w fun e w' => e = .returned (.int .i64 1) ∧ Below w.heap.size w w' := by
  have h := common_any a b [97, 98] [97, 99] 2 2 w h1 h2
  rw [show common [97, 98] [97, 99] = 1 from by decide] at h
  exact h.mono fun e w' hh => ⟨hh.1, quiet_below hh.2⟩
theorem aw_bit (w : World) (a : Option Addr) (h1 : Rd w a [97]) : Calls Try.prog 20 #[.slice a 1 1, .int .i64 0] w fun e w' => e = .returned (.int .i64 1) ∧ Below w.heap.size w w' := by
  have h := bit_any a [97] 1 0 w h1 (by decide) (by decide)
  rw [show bitK [97] 0 = 1 from by decide] at h
  exact h.mono fun e w' hh => ⟨hh.1, by rw [hh.2]; exact Below.refl _ _⟩
theorem aw_begins (w : World) (a : Option Addr) (h1 : Rd w a [97, 98]) : Calls Try.prog 24 #[.slice a 2 2, .slice none 0 0] w fun e w' => e = .returned (.bool true) ∧ Below w.heap.size w w' := by
  have h := begins_any a none [97, 98] [] 2 0 w h1 (Rd.nil _ _)
  rw [show ((common [97, 98] [] : Int) == (([] : List Int).length : Int)) = true from by decide] at h
  exact h.mono fun e w' hh => ⟨hh.1, quiet_below hh.2⟩
theorem aw_may (w : World) : Calls Try.prog 29 #[.slice none 0 0] w fun e w' => e = .returned (.bool true) ∧ Below w.heap.size w w' := by
  have h := may_any none 0 0 w (by decide)
  rw [show (decide (((0 : Nat) : Int) ≤ 65535)) = true from by decide] at h
  exact h.mono fun e w' hh => ⟨hh.1, by rw [hh.2]; exact Below.refl _ _⟩

set_option maxHeartbeats 1000000 in
theorem awake_any (w : World) : Calls Try.prog 9 #[] w fun e w' => e = .returned (.bool true) ∧ Below w.heap.size w w' := by
  have kc := run_bytes_const (P := Try.prog) 22 5 Try.underlying22 Try.underlying5
  go_enter Try.func9, Try.ntmps9
  go_wp2_with fail
  refine (aw_behind _ _ (rd_new1 _ _ _ _ _ rfl (lit_bytes2 _ _ (by decide) (by decide)) (by decide))).mono ?_
  rintro e w1 ⟨rfl, r1, hf1⟩
  have F1 : Hid (Below w.heap.size w w1) := ((Below.refl _ _).alloc (Nat.le_refl _) _).trans (hf1.mono (by simp))
  have R1 := hide r1
  clear hf1 r1
  go_wp2_with fail
  refine (aw_differ _ _ _ (rd_old _ _ (rd_new1 _ _ _ _ _ rfl (lit_bytes1 _ (by decide)) (by decide))) (rd_new2 _ _ _ _ _ _ rfl (lit_bytes2 _ _ (by decide) (by decide)) (by decide))).mono ?_
  rintro e w2 ⟨rfl, hf2⟩
  have hk := conv_str (P := Try.prog) (src := 22) (dst := 9) Try.underlying22 Try.underlying5 Try.underlying9 ((rd_old _ _ (rd_old _ _ R1.out)).below hf2 (Nat.le_refl _)) 1
  simp only [World.size_alloc, show (strOfNums [98]) = (⟨#[98]⟩ : ByteArray) from rfl, List.length_cons, List.length_nil, Nat.zero_add] at hk
  have F2 : Hid (Below w.heap.size w w2) := (F1.out.alloc F1.out.size _).alloc (by have := F1.out.size; simp; omega) _ |>.trans (hf2.mono (by have := F1.out.size; simp; omega))
  clear hf2
  go_wp2_with fail
  refine (aw_compare _ _ _ (rd_old _ _ (rd_new1 _ _ _ _ _ rfl (lit_bytes1 _ (by decide)) (by decide))) (rd_new2 _ _ _ _ _ _ rfl (lit_bytes1 _ (by decide)) (by decide))).mono ?_
  rintro e w3 ⟨rfl, hf3⟩
  have F3 : Hid (Below w.heap.size w w3) := (F2.out.alloc F2.out.size _).alloc (by have := F2.out.size; simp; omega) _ |>.trans (hf3.mono (by have := F2.out.size; simp; omega))
  clear hf3 hk
  go_wp2_with fail
  refine (aw_common _ _ _ (rd_old _ _ (rd_new1 _ _ _ _ _ rfl (lit_bytes2 _ _ (by decide) (by decide)) (by decide))) (rd_new2 _ _ _ _ _ _ rfl (lit_bytes2 _ _ (by decide) (by decide)) (by decide))).mono ?_
  rintro e w4 ⟨rfl, hf4⟩
  have F4 : Hid (Below w.heap.size w w4) := (F3.out.alloc F3.out.size _).alloc (by have := F3.out.size; simp; omega) _ |>.trans (hf4.mono (by have := F3.out.size; simp; omega))
  clear hf4
  go_wp2_with fail
  refine (aw_bit _ _ (rd_new1 _ _ _ _ _ rfl (lit_bytes1 _ (by decide)) (by decide))).mono ?_
  rintro e w5 ⟨rfl, hf5⟩
  have F5 : Hid (Below w.heap.size w w5) := (F4.out.alloc F4.out.size _).trans (hf5.mono (by have := F4.out.size; simp; omega))
  clear hf5
  go_wp2_with fail
  refine (aw_begins _ _ (rd_new1 _ _ _ _ _ rfl (lit_bytes2 _ _ (by decide) (by decide)) (by decide))).mono ?_
  rintro e w6 ⟨rfl, hf6⟩
  have F6 : Hid (Below w.heap.size w w6) := (F5.out.alloc F5.out.size _).trans (hf6.mono (by have := F5.out.size; simp; omega))
  clear hf6
  go_wp2_with fail
  refine (aw_may _).mono ?_
  rintro e w7 ⟨rfl, hf7⟩
  have F7 : Hid (Below w.heap.size w w7) := F6.out.trans (hf7.mono F6.out.size)
  clear hf7
  go_wp2
  go_ret
  exact ⟨rfl, F7.out⟩


/-! The same contracts, the world behind them a letter of which it is known that nothing that was there has turned. -/
theorem step {w a b : World} (F : Hid (Below w.heap.size w a)) (k : Below a.heap.size a b) : Hid (Below w.heap.size w b) := F.out.trans (k.mono F.out.size)
theorem start (w : World) : Hid (Below w.heap.size w w) := Below.refl _ _
theorem Rd.now {w w' : World} {a : Option Addr} {xs : List Int} (h : Hid (Rd w a xs)) (F : Hid (Below w.heap.size w w')) : Rd w' a xs := h.out.below F.out (Nat.le_refl _)
theorem common_b (a b : Option Addr) (xs ys : List Int) (ca cb : Nat) (w : World) (ha : Rd w a xs) (hb : Rd w b ys) :
    Calls Try.prog 18 #[.slice a xs.length ca, .slice b ys.length cb] w fun e w' => e = .returned (.int .i64 (common xs ys)) ∧ Below w.heap.size w w' :=
  (common_any a b xs ys ca cb w ha hb).mono fun e w' h => ⟨h.1, quiet_below h.2⟩
theorem compare_b (a b : Option Addr) (xs ys : List Int) (ca cb : Nat) (w : World) (ha : Rd w a xs) (hb : Rd w b ys) :
    Calls Try.prog 16 #[.slice a xs.length ca, .slice b ys.length cb] w fun e w' => e = .returned (.int .i64 (cmpK xs ys)) ∧ Below w.heap.size w w' :=
  (compare_any a b xs ys ca cb w ha hb).mono fun e w' h => ⟨h.1, quiet_below h.2⟩
theorem bit_b (a : Option Addr) (xs : List Int) (ca : Nat) (i : Int) (w : World) (ha : Rd w a xs) (hi : i ≤ 9223372036854775807) (hi0 : -9223372036854775808 ≤ i) :
    Calls Try.prog 20 #[.slice a xs.length ca, .int .i64 i] w fun e w' => e = .returned (.int .i64 (bitK xs i)) ∧ Below w.heap.size w w' :=
  (bit_any a xs ca i w ha hi hi0).mono fun e w' h => ⟨h.1, by rw [h.2]; exact Below.refl _ _⟩
theorem differ_b (a b : Option Addr) (xs ys : List Int) (ca cb : Nat) (w : World) (ha : Rd w a xs) (hb : Rd w b ys) (hs : xs.length ≤ 1000000) :
    Calls Try.prog 22 #[.slice a xs.length ca, .slice b ys.length cb] w fun e w' => e = .returned (.int .i64 (differK xs ys)) ∧ Below w.heap.size w w' :=
  (differ_any a b xs ys ca cb w ha hb hs).mono fun e w' h => ⟨h.1, quiet_below h.2⟩
theorem begins_b (a b : Option Addr) (xs ys : List Int) (ca cb : Nat) (w : World) (ha : Rd w a xs) (hb : Rd w b ys) :
    Calls Try.prog 24 #[.slice a xs.length ca, .slice b ys.length cb] w fun e w' => e = .returned (.bool ((common xs ys : Int) == (ys.length : Int))) ∧ Below w.heap.size w w' :=
  (begins_any a b xs ys ca cb w ha hb).mono fun e w' h => ⟨h.1, quiet_below h.2⟩
theorem same_b (a b : Option Addr) (xs ys : List Int) (ca cb : Nat) (w : World) (ha : Rd w a xs) (hb : Rd w b ys) :
    Calls Try.prog 14 #[.slice a xs.length ca, .slice b ys.length cb] w fun e w' => e = .returned (.bool (decide (xs = ys))) ∧ Below w.heap.size w w' :=
  (same_any a b xs ys ca cb w ha hb).mono fun e w' h => ⟨h.1, quiet_below h.2⟩

end Go.Proofs.Ytinogmjmmccfmaa
