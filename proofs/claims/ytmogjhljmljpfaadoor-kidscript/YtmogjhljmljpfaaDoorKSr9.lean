/- KidScript. -/
import Derived.Test.YtmogjhljmljpfaaDoorKSm9
namespace Go.Proofs.YtmogjhljmljpfaaDoor
open Go.RowKit Go.Sort
set_option linter.unusedVariables false
set_option linter.unusedSimpArgs false
set_option maxRecDepth 100000

theorem most_step {s : Nat} (hs : s < 3) : mostN s + 1 ≤ mostN (s + 1) := by
  have : s = 0 ∨ s = 1 ∨ s = 2 := by omega
  rcases this with rfl | rfl | rfl <;> decide
theorem cnt_put_le (f : Nat → Nat) (b x : Nat) (hb : b < 256) (hx : x ≠ 0) : cntF (upd f b x) ≤ cntF f + 1 := by
  by_cases h : f b = 0
  · rw [cnt_more f b x hb h hx]; omega
  · rw [cnt_same f b x hb h hx]; omega
theorem fit_put {s : Nat} {f : Nat → Nat} (h : Fit s f) (hs : s ≤ 3) (b x : Nat) (hb : b < 256) (hx : x ≠ 0) : Fit (upK s (cntF (upd f b x))) (upd f b x) := by
  unfold Fit at *
  have h1 := cnt_put_le f b x hb hx
  have h2 := cntF_le (upd f b x)
  unfold upK
  split
  · have hs3 : s < 3 := by
      rcases Nat.lt_or_ge s 3 with h3 | h3
      · exact h3
      · obtain rfl : s = 3 := by omega
        have : mostN 3 = 256 := rfl
        omega
    have := most_step hs3
    omega
  · omega
theorem fit_same {s : Nat} {f : Nat → Nat} (h : Fit s f) (b x : Nat) (hb : b < 256) (hx : x ≠ 0) : (if f b = 0 then upK s (cntF (upd f b x)) else s) = upK s (cntF (upd f b x)) := by
  split
  · rfl
  · rename_i hf
    unfold Fit at h
    unfold upK
    rw [cnt_same f b x hb hf hx, if_neg (by omega)]
theorem few_most {s c : Nat} (hs : s ≤ 3) (h : (c : Int) ≤ fewN s) : c ≤ mostN (s - 1) := by
  have : s = 0 ∨ s = 1 ∨ s = 2 ∨ s = 3 := by omega
  rcases this with rfl | rfl | rfl | rfl
  · have h' : (c : Int) ≤ -1 := h; omega
  · have h' : (c : Int) ≤ 3 := h; show c ≤ 4; omega
  · have h' : (c : Int) ≤ 12 := h; show c ≤ 16; omega
  · have h' : (c : Int) ≤ 40 := h; show c ≤ 48; omega
theorem cnt_drop_le (f : Nat → Nat) (b : Nat) (hb : b < 256) : cntF (upd f b 0) ≤ cntF f := by
  by_cases h : f b = 0
  · have : upd f b 0 = f := by
      funext c; unfold upd; split
      · rename_i e; rw [e, h]
      · rfl
    rw [this]; omega
  · have := cnt_less f b hb h; omega
theorem fit_drop {s : Nat} {f : Nat → Nat} (h : Fit s f) (hs : s ≤ 3) (b : Nat) (hb : b < 256) : Fit (if f b = 0 then s else downK s (cntF (upd f b 0))) (upd f b 0) := by
  unfold Fit at *
  have h1 := cnt_drop_le f b hb
  split
  · omega
  · unfold downK
    split
    · rename_i h2; exact few_most hs h2
    · omega

/-- Both nodes alike. -/
structure Tw (w0 : World) (g r : Nat) (s : Nat) (f : Nat → Nat) (w : World) : Prop where
  m : Both (Kd g s f) (Rs r s f) (fun k => k < w0.heap.size) w
  bl : Below w0.heap.size w0 w
  fit : Fit s f
  sz : s ≤ 3
/-- The one ahead of the other. -/
structure Tv (w0 : World) (g r : Nat) (s s' : Nat) (f f' : Nat → Nat) (w : World) : Prop where
  m : Both (Kd g s' f') (Rs r s f) (fun k => k < w0.heap.size) w
  bl : Below w0.heap.size w0 w
section
variable {w0 w w' : World} {g r s s' b x : Nat} {f f' : Nat → Nat}
theorem Tw.still (h : Tw w0 g r s f w) (b : Still w w') : Tw w0 g r s f w' := by
  refine ⟨(Both.lies _ _).still h.m b, ?_, h.fit, h.sz⟩
  obtain ⟨d, rfl⟩ := b
  exact h.bl.trans ⟨rfl, rfl, rfl, Nat.le_refl _, fun _ _ => rfl⟩
theorem Tw.drew (h : Tw w0 g r s f w) : Tw w0 g r s f w.drew := h.still ⟨1, rfl⟩
theorem Tw.drewN (h : Tw w0 g r s f w) (d : Nat) : Tw w0 g r s f (w.drewN d) := h.still ⟨d, rfl⟩
theorem Tw.put (h : Tw w0 g r s f w) (T : Tb w0) (b : Nat) (hb : b < 256) (x : Nat) (hx : x ≠ 0) (hx2 : x < 4294967296) : Calls Tryd.prog 10 #[.pointer (some ⟨g, 0, none⟩), .int .u8 (b : Int), .int .u32 (x : Int)] w fun e w' => e = .returned (.int .i64 0) ∧ Tv w0 g r s (upK s (cntF (upd f b x))) f (upd f b x) w' := by
  obtain ⟨K1, hk, a, back⟩ := h.m.left
  have h2 := T.two
  refine (kput_any a (T.below h.bl T.two) (hk 0 (by omega)) (hk 1 (by omega)) b hb x hx hx2).mono ?_
  rintro e w' ⟨rfl, a', k⟩
  rw [fit_same h.fit b x hb hx] at a'
  have B := back w' _ (Kd.lies _ _ _) a' k
  exact ⟨rfl, B.1, bk9 B.2 h.bl⟩
theorem Tv.put (h : Tv w0 g r s (upK s (cntF (upd f b x))) f (upd f b x) w) (F : Fit s f) (hs : s ≤ 3) (hb : b < 256) (hx : x ≠ 0) (hx2 : x < 4294967296) : Calls Tryd.prog 11 #[.pointer (some ⟨r, 0, none⟩), .int .u8 (b : Int), .int .u32 (x : Int)] w fun e w' => e = .returned (.int .i64 0) ∧ Tw w0 g r (upK s (cntF (upd f b x))) (upd f b x) w' := by
  obtain ⟨K1, hk, a, back⟩ := h.m.right
  refine (rput_any a b hb x hx hx2).mono ?_
  rintro e w' ⟨rfl, a', k⟩
  have B := back w' _ (Rs.lies _ _ _) a' k
  exact ⟨rfl, B.1, bk9 B.2 h.bl, fit_put F hs b x hb hx, upK_le hs _⟩
theorem Tw.drop (h : Tw w0 g r s f w) (T : Tb w0) (b : Nat) (hb : b < 256) : Calls Tryd.prog 12 #[.pointer (some ⟨g, 0, none⟩), .int .u8 (b : Int)] w fun e w' => e = .returned (.tuple #[.int .u32 (f b : Int), .bool (decide (f b ≠ 0))]) ∧ Tv w0 g r s (if f b = 0 then s else downK s (cntF (upd f b 0))) f (upd f b 0) w' := by
  obtain ⟨K1, hk, a, back⟩ := h.m.left
  have h2 := T.two
  refine (kdrop_any a (T.below h.bl T.two) (hk 0 (by omega)) (hk 1 (by omega)) b hb).mono ?_
  rintro e w' ⟨rfl, a', k⟩
  have B := back w' _ (Kd.lies _ _ _) a' k
  exact ⟨rfl, B.1, bk9 B.2 h.bl⟩
theorem Tv.drop (h : Tv w0 g r s (if f b = 0 then s else downK s (cntF (upd f b 0))) f (upd f b 0) w) (F : Fit s f) (hs : s ≤ 3) (hb : b < 256) : Calls Tryd.prog 13 #[.pointer (some ⟨r, 0, none⟩), .int .u8 (b : Int)] w fun e w' => e = .returned (.tuple #[.int .u32 (f b : Int), .bool (decide (f b ≠ 0))]) ∧ Tw w0 g r (if f b = 0 then s else downK s (cntF (upd f b 0))) (upd f b 0) w' := by
  obtain ⟨K1, hk, a, back⟩ := h.m.right
  refine (rdrop_any a b hb).mono ?_
  rintro e w' ⟨rfl, a', k⟩
  have B := back w' _ (Rs.lies _ _ _) a' k
  exact ⟨rfl, B.1, bk9 B.2 h.bl, fit_drop F hs b hb, by split; exact hs; exact downK_le hs _⟩
theorem Tw.same (h : Tw w0 g r s f w) (T : Tb w0) (n : Int) (hn : -9223372036854775808 ≤ n ∧ n ≤ 9223372036854775807) : Calls Tryd.prog 14 #[.pointer (some ⟨g, 0, none⟩), .pointer (some ⟨r, 0, none⟩), .int .i64 n] w fun e w' => e = .returned (.bool true) ∧ Tw w0 g r s f w' := by
  have h2 := T.two
  refine (ksame_any h.m (T.below h.bl T.two) n hn (by omega) (by omega)).mono ?_
  rintro e w' ⟨rfl, m, b⟩
  exact ⟨rfl, m, h.bl.trans (b.mono h.bl.size), h.fit, h.sz⟩
end
theorem kput_zero' {g : Nat} {w : World} (b x : Nat) (hx : x = 0) : Calls Tryd.prog 10 #[.pointer (some ⟨g, 0, none⟩), .int .u8 (b : Int), .int .u32 (x : Int)] w fun r w' => r = .returned (.int .i64 2) ∧ w' = w := by
  subst hx; exact kput_zero _
theorem rput_zero' {g : Nat} {w : World} (b x : Nat) (hx : x = 0) : Calls Tryd.prog 11 #[.pointer (some ⟨g, 0, none⟩), .int .u8 (b : Int), .int .u32 (x : Int)] w fun r w' => r = .returned (.int .i64 2) ∧ w' = w := by
  subst hx; exact rput_zero _
/-- The answers of both Drops, by letters. -/
theorem Tw.dropL {w0 w : World} {g r s b : Nat} {f : Nat → Nat} (h : Tw w0 g r s f w) (T : Tb w0) (hb : b < 256) : ∃ (x : Nat) (t : Bool), Calls Tryd.prog 12 #[.pointer (some ⟨g, 0, none⟩), .int .u8 (b : Int)] w fun e w' => e = .returned (.tuple #[.int .u32 (x : Int), .bool t]) ∧ (Calls Tryd.prog 13 #[.pointer (some ⟨r, 0, none⟩), .int .u8 (b : Int)] w' fun e w'' => e = .returned (.tuple #[.int .u32 (x : Int), .bool t]) ∧ ∃ s' f', Tw w0 g r s' f' w'') ∧ Below w0.heap.size w0 w' := by
  refine ⟨f b, decide (f b ≠ 0), (h.drop T b hb).mono ?_⟩
  rintro e w' ⟨rfl, t⟩
  exact ⟨rfl, (t.drop h.fit h.sz hb).mono fun e w'' ⟨h1, h2⟩ => ⟨h1, _, _, h2⟩, t.bl⟩
end Go.Proofs.YtmogjhljmljpfaaDoor
