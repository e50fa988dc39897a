/- The calls of package meter. -/
import Derived.Test.YtkofnjpjfnedpaaRows
import Derived.Test.YtkofnjpjfnedpaaLocks
import Derived.Test.YtkofnjpjfnedpaaBlk
import Derived.Conc.RwLoneW
namespace Go.Proofs.Ytkofnjpjfnedpaa
open Go.RowKit Go.RwLone

/-- A meter's cells: the lock (the writers' word a, the readers' count b); the counters. -/
def lcells (a b : Int) (cs : List Int) : List Value := [.int .i32 a, .int .u32 0, .int .u32 0, .int .u32 0, .int .i32 b, .int .i32 0] ++ cs.map (.int .i64)
abbrev mcells (cs : List Int) : List Value := lcells 0 0 cs
def i64s (cs : List Int) : List Value := cs.map (.int .i64)
/-- The counter k; what Swap and Most leave. -/
def cAt (cs : List Int) (k : Nat) : Int := cs.getD k 0
def swapped (cs : List Int) (k : Nat) (old n : Int) : List Int := if cAt cs k = old then cs.set k n else cs
def mostIs (cs : List Int) (k : Nat) (n : Int) : Int := if n ≤ cAt cs k then cAt cs k else n
def isAt (cs : List Int) (k : Nat) (old : Int) : Bool := decide (cAt cs k = old)
theorem lcells_get (a b : Int) (cs : List Int) (k : Nat) (h : k < cs.length) : (lcells a b cs)[6 + k]? = some (.int .i64 (cAt cs k)) := by
  unfold lcells
  rw [List.getElem?_append_right (by simp)]
  simp [h, cAt]
theorem lcells_set (a b : Int) (cs : List Int) (k : Nat) (v : Int) : (lcells a b cs).set (6 + k) (.int .i64 v) = lcells a b (cs.set k v) := by
  unfold lcells
  rw [List.set_append_right _ _ (by simp)]
  simp [List.map_set]
theorem lcells_set0 (a b a' : Int) (cs : List Int) : (lcells a b cs).set 0 (.int .i32 a') = lcells a' b cs := by simp [lcells]
theorem lcells_set4 (a b b' : Int) (cs : List Int) : (lcells a b cs).set 4 (.int .i32 b') = lcells a b' cs := by simp [lcells]
abbrev Mt (w : World) (g : Nat) (a b : Int) (cs : List Int) : Prop := Blk w g 61 (lcells a b cs)

theorem new_any (w : World) : Calls Try.prog 7 #[] w fun e w' => e = .returned (.pointer (some ⟨w.heap.size, 0, none⟩)) ∧ w' = w.alloc (.cells (mcells (List.replicate 12 0)).toArray 61 (0, 0)) := by
  go_enter Try.func7, Try.ntmps7
  go_wp2
  go_ret
  exact ⟨rfl, rfl⟩

theorem has_any (p : Addr) (i : Int) (w : World) : Calls Try.prog 21 #[.pointer (some p), .int .i64 i] w fun e w' => e = .returned (.bool (decide (0 ≤ i) && decide (i < 12))) ∧ w' = w := by
  go_enter Try.func21, Try.ntmps21
  go_wp2
  all_goals go_ret
  · exact ⟨ret_bool (by simp_all), rfl⟩
  · exact ⟨ret_bool (by simp; omega), rfl⟩
theorem has_none (i : Int) (w : World) : Calls Try.prog 21 #[.pointer none, .int .i64 i] w fun e w' => e = .returned (.bool false) ∧ w' = w := by
  go_enter Try.func21, Try.ntmps21
  go_wp2
  all_goals go_ret
  all_goals exact ⟨rfl, rfl⟩

/- The counters' own methods. -/
theorem iadd_any (g o : Nat) (x n : Int) (w : World) (hc : w.cell? ⟨g, o, none⟩ = some (.int .i64 x)) (hz : w.frozen? ⟨g, o, none⟩ = false) :
    Calls Try.prog 24 #[.pointer (some ⟨g, o, none⟩), .int .i64 n] w fun e w' => e = .returned (.int .i64 (wrap64 (x + n))) ∧ w' = w.setCell ⟨g, o, none⟩ (.int .i64 (wrap64 (x + n))) := by
  have hk := run_call_add (P := Try.prog) Try.func39 (by kernel_rfl) (by kernel_rfl) (by kernel_rfl) .i64 (by kernel_rfl) (y := n) (s := wrap64 (x + n)) hc hz (by simp [go_sem, wrap64, IntKind.wrap_i64])
  go_enter Try.func24, Try.ntmps24
  go_wp2
  go_ret
  exact ⟨rfl, rfl⟩
theorem iload_any (g o : Nat) (x : Int) (w : World) (hc : w.cell? ⟨g, o, none⟩ = some (.int .i64 x)) :
    Calls Try.prog 26 #[.pointer (some ⟨g, o, none⟩)] w fun e w' => e = .returned (.int .i64 x) ∧ w' = w := by
  have hk := run_call_load (P := Try.prog) Try.func40 (by kernel_rfl) (by kernel_rfl) (by kernel_rfl) .i64 (by kernel_rfl) hc
  go_enter Try.func26, Try.ntmps26
  go_wp2
  go_ret
  exact ⟨rfl, rfl⟩
theorem istore_any (g o : Nat) (u : Value) (n : Int) (w : World) (hc : w.cell? ⟨g, o, none⟩ = some u) (hz : w.frozen? ⟨g, o, none⟩ = false) :
    Calls Try.prog 30 #[.pointer (some ⟨g, o, none⟩), .int .i64 n] w fun e w' => e = .returned (.tuple #[]) ∧ w' = w.setCell ⟨g, o, none⟩ (.int .i64 n) := by
  have hk := run_call_store (P := Try.prog) Try.func48 (by kernel_rfl) (by kernel_rfl) (by kernel_rfl) (by kernel_rfl) (k := .i64) (y := n) hc hz
  go_enter Try.func30, Try.ntmps30
  go_wp2
  go_end0
  exact ⟨rfl, rfl⟩
theorem icas_any (g o : Nat) (x old n : Int) (w : World) (hc : w.cell? ⟨g, o, none⟩ = some (.int .i64 x)) (hz : w.frozen? ⟨g, o, none⟩ = false) :
    Calls Try.prog 27 #[.pointer (some ⟨g, o, none⟩), .int .i64 old, .int .i64 n] w fun e w' => e = .returned (.bool (decide (x = old))) ∧ w' = if x = old then w.setCell ⟨g, o, none⟩ (.int .i64 n) else w := by
  by_cases h : x = old
  · subst h
    have hk := run_call_cas_hit (P := Try.prog) Try.func41 (by kernel_rfl) (by kernel_rfl) (by kernel_rfl) .i64 (by kernel_rfl) (y := n) hc hz
    go_enter Try.func27, Try.ntmps27
    go_wp2
    go_ret
    exact ⟨by simp, by simp⟩
  · have hk := run_call_cas_miss (P := Try.prog) Try.func41 (by kernel_rfl) (by kernel_rfl) (by kernel_rfl) .i64 (by kernel_rfl) (o := old) (y := n) hc hz h
    go_enter Try.func27, Try.ntmps27
    go_wp2
    go_ret
    exact ⟨by simp, by simp⟩

/- The same, of a meter's counters; the lock's calls. -/
theorem iadd_m (g k : Nat) (a b n : Int) (cs : List Int) (w : World) (hb : Mt w g a b cs) (hk : k < cs.length) :
    Calls Try.prog 24 #[.pointer (some ⟨g, 6 + k, none⟩), .int .i64 n] w fun e w' => e = .returned (.int .i64 (wrap64 (cAt cs k + n))) ∧ Mt w' g a b (cs.set k (wrap64 (cAt cs k + n))) ∧ Only g w w' := by
  refine (iadd_any g (6 + k) _ n w ((hb.cell _).trans (lcells_get a b cs k hk)) (hb.frozen _)).mono ?_
  rintro e w' ⟨rfl, rfl⟩
  refine ⟨rfl, ?_, (Only.refl _ _).setCell _ _⟩
  have := hb.set (6 + k) (.int .i64 (wrap64 (cAt cs k + n)))
  rwa [lcells_set] at this
theorem iload_m (g k : Nat) (a b : Int) (cs : List Int) (w : World) (hb : Mt w g a b cs) (hk : k < cs.length) :
    Calls Try.prog 26 #[.pointer (some ⟨g, 6 + k, none⟩)] w fun e w' => e = .returned (.int .i64 (cAt cs k)) ∧ w' = w :=
  iload_any g (6 + k) _ w ((hb.cell _).trans (lcells_get a b cs k hk))
theorem istore_m (g k : Nat) (a b n : Int) (cs : List Int) (w : World) (hb : Mt w g a b cs) (hk : k < cs.length) :
    Calls Try.prog 30 #[.pointer (some ⟨g, 6 + k, none⟩), .int .i64 n] w fun e w' => e = .returned (.tuple #[]) ∧ Mt w' g a b (cs.set k n) ∧ Only g w w' := by
  refine (istore_any g (6 + k) _ n w ((hb.cell _).trans (lcells_get a b cs k hk)) (hb.frozen _)).mono ?_
  rintro e w' ⟨rfl, rfl⟩
  refine ⟨rfl, ?_, (Only.refl _ _).setCell _ _⟩
  have := hb.set (6 + k) (.int .i64 n)
  rwa [lcells_set] at this
theorem set_same (cs : List Int) (k : Nat) (hk : k < cs.length) : cs.set k (cAt cs k) = cs := by
  apply List.ext_getElem?
  intro n
  rw [List.getElem?_set]
  split
  · rename_i h
    subst h
    simp [hk, cAt]
  · rfl
theorem icas_m (g k : Nat) (a b old n : Int) (cs : List Int) (w : World) (hb : Mt w g a b cs) (hk : k < cs.length) :
    Calls Try.prog 27 #[.pointer (some ⟨g, 6 + k, none⟩), .int .i64 old, .int .i64 n] w fun e w' =>
      e = .returned (.bool (isAt cs k old)) ∧ Mt w' g a b (swapped cs k old n) ∧ Only g w w' := by
  refine (icas_any g (6 + k) _ old n w ((hb.cell _).trans (lcells_get a b cs k hk)) (hb.frozen _)).mono ?_
  rintro e w' ⟨rfl, rfl⟩
  refine ⟨rfl, ?_, ?_⟩
  · unfold swapped
    split
    · have := hb.set (6 + k) (.int .i64 n)
      rwa [lcells_set] at this
    · exact hb
  · split
    · exact (Only.refl _ _).setCell _ _
    · exact Only.refl _ _

theorem up1 : wrap32 (0 + 1) = 1 := by simp [wrap32]
theorem down1 : wrap32 (1 + -1) = 0 := by simp [wrap32]
theorem rlock_m (g : Nat) (cs : List Int) (w : World) (hb : Mt w g 0 0 cs) :
    Calls Try.prog 22 #[.pointer (some ⟨g, 0, none⟩)] w fun e w' => e = .returned (.tuple #[]) ∧ Mt w' g 0 1 cs ∧ Only g w w' := by
  refine (rlock_open Try.rwRLib g 0 0 (.int .i32 0) (.int .u32 0) w (hb.cell 0) (hb.cell 3) (hb.cell 4) (hb.frozen 4) (by rw [up1]; decide)).mono ?_
  rintro e w' ⟨rfl, rfl⟩
  rw [up1]
  refine ⟨rfl, ?_, (Only.refl _ _).setCell _ _⟩
  have := hb.set 4 (.int .i32 1)
  rwa [lcells_set4] at this
theorem runlock_m (g : Nat) (cs : List Int) (u : FrameMode) (w : World) (hb : Mt w g 0 1 cs) :
    CallsD Try.prog 23 #[.pointer (some ⟨g, 0, none⟩)] u w fun e u' w' => u' = u ∧ e = .returned (.tuple #[]) ∧ Mt w' g 0 0 cs ∧ Only g w w' := by
  refine (runlock_deferred Try.rwRLib g 0 1 (.int .i32 0) (.int .u32 0) u w (hb.cell 0) (hb.cell 2) (hb.cell 4) (hb.frozen 4) (by rw [down1]; decide)).mono ?_
  rintro e u' w' ⟨rfl, rfl, rfl⟩
  rw [down1]
  refine ⟨rfl, rfl, ?_, (Only.refl _ _).setCell _ _⟩
  have := hb.set 4 (.int .i32 0)
  rwa [lcells_set4] at this
theorem wlock_m (g : Nat) (cs : List Int) (w : World) (hb : Mt w g 0 0 cs) :
    Calls Try.prog 28 #[.pointer (some ⟨g, 0, none⟩)] w fun e w' => e = .returned (.tuple #[]) ∧ Mt w' g 1 (-1073741824) cs ∧ Only g w w' := by
  refine (wlock_free Try.rwWLib g 0 (.int .u32 0) (.int .u32 0) w (hb.cell 0) (hb.cell 2) (hb.cell 3) (hb.cell 4) (hb.frozen 0) (hb.frozen 4)).mono ?_
  rintro e w' ⟨rfl, rfl⟩
  refine ⟨rfl, ?_, ((Only.refl _ _).setCell _ _).setCell _ _⟩
  have h1 := hb.set 0 (.int .i32 1)
  rw [lcells_set0] at h1
  have := h1.set 4 (.int .i32 (-1073741824))
  rwa [lcells_set4] at this
theorem wunlock_m (g : Nat) (cs : List Int) (u : FrameMode) (w : World) (hb : Mt w g 1 (-1073741824) cs) :
    CallsD Try.prog 29 #[.pointer (some ⟨g, 0, none⟩)] u w fun e u' w' => u' = u ∧ e = .returned (.tuple #[]) ∧ Mt w' g 0 0 cs ∧ Only g w w' := by
  refine (wunlock_deferred Try.rwWLib g 0 (.int .u32 0) (.int .u32 0) u w (hb.cell 0) (hb.cell 2) (hb.cell 3) (hb.cell 4) (hb.frozen 0) (hb.frozen 4)).mono ?_
  rintro e u' w' ⟨rfl, rfl, rfl⟩
  refine ⟨rfl, rfl, ?_, ((Only.refl _ _).setCell _ _).setCell _ _⟩
  have h1 := hb.set 4 (.int .i32 0)
  rw [lcells_set4] at h1
  have := h1.set 0 (.int .i32 0)
  rwa [lcells_set0] at this
end Go.Proofs.Ytkofnjpjfnedpaa
