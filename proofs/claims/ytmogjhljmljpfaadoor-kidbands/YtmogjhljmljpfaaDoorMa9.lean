/- The calls of package mask at a mask whose four numbers are written out. -/
import Derived.Test.YtmogjhljmljpfaaDoorSeq9
namespace Go.Proofs.YtmogjhljmljpfaaDoor
set_option maxRecDepth 20000
open Go.RowKit

abbrev ag (x0 x1 x2 x3 : Nat) : Value := .agg #[.int .u64 (x0 : Int), .int .u64 (x1 : Int), .int .u64 (x2 : Int), .int .u64 (x3 : Int)]
abbrev ag4 (x0 x1 x2 x3 : Nat) : List Value := [.int .u64 (x0 : Int), .int .u64 (x1 : Int), .int .u64 (x2 : Int), .int .u64 (x3 : Int)]

section
variable {m : List Nat} {x0 x1 x2 x3 : Nat}
theorem has4 (e : m = [x0, x1, x2, x3]) (hm : Ok m) (b : Nat) (hb : b < 256) (w : World) : Calls Tryd.prog 23 #[ag x0 x1 x2 x3, .int .u8 b] w fun e w' => e = .returned (.bool (inM m b)) ∧ Below w.heap.size w w' := by
  subst e; exact has_any _ hm b hb w
theorem with4 (e : m = [x0, x1, x2, x3]) (hm : Ok m) (b : Nat) (hb : b < 256) (w : World) : Calls Tryd.prog 26 #[ag x0 x1 x2 x3, .int .u8 b] w fun e w' => e = .returned (mv (wth m b)) ∧ Below w.heap.size w w' := by
  subst e; exact with_four x0 x1 x2 x3 (hm.lt 0) (hm.lt 1) (hm.lt 2) (hm.lt 3) b hb w
theorem without4 (e : m = [x0, x1, x2, x3]) (hm : Ok m) (b : Nat) (hb : b < 256) (w : World) : Calls Tryd.prog 30 #[ag x0 x1 x2 x3, .int .u8 b] w fun e w' => e = .returned (mv (wo m b)) ∧ Below w.heap.size w w' := by
  subst e; exact without_four x0 x1 x2 x3 (hm.lt 0) (hm.lt 1) (hm.lt 2) (hm.lt 3) b hb w
theorem count4 (e : m = [x0, x1, x2, x3]) (hm : Ok m) (w : World) : Calls Tryd.prog 44 #[ag x0 x1 x2 x3] w fun e w' => e = .returned (.int .i64 ((elems m).length : Int)) ∧ Below w.heap.size w w' := by
  subst e; rw [← cnt_len _ hm]; exact count_any _ hm w
theorem next4 (e : m = [x0, x1, x2, x3]) (hm : Ok m) (n : Int) (hn : -9223372036854775808 ≤ n ∧ n ≤ 9223372036854775807) (w : World) (hT : Tab w) (hw : 1 < w.heap.size) : Calls Tryd.prog 38 #[ag x0 x1 x2 x3, .int .i64 n] w fun e w' => e = .returned (.int .i64 (nxt m n)) ∧ Below w.heap.size w w' := by
  subst e; exact next_any _ hm n hn w hT hw
theorem prev4 (e : m = [x0, x1, x2, x3]) (hm : Ok m) (n : Int) (hn : -9223372036854775808 ≤ n ∧ n ≤ 9223372036854775807) (w : World) : Calls Tryd.prog 39 #[ag x0 x1 x2 x3, .int .i64 n] w fun e w' => e = .returned (.int .i64 (prv m n)) ∧ Below w.heap.size w w' := by
  subst e; exact prev_any _ hm n hn w
theorem rank4 (e : m = [x0, x1, x2, x3]) (hm : Ok m) (n : Int) (hn : -9223372036854775808 ≤ n ∧ n ≤ 9223372036854775807) (w : World) : Calls Tryd.prog 41 #[ag x0 x1 x2 x3, .int .i64 n] w fun e w' => e = .returned (.int .i64 (cnt (bl m (max n 0)) : Int)) ∧ Below w.heap.size w w' := by
  subst e; exact rank_any _ hm n hn w
theorem all4 (e : m = [x0, x1, x2, x3]) (hm : Ok m) (w : World) (hT : Tab w) (hw : 1 < w.heap.size) : Calls Tryd.prog 36 #[ag x0 x1 x2 x3] w fun e w' => ∃ v, e = .returned v ∧ w'.ownsRow w.heap.size 5 1 v (elems m).length (u8s (ints (elems m))) ∧ Below w.heap.size w w' := by
  subst e; exact all_any _ hm w hT hw
end

theorem ints_bytes (xs : List Nat) (h : ∀ x ∈ xs, x < 256) : IsBytes (ints xs) := by
  intro x hx
  obtain ⟨n, hn, rfl⟩ := List.mem_map.1 hx
  have := h n hn
  omega
theorem elems_bytes (m : List Nat) : ∀ x ∈ elems m, x < 256 := fun x h => ((elems_mem m x).1 h).1
theorem owns_ints {w : World} {base : Nat} {e : TypeId} {v : Value} {n : Nat} {xs : List Nat} (h : w.ownsRow base e 1 v n (u8s (ints xs))) (hb : ∀ x ∈ xs, x < 256) :
    ∃ a c, v = .slice a xs.length c ∧ Rd w a (ints xs) := by
  obtain ⟨a, c, h1, h2, _⟩ := owns_rd h (ints_bytes xs hb)
  rw [ints_len] at h1
  exact ⟨a, c, h1, h2⟩
theorem same4 (a b : Option Addr) (xs : List Nat) (ca cb : Nat) (w : World) (ha : Rd w a (ints xs)) (hb : Rd w b (ints xs)) :
    Calls Tryd.prog 22 #[.slice a xs.length ca, .slice b xs.length cb] w fun e w' => e = .returned (.bool true) ∧ Below w.heap.size w w' := by
  have := same_any a b (ints xs) (ints xs) ca cb w ha hb
  rw [ints_len] at this
  refine this.mono fun e w' ⟨h1, n, h2⟩ => ⟨by rw [h1]; simp, ?_⟩
  subst h2
  exact Below.drewN (Below.refl _ _) n

end Go.Proofs.YtmogjhljmljpfaaDoor
