/- A slice of ints that came in; lists of words that a law keeps beside an arena. -/
import Derived.Test.YtjbpffeembepcaaLow5
namespace Go.Proofs.Ytjbpffeembepcaa
open Go.RowKit
set_option linter.unusedVariables false

/-- Ints that came in. -/
def Ri (w : World) (a : Option Addr) (xs : List Int) : Prop :=
  (∀ x ∈ xs, -9223372036854775808 ≤ x ∧ x ≤ 9223372036854775807) ∧ (xs = [] ∨ ∃ b off, a = some ⟨b, off, none⟩ ∧ ∀ i, i < xs.length → w.cell? ⟨b, off + i, none⟩ = some (.int .i64 (wAt xs i)))
theorem Ri.at {w : World} {a : Option Addr} {xs : List Int} (h : Ri w a xs) (k : Nat) (hk : k < xs.length) : ∃ b off, a = some ⟨b, off, none⟩ ∧ (-9223372036854775808 ≤ wAt xs k ∧ wAt xs k ≤ 9223372036854775807) ∧ ∀ w', Kp (fun k => k < w.heap.size) w w' → w'.cell? ⟨b, off + k, none⟩ = some (.int .i64 (wAt xs k)) := by
  obtain ⟨hr, rfl | ⟨b, off, rfl, hc⟩⟩ := h
  · simp at hk
  · refine ⟨b, off, rfl, hr _ ?_, fun w' f => ?_⟩
    · simp [wAt, hk]
    · have h1 := hc k hk
      have hb := World.block_lt_of_cell? w _ h1
      rw [World.cell?_of_block (w := w) (w' := w') (a := ⟨b, off + k, none⟩) (f.block b hb hb)]
      exact h1
theorem Ri.rng {w : World} {a : Option Addr} {xs : List Int} (h : Ri w a xs) (k : Nat) (hk : k < xs.length) : -9223372036854775808 ≤ wAt xs k ∧ wAt xs k ≤ 9223372036854775807 := by
  obtain ⟨_, _, _, h, _⟩ := h.at k hk
  exact h
theorem ri_of {w : World} : ∀ (a : Option Addr) (len cap : Nat) (zs : List Int), ((a = none ∧ len = 0 ∧ cap = 0 ∧ zs = []) ∨ ∃ x, a = some x ∧ len ≤ cap ∧ cap ≤ maxLen ∧ zs.length = cap ∧ (∀ i, i < zs.length → w.cell? (x.add i) = some (.int .i64 (zs.getD i 0))) ∧ ∀ n ∈ zs, (Lit.int .i64 n).wf = true) → ∃ xs : List Int, xs.length = len ∧ Ri w a xs := by
  rintro a len cap zs (⟨rfl, rfl, rfl, rfl⟩ | ⟨x, rfl, hl, hm, hz, hc, hw⟩)
  · exact ⟨[], rfl, by simp, .inl rfl⟩
  · refine ⟨zs.take len, by simp; omega, ?_, ?_⟩
    · intro n hn
      exact wf_i64 (hw n (List.mem_of_mem_take hn))
    · by_cases h0 : len = 0
      · left; simp [h0]
      · right
        obtain ⟨b, off, sp⟩ := x
        have h1 := hc 0 (by omega)
        cases sp with
        | some q =>
          simp only [World.cell?, Addr.add] at h1
          split at h1 <;> simp at h1
        | none =>
          refine ⟨b, off, rfl, fun i hi => ?_⟩
          have hi' : i < len ∧ i < zs.length := by simp at hi; omega
          have h2 := hc i hi'.2
          rw [show wAt (zs.take len) i = zs.getD i 0 from by simp [wAt, List.getD, hi'.1]]
          have ea : (⟨b, off, none⟩ : Addr).add i = ⟨b, off + i, none⟩ := by
            by_cases h : i = 0
            · subst h; rfl
            · simp [Addr.add, h]
          rw [← ea]
          exact h2

def lowN (x m : Int) : Nat := (lowK x m).toNat
theorem lowN_lt (x : Int) (m : Nat) (h : 0 < m) : lowN x m < m := by
  have := lowK_range x m (by omega)
  unfold lowN
  omega
theorem low_i (x m : Int) (h : -9223372036854775808 ≤ x ∧ x ≤ 9223372036854775807) (hm : 0 < m) (hm1 : m ≤ 9223372036854775807) (w : World) :
    Calls Try.prog 27 #[.int .i64 x, .int .i64 m] w fun e w' => e = .returned (.int .i64 (lowN x m : Int)) ∧ w' = w := by
  refine (low_any x m h.1 h.2 hm hm1 w).mono ?_
  rintro e w' ⟨rfl, rfl⟩
  have := lowK_range x m hm
  exact ⟨ret_int (by unfold lowN; omega), rfl⟩

/-- append of one word. -/
theorem append_u64 (w : World) (B : Nat) (v : Value) (ws : List Int) (x : Int) (ow : w.ownsRow B 32 1 v ws.length (u64s ws)) (hl : ws.length ≤ 1048576) (hB : B ≤ w.heap.size) :
    ∃ a cap w', (Builtin.append_ #[29, 29] 29 #[v, .slice (some ⟨w.heap.size, 0, none⟩) 1 1]).run Try.prog (w.alloc (.cells #[.int .u64 x] 32)) = .ok (.slice a (ws.length + 1) cap) w' ∧
      w'.ownsRow B 32 1 (.slice a (ws.length + 1) cap) (ws.length + 1) (u64s (ws ++ [x])) ∧ (w.alloc (.cells #[.int .u64 x] 32)).grownBy w' v.ownBlock ∧ (Value.ownBlock (.slice a (ws.length + 1) cap) = v.ownBlock ∨ Value.ownBlock (.slice a (ws.length + 1) cap) = some (w.heap.size + 1)) := by
  obtain ⟨i, i1, i2, i3, i4⟩ := info_u64
  obtain ⟨v', w', r, o, gr, hv⟩ := append_lit (P := Try.prog) w B 29 32 i _ 1 8 Try.underlying29 i1 i2 i3 i4 rfl (by omega) v _ _ ow [.int .u64 x] rfl (by
    intro u hu
    simp at hu
    subst hu
    rfl) (by omega) (by omega) hB
  obtain ⟨a, cap, rfl⟩ := owns_slice' o
  exact ⟨a, cap, w', r, by simpa [u64s] using o, gr, hv⟩
/-- A list of words of the law's own, handed in. -/
theorem Wd.own {B base : Nat} {w : World} {a : Option Addr} {n cap : Nat} {ws : List Int} (h : w.ownsRow base 32 1 (.slice a n cap) n (u64s ws)) : Wd (KB B (.slice a n cap)) w a ws := by
  have hl : ws.length = n := by have := h.1; simpa [u64s_length] using this
  by_cases h0 : n = 0
  · exact .inl (List.eq_nil_of_length_eq_zero (by omega))
  · obtain ⟨g, cap', e⟩ := owns_slice h (by omega)
    simp only [Value.slice.injEq] at e
    obtain ⟨rfl, -, rfl⟩ := e
    refine .inr ⟨g, 0, rfl, .inr rfl, fun j hj => ?_⟩
    rw [Nat.zero_add]
    exact (h.cellAt j (by omega)).trans (u64s_get ws j hj)
end Go.Proofs.Ytjbpffeembepcaa
