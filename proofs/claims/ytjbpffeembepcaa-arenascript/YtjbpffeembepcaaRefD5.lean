/- The document's arena: Take, Handles, New; words copied by append; what is written over; two lists of handles. -/
import Derived.Test.YtjbpffeembepcaaRefC5
namespace Go.Proofs.Ytjbpffeembepcaa
open Go.RowKit
set_option linter.unusedVariables false
set_option linter.unusedSimpArgs false

theorem words_src {K : Nat → Prop} {w : World} {a : Option Addr} {ws : List Int} (h : Wd K w a ws) (c : Nat) : Src Try.prog 1 29 (.slice a ws.length c) ws.length (u64s ws) w := by
  have h1 : ∀ u ∈ u64s ws, u.oneCell' = true := by
    intro u hu
    simp [u64s] at hu
    obtain ⟨x, _, rfl⟩ := hu
    rfl
  rcases h with h0 | ⟨b, off, rfl, hb, hc⟩
  · subst h0
    cases a with
    | none => exact Src.ofNil w Try.underlying29 c
    | some x => exact Src.ofSlice _ Try.underlying29 _ 0 _ _ rfl (fun j u hu => by simp [u64s] at hu) h1
  · refine Src.ofSlice _ Try.underlying29 _ _ _ _ (by rw [u64s_length]; omega) (fun j u hu => ?_) h1
    have hj : j < ws.length := by have := (List.getElem?_eq_some_iff.1 hu).1; simpa [u64s_length] using this
    rw [u64s_get ws j hj] at hu
    have : (⟨b, off, none⟩ : Addr).add j = ⟨b, off + j, none⟩ := by
      by_cases h : j = 0
      · subst h; rfl
      · simp [Addr.add, h]
    rw [this, hc j hj]
    exact hu
/-- append([]uint64(nil), ws...). -/
theorem copy_words {K : Nat → Prop} {w : World} {a : Option Addr} {ws : List Int} (h : Wd K w a ws) (c : Nat) (hl : ws.length ≤ 1048576) :
    ∃ v' w', (Builtin.append_ #[29, 29] 29 #[.slice none 0 0, .slice a ws.length c]).run Try.prog w = .ok v' w' ∧ w'.ownsRow w.heap.size 32 1 v' ws.length (u64s ws) ∧ Below w.heap.size w w' := by
  obtain ⟨i, i1, i2, i3, i4⟩ := info_u64
  obtain ⟨v', w', r, o, gr, hb, _, _⟩ := run_append_src (P := Try.prog) (w := w) w.heap.size 29 29 29 32 i _ 1 8 Try.underlying29 i1 i2 i3 i4 rfl (by omega) (.slice none 0 0) 0 [] (World.ownsRow_nil w w.heap.size _ 1) _ ws.length _ (words_src h c) (by unfold maxLen; omega) (by omega) (Nat.le_refl _)
  rw [Nat.zero_add, List.nil_append] at o
  exact ⟨v', w', r, o, gr.os, gr.tape, gr.output, gr.size, fun k hk => gr.block k hk (fun e => by simp [Value.ownBlock] at e)⟩
end Go.Proofs.Ytjbpffeembepcaa
