/- The document's pool: Has, Live, Drop, New. -/
import Derived.Test.YtaoabjcbolncoaaRf6
import Derived.Deep.DeepCutAuto
import Derived.Deep.RegionLaw
namespace Go.Proofs.Ytaoabjcbolncoaa
open Go.RowKit
set_option linter.unusedVariables false
set_option linter.unusedSimpArgs false

section
variable {w : World} {g : Nat} {most used : Int} {rs : List RowR} {back : List Nat} {vs vt vb : Value}
theorem rlive (h : RfC w g most used rs back vs vt vb) (hl : rs.length ≤ 2147483649) (h1 : 1 ≤ rs.length) (hb : back.length ≤ rs.length - 1) :
    Calls Try.prog 23 #[.pointer (some ⟨g, 0, none⟩)] w fun e w' => e = .returned (.int .i64 ((rs.length - 1 - back.length : Nat) : Int)) ∧ Still w w' := by
  obtain ⟨ac, cap, rfl⟩ := owns_slice' h.ss
  obtain ⟨ab, cab, rfl⟩ := owns_slice' h.backs
  have c0 : w.cell? ⟨g, 0, none⟩ = some (.slice ac rs.length cap) := h.blk.cell 0
  have c1 : w.cell? ⟨g, 2, none⟩ = some (.slice ab back.length cab) := h.blk.cell 2
  clear h
  go_enter Try.func23, Try.ntmps23
  go_wp2
  go_quiet (fail)
  go_wp2
  go_ret
  exact ⟨ret_int (by first | omega | (rw [IntKind.wrap_i64]; omega) | (simp only [IntKind.wrap_i64]; omega)), _, rfl⟩
theorem rhas (h : RfC w g most used rs back vs vt vb) (hl : rs.length ≤ 2147483649) (x : Nat) (hx : x < 4294967296) :
    Calls Try.prog 19 #[.pointer (some ⟨g, 0, none⟩), .int .u32 (x : Int)] w fun e w' => e = .returned (.bool (hasR rs x)) ∧ w' = w := by
  obtain ⟨ac, cap, rfl⟩ := owns_slice' h.ss
  have c0 : w.cell? ⟨g, 0, none⟩ = some (.slice ac rs.length cap) := h.blk.cell 0
  have e1 : IntKind.i64.wrap (x : Int) = (x : Int) := by rw [IntKind.wrap_i64]; omega
  by_cases hlt : x < rs.length
  · obtain ⟨r, hr⟩ : ∃ r, rs[x]? = some r := ⟨_, List.getElem?_eq_getElem hlt⟩
    obtain ⟨gc, cap', rfl⟩ := owns_slice h.ts (by omega)
    have c1 : w.cell? ⟨g, 1, none⟩ = some (.slice (some ⟨gc, 0, none⟩) rs.length cap') := h.blk.cell 1
    have z1' : w.cell? ⟨gc, x, none⟩ = some (.bool (hasR rs x)) := by
      rw [h.ts.cellAt x (by simpa using hlt), List.getElem?_map, hr]
      unfold hasR
      rw [hr]
      rcases r with _ | ⟨v, ws⟩ <;> rfl
    clear h hr hl
    generalize hasR rs x = bb at *
    go_enter Try.func19, Try.ntmps19
    go_wp2
    go_ret
    exact ⟨rfl, rfl⟩
  · have hb : hasR rs x = false := by
      unfold hasR
      rw [List.getElem?_eq_none (by omega)]
      rfl
    rw [hb]
    clear h hl
    go_enter Try.func19, Try.ntmps19
    go_wp2
    go_ret
    exact ⟨rfl, rfl⟩
end
section
variable {K : Nat → Prop} {w : World} {g : Nat} {most : Int} {cs : Strs} {back : List Nat}
theorem r_live (A : Rf g most cs back K w) (hc : cs.length ≤ 2147483648) : Calls Try.prog 23 #[.pointer (some ⟨g, 0, none⟩)] w fun e w' => e = .returned (.int .i64 ((cs.length - back.length : Nat) : Int)) ∧ Still w w' := by
  obtain ⟨rs, h1, ⟨k0, vs, vt, vb, a, k1⟩, G⟩ := A
  have hl := absR_len h1
  have hbl := G.blen
  have := rlive a (by omega) (by omega) (by omega)
  rw [show rs.length - 1 - back.length = cs.length - back.length by omega] at this
  exact this
theorem r_has (A : Rf g most cs back K w) (hc : cs.length ≤ 2147483648) (x : Nat) (hx : x < 4294967296) : Calls Try.prog 19 #[.pointer (some ⟨g, 0, none⟩), .int .u32 (x : Int)] w fun e w' => e = .returned (.bool (atH cs x).isSome) ∧ w' = w := by
  obtain ⟨rs, h1, ⟨k0, vs, vt, vb, a, k1⟩, G⟩ := A
  have hl := absR_len h1
  have T := rhas a (by omega) x hx
  rcases has_or cs x with hn | ⟨n, ws, rfl, hn⟩
  · rw [atH_no hn]
    rw [absR_none h1 hn] at T
    exact T
  · rw [atH_has hn]
    obtain ⟨v0, hr⟩ := absR_has h1 hn
    rw [hasR_some hr] at T
    exact T
set_option maxHeartbeats 800000 in
theorem rnew_any (n : Int) (h0 : 0 ≤ n) (h1 : n ≤ 16777216) : Calls Try.prog 8 #[.int .i64 n] w fun e w' => ∃ g, e = .returned (.pointer (some ⟨g, 0, none⟩)) ∧ Rf g n [] [] (fun k => k < w.heap.size) w' ∧ Below w.heap.size w w' := by
  have hlow : ¬ (n < 0) := by omega
  have hhigh : ¬ (16777216 < n) := by omega
  go_enter Try.func8, Try.ntmps8
  go_wp2
  go_ret
  refine ⟨w.heap.size + 1 + 1, rfl, ?_, (((Below.refl _ _).alloc (Nat.le_refl _) _).alloc (by simp) _).alloc (by simp; omega) _⟩
  have b0 : Blk (w.alloc (.cells #[.slice none 0 0] 29)) w.heap.size 29 [.slice none 0 0] := Blk.new w _ _ _ rfl
  have b0' := b0.alloc (.cells #[.bool false] 4)
  have b1 : Blk ((w.alloc (.cells #[.slice none 0 0] 29)).alloc (.cells #[.bool false] 4)) (w.heap.size + 1) 4 [.bool false] := by
    have := Blk.new (w.alloc (.cells #[.slice none 0 0] 29)) 4 [.bool false] _ rfl
    simpa using this
  generalize hW : (w.alloc (.cells #[.slice none 0 0] 29)).alloc (.cells #[.bool false] 4) = W at b0' b1 ⊢
  have hs : W.heap.size = w.heap.size + 1 + 1 := by rw [← hW]; simp
  obtain ⟨o, ho⟩ : ∃ o, o = Obj.cells #[.slice (some ⟨w.heap.size, 0, none⟩) 1 1, .slice (some ⟨w.heap.size + 1, 0, none⟩) 1 1, .slice none 0 0, .int .i64 n, .int .i64 0] 47 := ⟨_, rfl⟩
  rw [← ho]
  have b2 : Blk (W.alloc o) (w.heap.size + 1 + 1) 47 [.slice (some ⟨w.heap.size, 0, none⟩) 1 1, .slice (some ⟨w.heap.size + 1, 0, none⟩) 1 1, .slice none 0 0, .int .i64 n, .int .i64 0] := by
    rw [← hs, ho]
    exact Blk.new W _ _ _ rfl
  have b02 := b0'.alloc o
  have b12 := b1.alloc o
  refine ⟨[none], rfl, ⟨fun k hk => by simp; omega, .slice (some ⟨w.heap.size, 0, none⟩) 1 1, .slice (some ⟨w.heap.size + 1, 0, none⟩) 1 1, .slice none 0 0, ⟨b2, ?_, ?_, World.ownsRow_nil _ _ _ _, ?_, ?_⟩, ?_⟩, ⟨by simpa [total] using h0, h1, rfl, by simp, by simp, by simp⟩⟩
  · exact blk_owns (n := 1) b02 (Nat.zero_le _) (by simp) (by simp [maxLen])
  · exact blk_owns (n := 1) b12 (Nat.zero_le _) (by simp) (by simp [maxLen])
  · intro i v ws hi
    rw [List.getElem?_singleton] at hi
    split at hi <;> simp at hi
  · intro i j q v v' ws ws' hi
    rw [List.getElem?_singleton] at hi
    split at hi <;> simp at hi
  · rintro k (hk | hk | hk | hk | ⟨i, v, ws, hi, -⟩)
    · omega
    · simp [Value.ownBlock] at hk; omega
    · simp [Value.ownBlock] at hk; omega
    · simp [Value.ownBlock] at hk
    · rw [List.getElem?_singleton] at hi
      split at hi <;> simp at hi
theorem rnew_none (n : Int) (h0 : n < 0 ∨ 16777216 < n) : Calls Try.prog 8 #[.int .i64 n] w fun e w' => e = .returned (.pointer none) ∧ w' = w := by
  by_cases h : n < 0
  · go_enter Try.func8, Try.ntmps8
    go_wp2
    go_ret
    exact ⟨rfl, rfl⟩
  · have h' : 16777216 < n := by omega
    clear h0
    go_enter Try.func8, Try.ntmps8
    go_wp2
    go_ret
    exact ⟨rfl, rfl⟩
end
end Go.Proofs.Ytaoabjcbolncoaa
