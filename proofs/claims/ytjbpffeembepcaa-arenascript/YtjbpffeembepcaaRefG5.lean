/- What is written over; two lists of handles; the document's Handles and New. -/
import Derived.Test.YtjbpffeembepcaaRefF5
namespace Go.Proofs.Ytjbpffeembepcaa
open Go.RowKit
set_option linter.unusedVariables false
set_option linter.unusedSimpArgs false

theorem grown_alloc {w w' : World} {o : Obj} {row : Option Nat} (h : (w.alloc o).grownBy w' row) : w.grownBy w' row :=
  ⟨h.os, h.tape, h.output, by have := h.size; simp at this; omega, fun k hk hr => (h.block k (by simp; omega) hr).trans (Below.heap_alloc w o k hk)⟩
theorem grown_trans {a b c : World} {row : Option Nat} (h : a.grownBy b row) (k : b.grownBy c row) : a.grownBy c row :=
  ⟨k.os.trans h.os, k.tape.trans h.tape, k.output.trans h.output, Nat.le_trans h.size k.size, fun j hj hr => (k.block j (by have := h.size; omega) hr).trans (h.block j hj hr)⟩

set_option maxHeartbeats 1000000 in
theorem over_words (a : Option Addr) (n cap base : Nat) (ws : List Int) (w : World) (hl : ws.length = n) (ho : w.ownsRow base 32 1 (.slice a n cap) n (u64s ws)) (hn : n ≤ 1000000) (hbase : base ≤ w.heap.size) :
    Calls Try.prog 12 #[.slice a n cap] w fun e w' => e = .returned (.tuple #[]) ∧ w.grownBy w' (Value.slice a n cap).ownBlock := by
  have O := hide ho
  have HL := hide hl
  clear ho hl
  go_enter Try.func12, Try.ntmps12
  go_wp2_with fail
  go_loopw [2] (fun v wr => ∃ (k : Nat) (ys : List Int), v = .int .i64 k ∧ k ≤ n ∧ ys.length = n ∧ wr.ownsRow base 32 1 (.slice a n cap) n (u64s ys) ∧ w.grownBy wr (Value.slice a n cap).ownBlock) (fun v _ => n - (intOf v).toNat)
  case atStart => exact ⟨0, ws, rfl, by omega, HL.out, O.out, ⟨rfl, rfl, rfl, Nat.le_refl _, fun _ _ _ => rfl⟩⟩
  case round =>
    obtain ⟨k, ys, rfl, hk, hyl, hy, hgr⟩ := hrel
    have Y := hide hy
    have G := hide hgr
    have YL := hide hyl
    clear hy hgr hyl
    by_cases hkn : k < n
    · obtain ⟨q, cq, e⟩ := owns_slice Y.out (by omega)
      simp only [Value.slice.injEq] at e
      obtain ⟨rfl, -, rfl⟩ := e
      have hc := (Y.out.cellAt k (by omega)).trans (u64s_get ys k (by rw [YL.out]; exact hkn))
      have hf := Y.out.frozenAt k
      have hst := hide (Y.out.stored k (.int .u64 999))
      go_wp2
      go_roundw
      case rel =>
        refine ⟨k + 1, ys.set k 999, by go_num, by omega, by rw [List.length_set]; exact YL.out, ?_, grown_trans G.out hst.out.2⟩
        rw [← u64s_set]
        exact hst.out.1
      case measure => simp [intOf]; omega
    · obtain rfl : k = n := by omega
      have hb2 : base ≤ wr.heap.size := by have := G.out.size; omega
      obtain ⟨a', cap', w', r, o', g', b'⟩ := append_u64 wr base (.slice a k cap) ys 999 (by rw [YL.out]; exact Y.out) (by rw [YL.out]; omega) hb2
      have G' := hide (grown_alloc g')
      clear o' g' b' hb2
      go_wp2_with (at_builtin; refine wpList_append_run rfl _ _ _ _ rfl _ _ _ _ rfl rfl r ?_)
      go_end0
      exact ⟨rfl, grown_trans G.out G'.out⟩

set_option maxHeartbeats 400000 in
theorem same_handles (a b : Option Addr) (n ca cb ba bb : Nat) (xs : List Nat) (w : World) (hl : xs.length = n) (hx : n ≤ 2000000) (ha : w.ownsRow ba 28 1 (.slice a n ca) n (u32s xs)) (hb : w.ownsRow bb 28 1 (.slice b n cb) n (u32s xs)) :
    Calls Try.prog 24 #[.slice a n ca, .slice b n cb] w fun e w' => e = .returned (.bool true) ∧ Still w w' := by
  have A := hide ha
  have B := hide hb
  have HL := hide hl
  clear ha hb hl
  go_enter Try.func24, Try.ntmps24
  go_wp2
  go_loopw [5] (fun v wr => ∃ k q : Nat, v = .int .i64 k ∧ k ≤ n ∧ wr = w.drewN q) (fun v _ => n - (intOf v).toNat)
  case atStart => exact ⟨0, 0, rfl, by omega, rfl⟩
  case round =>
    obtain ⟨k, q, rfl, hk1, hwr⟩ := hrel
    have HW : Hid (wr = w.drewN q) := hwr
    by_cases h1 : k < n
    · obtain ⟨ga, c1, e⟩ := owns_slice A.out (by omega)
      simp only [Value.slice.injEq] at e
      obtain ⟨rfl, -, rfl⟩ := e
      obtain ⟨gb, c2, e⟩ := owns_slice B.out (by omega)
      simp only [Value.slice.injEq] at e
      obtain ⟨rfl, -, rfl⟩ := e
      have c1 : wr.cell? ⟨ga, k, none⟩ = some (.int .u32 ((xs.getD k 0 : Nat) : Int)) := by rw [hwr]; exact (A.out.cellAt k (by omega)).trans (u32s_get xs k (by rw [HL.out]; exact h1))
      have c2 : wr.cell? ⟨gb, k, none⟩ = some (.int .u32 ((xs.getD k 0 : Nat) : Int)) := by rw [hwr]; exact (B.out.cellAt k (by omega)).trans (u32s_get xs k (by rw [HL.out]; exact h1))
      clear hwr
      generalize ((xs.getD k 0 : Nat) : Int) = x at *
      have h4 : (x != x) = false := by simp
      go_wp2
      go_quiet (fail)
      go_wp2
      go_roundw
      case rel => exact ⟨k + 1, q + nq, by go_num, by omega, by rw [HW.out]; simp⟩
      case measure => simp [intOf]; omega
    · obtain rfl : k = n := by omega
      clear hwr
      go_wp2
      go_ret
      exact ⟨rfl, q, HW.out⟩

theorem rnew_none {w : World} (n : Int) (h0 : n < 0 ∨ 1048576 < n) : Calls Try.prog 10 #[.int .i64 n] w fun e w' => e = .returned (.pointer none) ∧ w' = w := by
  by_cases h1 : n < 0
  · go_enter Try.func10, Try.ntmps10
    go_wp2
    go_ret
    exact ⟨rfl, rfl⟩
  · have h2 : 1048576 < n := by omega
    clear h0
    go_enter Try.func10, Try.ntmps10
    go_wp2
    go_ret
    exact ⟨rfl, rfl⟩
theorem rnew_any {w : World} (n : Int) (h0 : 0 ≤ n) (h1 : n ≤ 1048576) : Calls Try.prog 10 #[.int .i64 n] w fun e w' => e = .returned (.pointer (some ⟨w.heap.size + 1, 0, none⟩)) ∧ Rf (fun k => k < w.heap.size) w' (w.heap.size + 1) n [] [] ∧ Below w.heap.size w w' := by
  have b0 := Blk.new w 45 [.slice none 0 0, .bool false] #[.slice none 0 0, .bool false] rfl
  have b1 := Blk.new (w.alloc (.cells #[.slice none 0 0, .bool false] 45)) 49 [.slice (some ⟨w.heap.size, 0, none⟩) 1 1, .slice none 0 0, .int .i64 n] #[.slice (some ⟨w.heap.size, 0, none⟩) 1 1, .slice none 0 0, .int .i64 n] rfl
  simp only [World.size_alloc] at b1
  have b0' := b0.alloc (.cells #[.slice (some ⟨w.heap.size, 0, none⟩) 1 1, .slice none 0 0, .int .i64 n] 49)
  have R : Hid (Rf (fun k => k < w.heap.size) ((w.alloc (.cells #[.slice none 0 0, .bool false] 45)).alloc (.cells #[.slice (some ⟨w.heap.size, 0, none⟩) 1 1, .slice none 0 0, .int .i64 n] 49)) (w.heap.size + 1) n [] []) := by
    refine ⟨[none], rfl, ⟨fun k hk => by simp; omega, .slice (some ⟨w.heap.size, 0, none⟩) 1 1, .slice none 0 0, ⟨b1, ⟨rfl, .inr ⟨w.heap.size, 1, _, rfl, Nat.zero_le _, b0', Nat.le_refl _, by unfold maxLen; omega, rfl, rfl⟩⟩, World.ownsRow_nil _ _ _ _, ?_, ?_⟩, ?_⟩, ?_⟩
    · intro i v ws hi
      rw [List.getElem?_singleton] at hi
      split at hi <;> simp at hi
    · intro i j q v v' ws ws' hi
      rw [List.getElem?_singleton] at hi
      split at hi <;> simp at hi
    · rintro k (hk | hk | hk | ⟨i, v, ws, hi, _⟩)
      · omega
      · simp [Value.ownBlock] at hk; omega
      · simp [Value.ownBlock] at hk
      · rw [List.getElem?_singleton] at hi
        split at hi <;> simp at hi
    · exact ⟨by simpa using h0, h1, rfl, by simp, by simp⟩
  have F : Hid (Below w.heap.size w ((w.alloc (.cells #[.slice none 0 0, .bool false] 45)).alloc (.cells #[.slice (some ⟨w.heap.size, 0, none⟩) 1 1, .slice none 0 0, .int .i64 n] 49))) := ((Below.refl _ _).alloc (Nat.le_refl _) _).alloc (by simp) _
  have h2 : ¬ (1048576 < n) := by omega
  have h3 : ¬ (n < 0) := by omega
  clear b0 b1 b0'
  go_enter Try.func10, Try.ntmps10
  go_wp2
  go_ret
  exact ⟨rfl, R.out, F.out⟩
end Go.Proofs.Ytjbpffeembepcaa
