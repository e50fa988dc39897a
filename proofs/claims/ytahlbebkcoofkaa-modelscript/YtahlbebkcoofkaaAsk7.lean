/- bramblelaw7.asked: every question of a key. -/
import Derived.Test.YtahlbebkcoofkaaAsA7
import Derived.Deep.RegionHeld3
namespace Go.Proofs.Ytahlbebkcoofkaa
open Go.RowKit Go.Sort
set_option linter.unusedVariables false
set_option linter.unusedSimpArgs false
set_option maxRecDepth 20000

theorem sel_mem {i : Int} {ps : List KV} {p : KV} (h : selM i ps = some p) : p ∈ ps := by
  unfold selM at h
  split at h
  · simp at h
  · exact List.mem_of_getElem? h
theorem long_mem {k : List Int} {ps : List KV} {p : KV} (h : longM k ps = some p) : p ∈ ps :=
  (List.mem_filter.1 (List.mem_of_getLast? h)).1
theorem key_le {ps : List KV} (hl : ∀ p ∈ ps, p.1.length ≤ 65535) {o : Option KV} (h : ∀ p, o = some p → p ∈ ps) : (keyO o).length ≤ 1000000 := by
  cases o with
  | none => simp [keyO]
  | some p => have := hl p (h p rfl); show p.1.length ≤ _; omega
theorem md_keys {g : Nat} {ps : List KV} {K : Nat → Prop} {w : World} (h : Md g ps K w) : (∀ p ∈ ps, p.1.length ≤ 65535) ∧ ps.length ≤ 1000000 := by
  obtain ⟨F, v, es, h⟩ := h
  refine ⟨fun p hp => ?_, by rw [← h.kv, List.length_map]; exact h.ln⟩
  rw [← h.kv] at hp
  obtain ⟨e, he, rfl⟩ := List.mem_map.1 hp
  exact (h.ks e he).2.1
/-- The header of the document's list. -/
theorem rf_head {g : Nat} {ps : List KV} {K : Nat → Prop} {w : World} (h : Rf.Md g ps K w) : ∃ a c, w.cell? ⟨g, 0, none⟩ = some (.slice a ps.length c) := by
  obtain ⟨F, v, es, h⟩ := h
  obtain ⟨a, c, rfl⟩ := owns_slice' h.row
  have d0 := h.hd.cell 0
  simp only [List.getElem?_cons_zero] at d0
  have : es.length = ps.length := by rw [← h.kv, List.length_map]
  rw [this] at d0
  exact ⟨a, c, d0⟩

section
variable {gm gw : Nat} {Q : List KV} {K : Nat → Prop} {w : World}
set_option maxHeartbeats 6400000 in
theorem asked_any (h : Both (Md gm Q) (Rf.Md gw Q) K w) (ka : Option Addr) (kc : Nat) (k : List Int) (hk : Rd w ka k) (hkl : k.length ≤ 40) (n : Int) (hn1 : -9223372036854775808 ≤ n) (hn2 : n ≤ 9223372036854775807) :
    Calls Try.prog 21 #[.pointer (some ⟨gm, 0, none⟩), .pointer (some ⟨gw, 0, none⟩), .slice ka k.length kc, .int .i64 n] w fun e w' => e = .returned (.bool true) ∧ Both (Md gm Q) (Rf.Md gw Q) K w' ∧ Below w.heap.size w w' := by
  have HB := hide h
  have HK := hide hk
  have HKB := hide hk.1
  have HMQ : Hid ((∀ p ∈ Q, p.1.length ≤ 65535) ∧ Q.length ≤ 1000000) := by obtain ⟨K1, _, a, _⟩ := h.left; exact md_keys a
  have HL := hide (lend_any ka k kc w hk (by omega))
  clear h hk
  go_enter Try.func21, Try.ntmps21
  go_wp2_with fail
  refine HL.out.mono ?_
  rintro r w1 ⟨rfl, b1, f1⟩
  have S1 : Hid (SA gm gw Q K w w.heap.size k w1) := ⟨(Both.lies _ _).below HB.out f1, f1, b1, Nat.le_refl _⟩
  clear b1 f1 HL HB
  obtain ⟨gin, hgin⟩ : ∃ gin, gin = w.heap.size := ⟨_, rfl⟩
  rw [← hgin] at S1
  rw [← hgin]
  have HG := hide hgin
  have hg1 : Hid (gin < w1.heap.size) := S1.out.i.lt
  clear hgin
  obtain ⟨q0, hq0⟩ : ∃ q, keyO (floorM k Q) = q := ⟨_, rfl⟩
  obtain ⟨u0, hu0⟩ : ∃ q, valO (floorM k Q) = q := ⟨_, rfl⟩
  obtain ⟨t0, ht0⟩ : ∃ q, (floorM k Q).isSome = q := ⟨_, rfl⟩
  obtain ⟨q2, hq2⟩ : ∃ q, keyO (ceilM k Q) = q := ⟨_, rfl⟩
  obtain ⟨u2, hu2⟩ : ∃ q, valO (ceilM k Q) = q := ⟨_, rfl⟩
  obtain ⟨t2, ht2⟩ : ∃ q, (ceilM k Q).isSome = q := ⟨_, rfl⟩
  obtain ⟨q4, hq4⟩ : ∃ q, keyO (longM k Q) = q := ⟨_, rfl⟩
  obtain ⟨u4, hu4⟩ : ∃ q, valO (longM k Q) = q := ⟨_, rfl⟩
  obtain ⟨t4, ht4⟩ : ∃ q, (longM k Q).isSome = q := ⟨_, rfl⟩
  obtain ⟨q6, hq6⟩ : ∃ q, keyO (selM n Q) = q := ⟨_, rfl⟩
  obtain ⟨u6, hu6⟩ : ∃ q, valO (selM n Q) = q := ⟨_, rfl⟩
  obtain ⟨t6, ht6⟩ : ∃ q, (selM n Q).isSome = q := ⟨_, rfl⟩
  have hl0 : Hid (q0.length ≤ 1000000) := by rw [← hq0]; exact key_le HMQ.out.1 (fun p h => sel_mem h)
  have hl2 : Hid (q2.length ≤ 1000000) := by rw [← hq2]; exact key_le HMQ.out.1 (fun p h => sel_mem h)
  have hl4 : Hid (q4.length ≤ 1000000) := by rw [← hq4]; exact key_le HMQ.out.1 (fun p h => long_mem h)
  have hl6 : Hid (q6.length ≤ 1000000) := by rw [← hq6]; exact key_le HMQ.out.1 (fun p h => sel_mem h)
  have Hq0 := hide hq0
  clear hq0
  have Hu0 := hide hu0
  clear hu0
  have Ht0 := hide ht0
  clear ht0
  have Hq2 := hide hq2
  clear hq2
  have Hu2 := hide hu2
  clear hu2
  have Ht2 := hide ht2
  clear ht2
  have Hq4 := hide hq4
  clear hq4
  have Hu4 := hide hu4
  clear hu4
  have Ht4 := hide ht4
  clear ht4
  have Hq6 := hide hq6
  clear hq6
  have Hu6 := hide hu6
  clear hu6
  have Ht6 := hide ht6
  clear ht6
  obtain ⟨K0, a0⟩ := S1.out.md
  have RI := lent_rd S1.out.i HKB.out (by omega)
  have RK := HK.out.below S1.out.f (Nat.le_refl _)
  have P := hide (floor_any (some ⟨gin, 0, none⟩) (k.length + 3) k _ a0 RI)
  clear a0 RI RK K0
  go_wp2_with fail
  refine P.out.mono ?_
  intro r y2 ha
  obtain ⟨a0, c0, rfl, i0, f2⟩ := ans_let ha Hq0.out Hu0.out Ht0.out
  obtain ⟨g0, hg0⟩ : ∃ g, g = y2.heap.size := ⟨_, rfl⟩
  obtain ⟨w2, hw2⟩ : ∃ w', w' = y2.alloc (.cells #[.slice a0 q0.length c0, .int .u64 u0] 54 (0, 0)) := ⟨_, rfl⟩
  have e2 : Below y2.heap.size y2 w2 := by rw [hw2]; exact (Below.refl _ _).alloc (Nat.le_refl _) _
  have F2 := hide (f2.trans (e2.mono f2.size))
  have I0 := hide (i0.below e2)
  have X0 : Hid (Blk w2 g0 54 [.slice a0 q0.length c0, .int .u64 u0]) := by rw [hw2, hg0]; exact Blk.new _ _ _ _ rfl
  have S2 := hide (S1.out.below F2.out)
  have Y2 : Hid (w1.heap.size ≤ y2.heap.size ∧ y2.heap.size ≤ w2.heap.size) := ⟨f2.size, e2.size⟩
  have C2 := F2
  clear P ha i0 f2 e2
  obtain ⟨K0, a0⟩ := S2.out.rf
  have RI := lent_rd S2.out.i HKB.out (by omega)
  have RK := HK.out.below S2.out.f (Nat.le_refl _)
  have P := hide (Rf.floor_any ka kc k _ a0 RK)
  clear a0 RI RK K0
  go_wp2_with fail
  rw [← hw2]
  rw [← hg0]
  clear hw2 hg0
  refine P.out.mono ?_
  intro r y3 ha
  obtain ⟨a1, c1, rfl, i1, f3⟩ := ans_let ha Hq0.out Hu0.out Ht0.out
  obtain ⟨g1, hg1⟩ : ∃ g, g = y3.heap.size := ⟨_, rfl⟩
  obtain ⟨w3, hw3⟩ : ∃ w', w' = y3.alloc (.cells #[.slice a1 q0.length c1, .int .u64 u0] 54 (0, 0)) := ⟨_, rfl⟩
  have e3 : Below y3.heap.size y3 w3 := by rw [hw3]; exact (Below.refl _ _).alloc (Nat.le_refl _) _
  have F3 := hide (f3.trans (e3.mono f3.size))
  have I1 := hide (i1.below e3)
  have X1 : Hid (Blk w3 g1 54 [.slice a1 q0.length c1, .int .u64 u0]) := by rw [hw3, hg1]; exact Blk.new _ _ _ _ rfl
  have S3 := hide (S2.out.below F3.out)
  have Y3 : Hid (w2.heap.size ≤ y3.heap.size ∧ y3.heap.size ≤ w3.heap.size) := ⟨f3.size, e3.size⟩
  have C3 := hide (C2.out.trans (F3.out.mono C2.out.size))
  replace I0 := hide (I0.out.below F3.out)
  replace X0 := hide (X0.out.below F3.out X0.out.lt)
  clear P ha i1 f3 e3
  obtain ⟨K0, a0⟩ := S3.out.md
  have RI := lent_rd S3.out.i HKB.out (by omega)
  have RK := HK.out.below S3.out.f (Nat.le_refl _)
  have P := hide (ceil_any (some ⟨gin, 0, none⟩) (k.length + 3) k _ a0 RI)
  clear a0 RI RK K0
  go_wp2_with fail
  rw [← hw3]
  rw [← hg1]
  clear hw3 hg1
  refine P.out.mono ?_
  intro r y4 ha
  obtain ⟨a2, c2, rfl, i2, f4⟩ := ans_let ha Hq2.out Hu2.out Ht2.out
  obtain ⟨g2, hg2⟩ : ∃ g, g = y4.heap.size := ⟨_, rfl⟩
  obtain ⟨w4, hw4⟩ : ∃ w', w' = y4.alloc (.cells #[.slice a2 q2.length c2, .int .u64 u2] 54 (0, 0)) := ⟨_, rfl⟩
  have e4 : Below y4.heap.size y4 w4 := by rw [hw4]; exact (Below.refl _ _).alloc (Nat.le_refl _) _
  have F4 := hide (f4.trans (e4.mono f4.size))
  have I2 := hide (i2.below e4)
  have X2 : Hid (Blk w4 g2 54 [.slice a2 q2.length c2, .int .u64 u2]) := by rw [hw4, hg2]; exact Blk.new _ _ _ _ rfl
  have S4 := hide (S3.out.below F4.out)
  have Y4 : Hid (w3.heap.size ≤ y4.heap.size ∧ y4.heap.size ≤ w4.heap.size) := ⟨f4.size, e4.size⟩
  have C4 := hide (C3.out.trans (F4.out.mono C3.out.size))
  replace I0 := hide (I0.out.below F4.out)
  replace X0 := hide (X0.out.below F4.out X0.out.lt)
  replace I1 := hide (I1.out.below F4.out)
  replace X1 := hide (X1.out.below F4.out X1.out.lt)
  clear P ha i2 f4 e4
  obtain ⟨K0, a0⟩ := S4.out.rf
  have RI := lent_rd S4.out.i HKB.out (by omega)
  have RK := HK.out.below S4.out.f (Nat.le_refl _)
  have P := hide (Rf.ceil_any ka kc k _ a0 RK)
  clear a0 RI RK K0
  go_wp2_with fail
  rw [← hw4]
  rw [← hg2]
  clear hw4 hg2
  refine P.out.mono ?_
  intro r y5 ha
  obtain ⟨a3, c3, rfl, i3, f5⟩ := ans_let ha Hq2.out Hu2.out Ht2.out
  obtain ⟨g3, hg3⟩ : ∃ g, g = y5.heap.size := ⟨_, rfl⟩
  obtain ⟨w5, hw5⟩ : ∃ w', w' = y5.alloc (.cells #[.slice a3 q2.length c3, .int .u64 u2] 54 (0, 0)) := ⟨_, rfl⟩
  have e5 : Below y5.heap.size y5 w5 := by rw [hw5]; exact (Below.refl _ _).alloc (Nat.le_refl _) _
  have F5 := hide (f5.trans (e5.mono f5.size))
  have I3 := hide (i3.below e5)
  have X3 : Hid (Blk w5 g3 54 [.slice a3 q2.length c3, .int .u64 u2]) := by rw [hw5, hg3]; exact Blk.new _ _ _ _ rfl
  have S5 := hide (S4.out.below F5.out)
  have Y5 : Hid (w4.heap.size ≤ y5.heap.size ∧ y5.heap.size ≤ w5.heap.size) := ⟨f5.size, e5.size⟩
  have C5 := hide (C4.out.trans (F5.out.mono C4.out.size))
  replace I0 := hide (I0.out.below F5.out)
  replace X0 := hide (X0.out.below F5.out X0.out.lt)
  replace I1 := hide (I1.out.below F5.out)
  replace X1 := hide (X1.out.below F5.out X1.out.lt)
  replace I2 := hide (I2.out.below F5.out)
  replace X2 := hide (X2.out.below F5.out X2.out.lt)
  clear P ha i3 f5 e5
  obtain ⟨K0, a0⟩ := S5.out.md
  have RI := lent_rd S5.out.i HKB.out (by omega)
  have RK := HK.out.below S5.out.f (Nat.le_refl _)
  have P := hide (longest_any (some ⟨gin, 0, none⟩) (k.length + 3) k _ a0 RI (by omega))
  clear a0 RI RK K0
  go_wp2_with fail
  rw [← hw5]
  rw [← hg3]
  clear hw5 hg3
  refine P.out.mono ?_
  intro r y6 ha
  obtain ⟨a4, c4, rfl, i4, f6⟩ := ans_let ha Hq4.out Hu4.out Ht4.out
  obtain ⟨g4, hg4⟩ : ∃ g, g = y6.heap.size := ⟨_, rfl⟩
  obtain ⟨w6, hw6⟩ : ∃ w', w' = y6.alloc (.cells #[.slice a4 q4.length c4, .int .u64 u4] 54 (0, 0)) := ⟨_, rfl⟩
  have e6 : Below y6.heap.size y6 w6 := by rw [hw6]; exact (Below.refl _ _).alloc (Nat.le_refl _) _
  have F6 := hide (f6.trans (e6.mono f6.size))
  have I4 := hide (i4.below e6)
  have X4 : Hid (Blk w6 g4 54 [.slice a4 q4.length c4, .int .u64 u4]) := by rw [hw6, hg4]; exact Blk.new _ _ _ _ rfl
  have S6 := hide (S5.out.below F6.out)
  have Y6 : Hid (w5.heap.size ≤ y6.heap.size ∧ y6.heap.size ≤ w6.heap.size) := ⟨f6.size, e6.size⟩
  have C6 := hide (C5.out.trans (F6.out.mono C5.out.size))
  replace I0 := hide (I0.out.below F6.out)
  replace X0 := hide (X0.out.below F6.out X0.out.lt)
  replace I1 := hide (I1.out.below F6.out)
  replace X1 := hide (X1.out.below F6.out X1.out.lt)
  replace I2 := hide (I2.out.below F6.out)
  replace X2 := hide (X2.out.below F6.out X2.out.lt)
  replace I3 := hide (I3.out.below F6.out)
  replace X3 := hide (X3.out.below F6.out X3.out.lt)
  clear P ha i4 f6 e6
  obtain ⟨K0, a0⟩ := S6.out.rf
  have RI := lent_rd S6.out.i HKB.out (by omega)
  have RK := HK.out.below S6.out.f (Nat.le_refl _)
  have P := hide (Rf.longest_any ka kc k _ a0 RK)
  clear a0 RI RK K0
  go_wp2_with fail
  rw [← hw6]
  rw [← hg4]
  clear hw6 hg4
  refine P.out.mono ?_
  intro r y7 ha
  obtain ⟨a5, c5, rfl, i5, f7⟩ := ans_let ha Hq4.out Hu4.out Ht4.out
  obtain ⟨g5, hg5⟩ : ∃ g, g = y7.heap.size := ⟨_, rfl⟩
  obtain ⟨w7, hw7⟩ : ∃ w', w' = y7.alloc (.cells #[.slice a5 q4.length c5, .int .u64 u4] 54 (0, 0)) := ⟨_, rfl⟩
  have e7 : Below y7.heap.size y7 w7 := by rw [hw7]; exact (Below.refl _ _).alloc (Nat.le_refl _) _
  have F7 := hide (f7.trans (e7.mono f7.size))
  have I5 := hide (i5.below e7)
  have X5 : Hid (Blk w7 g5 54 [.slice a5 q4.length c5, .int .u64 u4]) := by rw [hw7, hg5]; exact Blk.new _ _ _ _ rfl
  have S7 := hide (S6.out.below F7.out)
  have Y7 : Hid (w6.heap.size ≤ y7.heap.size ∧ y7.heap.size ≤ w7.heap.size) := ⟨f7.size, e7.size⟩
  have C7 := hide (C6.out.trans (F7.out.mono C6.out.size))
  replace I0 := hide (I0.out.below F7.out)
  replace X0 := hide (X0.out.below F7.out X0.out.lt)
  replace I1 := hide (I1.out.below F7.out)
  replace X1 := hide (X1.out.below F7.out X1.out.lt)
  replace I2 := hide (I2.out.below F7.out)
  replace X2 := hide (X2.out.below F7.out X2.out.lt)
  replace I3 := hide (I3.out.below F7.out)
  replace X3 := hide (X3.out.below F7.out X3.out.lt)
  replace I4 := hide (I4.out.below F7.out)
  replace X4 := hide (X4.out.below F7.out X4.out.lt)
  clear P ha i5 f7 e7
  obtain ⟨K0, a0⟩ := S7.out.md
  have RI := lent_rd S7.out.i HKB.out (by omega)
  have RK := HK.out.below S7.out.f (Nat.le_refl _)
  have P := hide (select_any n _ a0 hn1 hn2)
  clear a0 RI RK K0
  go_wp2_with fail
  rw [← hw7]
  rw [← hg5]
  clear hw7 hg5
  refine P.out.mono ?_
  intro r y8 ha
  obtain ⟨a6, c6, rfl, i6, f8⟩ := ans_let ha Hq6.out Hu6.out Ht6.out
  obtain ⟨g6, hg6⟩ : ∃ g, g = y8.heap.size := ⟨_, rfl⟩
  obtain ⟨w8, hw8⟩ : ∃ w', w' = y8.alloc (.cells #[.slice a6 q6.length c6, .int .u64 u6] 54 (0, 0)) := ⟨_, rfl⟩
  have e8 : Below y8.heap.size y8 w8 := by rw [hw8]; exact (Below.refl _ _).alloc (Nat.le_refl _) _
  have F8 := hide (f8.trans (e8.mono f8.size))
  have I6 := hide (i6.below e8)
  have X6 : Hid (Blk w8 g6 54 [.slice a6 q6.length c6, .int .u64 u6]) := by rw [hw8, hg6]; exact Blk.new _ _ _ _ rfl
  have S8 := hide (S7.out.below F8.out)
  have Y8 : Hid (w7.heap.size ≤ y8.heap.size ∧ y8.heap.size ≤ w8.heap.size) := ⟨f8.size, e8.size⟩
  have C8 := hide (C7.out.trans (F8.out.mono C7.out.size))
  replace I0 := hide (I0.out.below F8.out)
  replace X0 := hide (X0.out.below F8.out X0.out.lt)
  replace I1 := hide (I1.out.below F8.out)
  replace X1 := hide (X1.out.below F8.out X1.out.lt)
  replace I2 := hide (I2.out.below F8.out)
  replace X2 := hide (X2.out.below F8.out X2.out.lt)
  replace I3 := hide (I3.out.below F8.out)
  replace X3 := hide (X3.out.below F8.out X3.out.lt)
  replace I4 := hide (I4.out.below F8.out)
  replace X4 := hide (X4.out.below F8.out X4.out.lt)
  replace I5 := hide (I5.out.below F8.out)
  replace X5 := hide (X5.out.below F8.out X5.out.lt)
  clear P ha i6 f8 e8
  obtain ⟨K0, a0⟩ := S8.out.rf
  have RI := lent_rd S8.out.i HKB.out (by omega)
  have RK := HK.out.below S8.out.f (Nat.le_refl _)
  have P := hide (Rf.select_any n _ a0 hn1 hn2)
  clear a0 RI RK K0
  go_wp2_with fail
  rw [← hw8]
  rw [← hg6]
  clear hw8 hg6
  refine P.out.mono ?_
  intro r y9 ha
  obtain ⟨a7, c7, rfl, i7, f9⟩ := ans_let ha Hq6.out Hu6.out Ht6.out
  obtain ⟨g7, hg7⟩ : ∃ g, g = y9.heap.size := ⟨_, rfl⟩
  obtain ⟨w9, hw9⟩ : ∃ w', w' = y9.alloc (.cells #[.slice a7 q6.length c7, .int .u64 u6] 54 (0, 0)) := ⟨_, rfl⟩
  have e9 : Below y9.heap.size y9 w9 := by rw [hw9]; exact (Below.refl _ _).alloc (Nat.le_refl _) _
  have F9 := hide (f9.trans (e9.mono f9.size))
  have I7 := hide (i7.below e9)
  have X7 : Hid (Blk w9 g7 54 [.slice a7 q6.length c7, .int .u64 u6]) := by rw [hw9, hg7]; exact Blk.new _ _ _ _ rfl
  have S9 := hide (S8.out.below F9.out)
  have Y9 : Hid (w8.heap.size ≤ y9.heap.size ∧ y9.heap.size ≤ w9.heap.size) := ⟨f9.size, e9.size⟩
  have C9 := hide (C8.out.trans (F9.out.mono C8.out.size))
  replace I0 := hide (I0.out.below F9.out)
  replace X0 := hide (X0.out.below F9.out X0.out.lt)
  replace I1 := hide (I1.out.below F9.out)
  replace X1 := hide (X1.out.below F9.out X1.out.lt)
  replace I2 := hide (I2.out.below F9.out)
  replace X2 := hide (X2.out.below F9.out X2.out.lt)
  replace I3 := hide (I3.out.below F9.out)
  replace X3 := hide (X3.out.below F9.out X3.out.lt)
  replace I4 := hide (I4.out.below F9.out)
  replace X4 := hide (X4.out.below F9.out X4.out.lt)
  replace I5 := hide (I5.out.below F9.out)
  replace X5 := hide (X5.out.below F9.out X5.out.lt)
  replace I6 := hide (I6.out.below F9.out)
  replace X6 := hide (X6.out.below F9.out X6.out.lt)
  clear P ha i7 f9 e9
  obtain ⟨K0, a0⟩ := S9.out.md
  have RI := lent_rd S9.out.i HKB.out (by omega)
  have RK := HK.out.below S9.out.f (Nat.le_refl _)
  have P := hide (get_any (some ⟨gin, 0, none⟩) (k.length + 3) k _ a0 RI)
  clear a0 RI RK K0
  go_wp2_with fail
  rw [← hw9]
  rw [← hg7]
  clear hw9 hg7
  refine P.out.mono ?_
  rintro r w10 ⟨rfl, f10⟩
  have S10 := hide (S9.out.below f10)
  have F10 := hide f10
  have C10 := hide (C9.out.trans (F10.out.mono C9.out.size))
  replace I0 := hide (I0.out.below F10.out)
  replace X0 := hide (X0.out.below F10.out X0.out.lt)
  replace I1 := hide (I1.out.below F10.out)
  replace X1 := hide (X1.out.below F10.out X1.out.lt)
  replace I2 := hide (I2.out.below F10.out)
  replace X2 := hide (X2.out.below F10.out X2.out.lt)
  replace I3 := hide (I3.out.below F10.out)
  replace X3 := hide (X3.out.below F10.out X3.out.lt)
  replace I4 := hide (I4.out.below F10.out)
  replace X4 := hide (X4.out.below F10.out X4.out.lt)
  replace I5 := hide (I5.out.below F10.out)
  replace X5 := hide (X5.out.below F10.out X5.out.lt)
  replace I6 := hide (I6.out.below F10.out)
  replace X6 := hide (X6.out.below F10.out X6.out.lt)
  replace I7 := hide (I7.out.below F10.out)
  replace X7 := hide (X7.out.below F10.out X7.out.lt)
  clear P f10
  obtain ⟨K0, a0⟩ := S10.out.rf
  have RI := lent_rd S10.out.i HKB.out (by omega)
  have RK := HK.out.below S10.out.f (Nat.le_refl _)
  have P := hide (Rf.get_any ka kc k _ a0 RK)
  clear a0 RI RK K0
  go_wp2_with fail
  refine P.out.mono ?_
  rintro r w11 ⟨rfl, f11⟩
  have S11 := hide (S10.out.below f11)
  have F11 := hide f11
  have C11 := hide (C10.out.trans (F11.out.mono C10.out.size))
  replace I0 := hide (I0.out.below F11.out)
  replace X0 := hide (X0.out.below F11.out X0.out.lt)
  replace I1 := hide (I1.out.below F11.out)
  replace X1 := hide (X1.out.below F11.out X1.out.lt)
  replace I2 := hide (I2.out.below F11.out)
  replace X2 := hide (X2.out.below F11.out X2.out.lt)
  replace I3 := hide (I3.out.below F11.out)
  replace X3 := hide (X3.out.below F11.out X3.out.lt)
  replace I4 := hide (I4.out.below F11.out)
  replace X4 := hide (X4.out.below F11.out X4.out.lt)
  replace I5 := hide (I5.out.below F11.out)
  replace X5 := hide (X5.out.below F11.out X5.out.lt)
  replace I6 := hide (I6.out.below F11.out)
  replace X6 := hide (X6.out.below F11.out X6.out.lt)
  replace I7 := hide (I7.out.below F11.out)
  replace X7 := hide (X7.out.below F11.out X7.out.lt)
  clear P f11
  obtain ⟨K0, a0⟩ := S11.out.md
  have RI := lent_rd S11.out.i HKB.out (by omega)
  have P := hide (from_any (some ⟨gin, 0, none⟩) (k.length + 3) k n _ a0 RI hn1 hn2)
  clear a0 RI K0
  go_wp2_with fail
  refine P.out.mono ?_
  rintro r w12 ⟨al, cl, fs, rfl, l12, kv12, f12⟩
  have S12 := hide (S11.out.below f12)
  have F12 := hide f12
  have C12 := hide (C11.out.trans (F12.out.mono C11.out.size))
  have L := hide l12
  have KV := hide kv12
  replace I0 := hide (I0.out.below F12.out)
  replace X0 := hide (X0.out.below F12.out X0.out.lt)
  replace I1 := hide (I1.out.below F12.out)
  replace X1 := hide (X1.out.below F12.out X1.out.lt)
  replace I2 := hide (I2.out.below F12.out)
  replace X2 := hide (X2.out.below F12.out X2.out.lt)
  replace I3 := hide (I3.out.below F12.out)
  replace X3 := hide (X3.out.below F12.out X3.out.lt)
  replace I4 := hide (I4.out.below F12.out)
  replace X4 := hide (X4.out.below F12.out X4.out.lt)
  replace I5 := hide (I5.out.below F12.out)
  replace X5 := hide (X5.out.below F12.out X5.out.lt)
  replace I6 := hide (I6.out.below F12.out)
  replace X6 := hide (X6.out.below F12.out X6.out.lt)
  replace I7 := hide (I7.out.below F12.out)
  replace X7 := hide (X7.out.below F12.out X7.out.lt)
  clear P f12 l12 kv12
  obtain ⟨hd, HD⟩ : ∃ hd, Hid (∃ c, hd = c) := ⟨0, 0, rfl⟩
  clear HD hd
  have RH : ∃ a c, Blk w12 gw 50 [.slice a Q.length c] := by
    obtain ⟨K1, F9, v9, es9, h9⟩ := S12.out.rf
    obtain ⟨a, c, rfl⟩ := owns_slice' h9.row
    have e9 : es9.length = Q.length := by rw [← h9.kv, List.length_map]
    have := h9.hd
    rw [e9] at this
    exact ⟨a, c, this⟩
  obtain ⟨ah, ch, hh⟩ := RH
  have SZ : Hid (w1.heap.size ≤ y2.heap.size ∧ y2.heap.size ≤ w2.heap.size ∧ w2.heap.size ≤ y3.heap.size ∧ y3.heap.size ≤ w3.heap.size ∧ w3.heap.size ≤ y4.heap.size ∧ y4.heap.size ≤ w4.heap.size ∧ w4.heap.size ≤ y5.heap.size ∧ y5.heap.size ≤ w5.heap.size ∧ w5.heap.size ≤ y6.heap.size ∧ y6.heap.size ≤ w6.heap.size ∧ w6.heap.size ≤ y7.heap.size ∧ y7.heap.size ≤ w7.heap.size ∧ w7.heap.size ≤ y8.heap.size ∧ y8.heap.size ≤ w8.heap.size ∧ w8.heap.size ≤ y9.heap.size ∧ y9.heap.size ≤ w9.heap.size ∧ w9.heap.size ≤ w10.heap.size ∧ w10.heap.size ≤ w11.heap.size ∧ w11.heap.size ≤ w12.heap.size) := ⟨Y2.out.1, Y2.out.2, Y3.out.1, Y3.out.2, Y4.out.1, Y4.out.2, Y5.out.1, Y5.out.2, Y6.out.1, Y6.out.2, Y7.out.1, Y7.out.2, Y8.out.1, Y8.out.2, Y9.out.1, Y9.out.2, F10.out.size, F11.out.size, F12.out.size⟩
  have BH : Hid (Beh w1.heap.size w12.heap.size w11.heap.size [(w1.heap.size, y2.heap.size, a0, c0, q0), (w2.heap.size, y3.heap.size, a1, c1, q0), (w3.heap.size, y4.heap.size, a2, c2, q2), (w4.heap.size, y5.heap.size, a3, c3, q2), (w5.heap.size, y6.heap.size, a4, c4, q4), (w6.heap.size, y7.heap.size, a5, c5, q4), (w7.heap.size, y8.heap.size, a6, c6, q6), (w8.heap.size, y9.heap.size, a7, c7, q6)]) := by
    have sz := SZ.out
    refine ⟨?_, ?_⟩
    · simp only [List.pairwise_cons, List.mem_cons, List.not_mem_nil, or_false, forall_eq_or_imp, forall_eq, List.Pairwise.nil, and_true, false_implies, implies_true]
      omega
    · simp only [List.mem_cons, List.not_mem_nil, or_false, forall_eq_or_imp, forall_eq]
      omega
  have R0 : Hid (SR gm gw Q K w gin k w1.heap.size w12.heap.size (.slice ah Q.length ch) [(g0, .slice a0 q0.length c0, .int .u64 u0), (g1, .slice a1 q0.length c1, .int .u64 u0), (g2, .slice a2 q2.length c2, .int .u64 u2), (g3, .slice a3 q2.length c3, .int .u64 u2), (g4, .slice a4 q4.length c4, .int .u64 u4), (g5, .slice a5 q4.length c5, .int .u64 u4), (g6, .slice a6 q6.length c6, .int .u64 u6), (g7, .slice a7 q6.length c7, .int .u64 u6)] [(w1.heap.size, y2.heap.size, a0, c0, q0), (w2.heap.size, y3.heap.size, a1, c1, q0), (w3.heap.size, y4.heap.size, a2, c2, q2), (w4.heap.size, y5.heap.size, a3, c3, q2), (w5.heap.size, y6.heap.size, a4, c4, q4), (w6.heap.size, y7.heap.size, a5, c5, q4), (w7.heap.size, y8.heap.size, a6, c6, q6), (w8.heap.size, y9.heap.size, a7, c7, q6)] w11.heap.size (.slice al fs.length cl) fs w12) := by
    have m := S1.out.more C12.out
    have sz := SZ.out
    refine ⟨m, hh, ?_, ?_, L.out, hg1.out, Nat.le_refl _⟩
    · simp only [List.mem_cons, List.not_mem_nil, or_false, forall_eq_or_imp, forall_eq]
      exact ⟨X0.out, X1.out, X2.out, X3.out, X4.out, X5.out, X6.out, X7.out⟩
    · simp only [List.mem_cons, List.not_mem_nil, or_false, forall_eq_or_imp, forall_eq]
      exact ⟨I0.out, I1.out, I2.out, I3.out, I4.out, I5.out, I6.out, I7.out⟩
  have HN := hide (lst_lt L.out)
  have HKL : Hid (∀ e ∈ fs, e.k.length ≤ 65535) := fun e he => by
    have h1 : e.kv ∈ fromM k n Q := by rw [← KV.out]; exact List.mem_map_of_mem he
    exact HMQ.out.1 _ (List.mem_of_mem_drop (List.mem_of_mem_take h1))
  have HBN : Hid (w1.heap.size ≤ w11.heap.size ∧ w11.heap.size ≤ w12.heap.size) := ⟨C11.out.size, F12.out.size⟩
  clear SZ hh HG hg1 L
  clear S2 F2 C2 S3 F3 C3 S4 F4 C4 S5 F5 C5 S6 F6 C6 S7 F7 C7 S8 F8 C8 S9 F9 C9 S10 F10 C10 S11 F11 C11 S12 F12 C12 S1 Y2 Y3 Y4 Y5 Y6 Y7 Y8 Y9 X0 I0 X1 I1 X2 I2 X3 I3 X4 I4 X5 I5 X6 I6 X7 I7 Hq0 Hq2 Hq4 Hq6 Hu0 Hu2 Hu4 Hu6 Ht0 Ht2 Ht4 Ht6
  go_wp2_with fail
  have RD := hide R0.out.drew
  have e0 := RD.out.cells8
  have BH2 := hide BH.out.tail
  have BH4 := hide BH2.out.tail
  have BH6 := hide BH4.out.tail
  have HFE : Hid (∀ es : List Ent, es.map Ent.kv = fromM k n Q → fs.map Ent.kv = es.map Ent.kv) := fun es he => KV.out.trans he.symm
  go_region_held3 (fun w' => w'.cell? ⟨gw, 0, none⟩ = some (.slice ah Q.length ch) ∧ w'.cell? ⟨g0, 0, none⟩ = some (.slice a0 q0.length c0) ∧ w'.cell? ⟨g0, 1, none⟩ = some (.int .u64 u0) ∧ w'.cell? ⟨g1, 0, none⟩ = some (.slice a1 q0.length c1) ∧ w'.cell? ⟨g1, 1, none⟩ = some (.int .u64 u0) ∧ w'.cell? ⟨g2, 0, none⟩ = some (.slice a2 q2.length c2) ∧ w'.cell? ⟨g2, 1, none⟩ = some (.int .u64 u2) ∧ w'.cell? ⟨g3, 0, none⟩ = some (.slice a3 q2.length c3) ∧ w'.cell? ⟨g3, 1, none⟩ = some (.int .u64 u2) ∧ w'.cell? ⟨g4, 0, none⟩ = some (.slice a4 q4.length c4) ∧ w'.cell? ⟨g4, 1, none⟩ = some (.int .u64 u4) ∧ w'.cell? ⟨g5, 0, none⟩ = some (.slice a5 q4.length c5) ∧ w'.cell? ⟨g5, 1, none⟩ = some (.int .u64 u4) ∧ w'.cell? ⟨g6, 0, none⟩ = some (.slice a6 q6.length c6) ∧ w'.cell? ⟨g6, 1, none⟩ = some (.int .u64 u6) ∧ w'.cell? ⟨g7, 0, none⟩ = some (.slice a7 q6.length c7) ∧ w'.cell? ⟨g7, 1, none⟩ = some (.int .u64 u6)) (first | exact e9 | exact e8 | exact e7 | exact e6 | exact e5 | exact e4 | exact e3 | exact e2 | exact e1 | exact e0)
    (first
    | (go_at_call 53; refine (R3.out.pair BH6.out hl6.out u6 t6).mono ?_; rintro r v4 ⟨rfl, s4⟩; have e4 := s4.cells8; have R4 := hide s4; clear s4)
    | (go_at_call 53; refine (R2.out.pair BH4.out hl4.out u4 t4).mono ?_; rintro r v3 ⟨rfl, s3⟩; have e3 := s3.cells8; have R3 := hide s3; clear s3)
    | (go_at_call 53; refine (R1.out.pair BH2.out hl2.out u2 t2).mono ?_; rintro r v2 ⟨rfl, s2⟩; have e2 := s2.cells8; have R2 := hide s2; clear s2)
    | (go_at_call 53; refine (RD.out.pair BH.out hl0.out u0 t0).mono ?_; rintro r v1 ⟨rfl, s1⟩; have e1 := s1.cells8; have R1 := hide s1; clear s1)
    | (go_at_call 29; refine (R4.out.rank HKB.out hkl).mono ?_; rintro r v5 ⟨rfl, s5⟩; have e5 := s5.cells8; have R5 := hide s5; clear s5)
    | (go_at_call 54; refine (R5.out.rrank HK.out).mono ?_; rintro r v6 ⟨rfl, s6⟩; have e6 := s6.cells8; have R6 := hide s6; clear s6)
    | (go_at_call 55; refine (R6.out.rfrom HK.out n hn1 hn2).mono ?_; rintro r v7 ⟨af, cf, es, rfl, rp, kf, s7⟩; have e7 := s7.cells8; have R7 := hide s7; have RP := hide rp; have KF := hide kf; clear s7 rp kf)
    | (go_at_call 24; refine (R7.out.same RP.out (HFE.out _ KF.out)).mono ?_; rintro r v8 ⟨rfl, s8⟩; have e8 := s8.cells8; have R8 := hide s8; clear s8)
    | (go_at_call 25; refine R8.out.len.mono ?_; rintro r v9 ⟨rfl, s9⟩; have e9 := s9.cells8; have R9 := hide s9; clear s9))
  have OV := hide (R9.out.over HN.out HKL.out HBN.out)
  clear e0 e1 e2 e3 e4 e5 e6 e7 e8 e9
  go_wp2_with fail
  refine OV.out.mono ?_
  rintro r v10 ⟨rfl, s10⟩
  have S10 := hide s10
  clear s10 OV
  go_wp2_with fail
  refine (S10.out.kept HK.out hkl).mono ?_
  rintro r v11 ⟨rfl, s11⟩
  have S11 := hide s11
  clear s11
  go_wp2
  go_ret
  exact ⟨rfl, S11.out.b, S11.out.f⟩
end
end Go.Proofs.Ytahlbebkcoofkaa
