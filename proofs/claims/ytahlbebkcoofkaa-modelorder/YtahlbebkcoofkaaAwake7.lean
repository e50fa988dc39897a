/- awake. -/
import Derived.Test.YtahlbebkcoofkaaHlp7
namespace Go.Proofs.Ytahlbebkcoofkaa
set_option maxRecDepth 20000
open Go.RowKit Go.Sort
set_option linter.unusedVariables false
set_option linter.unusedSimpArgs false

theorem below_alloc (w : World) (o : Obj) : Below w.heap.size w (w.alloc o) := (Below.refl _ _).alloc (Nat.le_refl _) _
/-- The two pairs that awake begins with, as they are laid. -/
theorem two_pairs (w : World) : Rp (((w.alloc (.cells #[.int .u8 97, .int .u8 98] 5 (2, 3))).alloc (.cells #[.int .u8 97] 5 (1, 2))).alloc (.cells #[.slice (some ⟨w.heap.size, 0, none⟩) 2 2, .int .u64 2, .slice (some ⟨w.heap.size + 1, 0, none⟩) 1 1, .int .u64 1] 54 (0, 0))) (some ⟨w.heap.size + 2, 0, none⟩) [⟨some ⟨w.heap.size, 0, none⟩, 2, [97, 98], 2⟩, ⟨some ⟨w.heap.size + 1, 0, none⟩, 1, [97], 1⟩] := by
  have r1 : Rd (w.alloc (.cells #[.int .u8 97, .int .u8 98] 5 (2, 3))) (some ⟨w.heap.size, 0, none⟩) [97, 98] := rd_new1 w _ _ [97, 98] _ rfl (by simp [IsBytes]) (by simp [maxLen])
  have r2 : Rd ((w.alloc (.cells #[.int .u8 97, .int .u8 98] 5 (2, 3))).alloc (.cells #[.int .u8 97] 5 (1, 2))) (some ⟨w.heap.size + 1, 0, none⟩) [97] := by
    have := rd_new1 (w.alloc (.cells #[.int .u8 97, .int .u8 98] 5 (2, 3))) 5 (1, 2) [97] #[.int .u8 97] rfl (by simp [IsBytes]) (by simp [maxLen])
    simpa using this
  refine ⟨by simp, ?_, .inr ⟨w.heap.size + 2, 0, rfl, ?_⟩⟩
  · intro e he
    simp at he
    rcases he with rfl | rfl
    · exact ⟨(r1.below (below_alloc _ _) (Nat.le_refl _)).below (below_alloc _ _) (Nat.le_refl _), by simp⟩
    · exact ⟨r2.below (below_alloc _ _) (Nat.le_refl _), by simp⟩
  · have hb : Blk (((w.alloc (.cells #[.int .u8 97, .int .u8 98] 5 (2, 3))).alloc (.cells #[.int .u8 97] 5 (1, 2))).alloc (.cells #[.slice (some ⟨w.heap.size, 0, none⟩) 2 2, .int .u64 2, .slice (some ⟨w.heap.size + 1, 0, none⟩) 1 1, .int .u64 1] 54 (0, 0))) (w.heap.size + 2) 54 [.slice (some ⟨w.heap.size, 0, none⟩) 2 2, .int .u64 2, .slice (some ⟨w.heap.size + 1, 0, none⟩) 1 1, .int .u64 1] := by
      have := Blk.new ((w.alloc (.cells #[.int .u8 97, .int .u8 98] 5 (2, 3))).alloc (.cells #[.int .u8 97] 5 (1, 2))) 54 [.slice (some ⟨w.heap.size, 0, none⟩) 2 2, .int .u64 2, .slice (some ⟨w.heap.size + 1, 0, none⟩) 1 1, .int .u64 1] _ rfl
      simpa using this
    intro i e he
    rcases i with _ | _ | i
    · simp at he; subst he; exact ⟨hb.cell 0, hb.cell 1⟩
    · simp at he; subst he; exact ⟨hb.cell 2, hb.cell 3⟩
    · simp at he

set_option maxHeartbeats 2000000 in
set_option maxRecDepth 20000 in
theorem awake_any (w : World) : Calls Try.prog 8 #[] w fun e w' => e = .returned (.bool true) ∧ Below w.heap.size w w' := by
  have kc := run_bytes_const (P := Try.prog) 24 5 Try.underlying24 Try.underlying5
  go_enter Try.func8, Try.ntmps8
  go_wp2_with fail
  refine (new_some _ _ 2 _ (two_pairs w) (by intro e he; simp at he; rcases he with rfl | rfl <;> simp)).mono ?_
  rintro r w1 ⟨g, rfl, h1, f1⟩
  have hof : ofM (List.map Ent.kv [⟨some ⟨w.heap.size, 0, none⟩, 2, [97, 98], 2⟩, ⟨some ⟨w.heap.size + 1, 0, none⟩, 1, [97], 1⟩]) = [([97], 1), ([97, 98], 2)] := by rfl
  rw [hof] at h1
  have M1 := hide h1
  have F1 : Hid (Below w.heap.size w w1) := ((below_alloc w _).trans (((below_alloc _ _).trans ((below_alloc _ _).mono (by simp))).mono (by simp))).trans (f1.mono (by simp; omega))
  clear h1 f1 hof
  go_wp2_with fail
  refine (longest_any _ 3 [97, 98, 99] _ ((Md.lies _ _).below M1.out (below_alloc _ _)) (rd_new1 w1 _ _ [97, 98, 99] _ rfl (by simp [IsBytes]) (by simp [maxLen])) (by simp)).mono ?_
  have hlo : longM [97, 98, 99] [([97], 1), ([97, 98], 2)] = some ([97, 98], 2) := by rfl
  rw [hlo]
  rintro r w2 ⟨a2, c2, rfl, o2, b2, f2⟩
  have f2' := (below_alloc w1 (.cells #[.int .u8 97, .int .u8 98, .int .u8 99] 5 (3, 4))).trans (f2.mono (by simp))
  have M2 := hide ((Md.lies _ _).below M1.out f2')
  have O2 := hide o2
  have F2 := hide (F1.out.trans (f2'.mono F1.out.size))
  clear o2 b2 f2 f2' hlo
  simp only [keyO, valO, List.length_cons, List.length_nil, Nat.zero_add, Option.isSome_some] at O2 ⊢
  have xp : Blk (w2.alloc (.cells #[.slice a2 2 c2, .int .u64 2] 54 (0, 0))) w2.heap.size 54 [.slice a2 2 c2, .int .u64 2] := Blk.new w2 _ _ _ rfl
  have fp := below_alloc w2 (.cells #[.slice a2 2 c2, .int .u64 2] 54 (0, 0))
  go_wp2_with fail
  refine (select_any 0 _ ((Md.lies _ _).below M2.out fp) (by omega) (by omega)).mono ?_
  have hse : selM 0 [([97], 1), ([97, 98], 2)] = some ([97], 1) := by rfl
  rw [hse]
  rintro r w3 ⟨a3, c3, rfl, o3, b3, f3⟩
  have f3' := fp.trans (f3.mono (by simp))
  have XP := hide (xp.below f3 xp.lt)
  have O3 := hide o3
  have O2b := hide (O2.out.below f3' (Nat.le_refl _))
  have M3 := hide ((Md.lies _ _).below M2.out f3')
  have F3 := hide (F2.out.trans (f3'.mono F2.out.size))
  clear o3 b3 f3 f3' hse xp fp O2 M2 F2
  simp only [keyO, valO, List.length_cons, List.length_nil, Nat.zero_add, Option.isSome_some] at O3 ⊢
  have fq := below_alloc w3 (.cells #[.slice a3 1 c3, .int .u64 1] 54 (0, 0))
  have xq : Blk (w3.alloc (.cells #[.slice a3 1 c3, .int .u64 1] 54 (0, 0))) w3.heap.size 54 [.slice a3 1 c3, .int .u64 1] := Blk.new w3 _ _ _ rfl
  go_wp2_with fail
  refine (long_any 65536 1 _ (by omega)).mono ?_
  rintro r w4 ⟨a4, c4, rfl, o4, f4⟩
  have f4' := fq.trans (f4.mono (by simp))
  have XQ := hide (xq.below f4 xq.lt)
  have XP2 := hide (XP.out.below f4' XP.out.lt)
  have O2c := hide (O2b.out.below f4' (Nat.le_refl _))
  have O3c := hide (O3.out.below f4' (Nat.le_refl _))
  have M4 := hide ((Md.lies _ _).below M3.out f4')
  have F4 := hide (F3.out.trans (f4'.mono F3.out.size))
  clear o4 f4 f4' fq xq XP O2b O3 M3 F3
  go_wp2_with fail
  refine (put_long g a4 65536 c4 1 w4 (by simp [maxLen]) (by omega)).mono ?_
  rintro r w5 ⟨rfl, hw⟩
  subst hw
  have k0 := XP2.out.cell 0
  have k1 := XQ.out.cell 0
  have k2 := XQ.out.cell 1
  simp only [List.getElem?_cons_zero, List.getElem?_cons_succ] at k0 k1 k2
  obtain ⟨ap, cp, ep, rp, -⟩ := owns_rd O2c.out (by simp [IsBytes])
  simp only [Value.slice.injEq] at ep
  obtain ⟨rfl, -, rfl⟩ := ep
  obtain ⟨aq, cq, eq, rq, -⟩ := owns_rd O3c.out (by simp [IsBytes])
  simp only [Value.slice.injEq] at eq
  obtain ⟨rfl, -, rfl⟩ := eq
  have s1 := conv_str (P := Try.prog) (src := 24) (dst := 9) Try.underlying24 Try.underlying5 Try.underlying9 rp c2
  have s2 := conv_str (P := Try.prog) (src := 24) (dst := 9) Try.underlying24 Try.underlying5 Try.underlying9 rq c3
  simp only [show (strOfNums [97, 98]) = (⟨#[97, 98]⟩ : ByteArray) from rfl, show (strOfNums [97]) = (⟨#[97]⟩ : ByteArray) from rfl, List.length_cons, List.length_nil, Nat.zero_add] at s1 s2
  have RQ := hide rq
  clear rp rq O2c O3c
  go_wp2_with fail
  refine (len_any _ M4.out).mono ?_
  rintro r w6 ⟨rfl, hw⟩
  subst hw
  go_wp2_with fail
  have fr := below_alloc w6 (.cells #[.int .u8 98] 5 (1, 2))
  refine (rank_any _ 1 [98] _ ((Md.lies _ _).below M4.out fr) (rd_new1 w6 _ _ [98] _ rfl (by simp [IsBytes]) (by simp [maxLen]))).mono ?_
  have hra : rankM [98] [([97], 1), ([97, 98], 2)] = 2 := by rfl
  rw [hra]
  rintro r w7 ⟨rfl, f7⟩
  have f7' := fr.trans (f7.mono (by simp))
  have XQ7 := XQ.out.below f7' XQ.out.lt
  have q0 := XQ7.cell 0
  have q1 := XQ7.cell 1
  simp only [List.getElem?_cons_zero, List.getElem?_cons_succ] at q0 q1
  have RQ7 := hide (RQ.out.below f7' (Nat.le_refl _))
  have F7 := hide (F4.out.trans (f7'.mono F4.out.size))
  have X7 := hide XQ7
  clear f7 f7' fr hra XQ7 k0 k1 k2 s1 s2
  go_wp2_with fail
  refine (rises_any [] none 0 w7 (Rp.nil _ _)).mono ?_
  have hr0 : risesB (List.map Ent.kv []) = true := rfl
  rw [hr0]
  rintro r w8 ⟨rfl, f8⟩
  have X8 := X7.out.below f8 X7.out.lt
  have p0 := X8.cell 0
  have p1 := X8.cell 1
  simp only [List.getElem?_cons_zero, List.getElem?_cons_succ] at p0 p1
  have RQ8 := hide (RQ7.out.below f8 (Nat.le_refl _))
  have F8 := hide (F7.out.trans (f8.mono F7.out.size))
  clear f8 q0 q1 X8
  clear hr0
  go_wp2_with fail
  have fl := below_alloc w8 (.cells #[.slice a3 1 c3, .int .u64 1, .slice a3 1 c3, .int .u64 1] 54 (0, 0))
  have hb : Blk (w8.alloc (.cells #[.slice a3 1 c3, .int .u64 1, .slice a3 1 c3, .int .u64 1] 54 (0, 0))) w8.heap.size 54 [.slice a3 1 c3, .int .u64 1, .slice a3 1 c3, .int .u64 1] := Blk.new w8 _ _ _ rfl
  have hrp : Rp (w8.alloc (.cells #[.slice a3 1 c3, .int .u64 1, .slice a3 1 c3, .int .u64 1] 54 (0, 0))) (some ⟨w8.heap.size, 0, none⟩) [⟨a3, c3, [97], 1⟩, ⟨a3, c3, [97], 1⟩] := by
    refine ⟨by simp, ?_, .inr ⟨w8.heap.size, 0, rfl, ?_⟩⟩
    · intro e he
      simp at he
      subst he
      exact ⟨RQ8.out.below fl (Nat.le_refl _), by simp⟩
    · intro i e he
      rcases i with _ | _ | i
      · simp at he; subst he; exact ⟨hb.cell 0, hb.cell 1⟩
      · simp at he; subst he; exact ⟨hb.cell 2, hb.cell 3⟩
      · simp at he
  refine (rises_any _ _ 2 _ hrp).mono ?_
  have hr1 : risesB (List.map Ent.kv [⟨a3, c3, [97], 1⟩, ⟨a3, c3, [97], 1⟩]) = false := rfl
  rw [hr1]
  rintro r w9 ⟨rfl, f9⟩
  have F9 := hide (F8.out.trans ((fl.trans (f9.mono (by simp))).mono F8.out.size))
  clear f9 fl hb hrp hr1 p0 p1
  go_wp2
  go_ret
  exact ⟨by rfl, F9.out⟩
end Go.Proofs.Ytahlbebkcoofkaa
