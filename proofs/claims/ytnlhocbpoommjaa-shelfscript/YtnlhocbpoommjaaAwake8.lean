/- awake, of shelf. -/
import Derived.Test.YtnlhocbpoommjaaShU
import Derived.Test.YtnlhocbpoommjaaSh8
import Derived.Test.YtnlhocbpoommjaaAwake7
namespace Go.Proofs.Ytnlhocbpoommjaa
open Go.RowKit Go.Sort
set_option linter.unusedVariables false
set_option linter.unusedSimpArgs false
set_option maxRecDepth 20000

/-- The two pairs that awake begins with, as they are laid. -/
theorem two_rise (w : World) : Rp (((w.alloc (.cells #[.int .u8 97] 5 (1, 2))).alloc (.cells #[.int .u8 97, .int .u8 98] 5 (2, 3))).alloc (.cells #[.slice (some ⟨w.heap.size, 0, none⟩) 1 1, .int .u64 1, .slice (some ⟨w.heap.size + 1, 0, none⟩) 2 2, .int .u64 2] 54 (0, 0))) (some ⟨w.heap.size + 2, 0, none⟩) [⟨some ⟨w.heap.size, 0, none⟩, 1, [97], 1⟩, ⟨some ⟨w.heap.size + 1, 0, none⟩, 2, [97, 98], 2⟩] := by
  have r1 : Rd (w.alloc (.cells #[.int .u8 97] 5 (1, 2))) (some ⟨w.heap.size, 0, none⟩) [97] := rd_new1 w _ _ [97] _ rfl (by simp [IsBytes]) (by simp [maxLen])
  have r2 : Rd ((w.alloc (.cells #[.int .u8 97] 5 (1, 2))).alloc (.cells #[.int .u8 97, .int .u8 98] 5 (2, 3))) (some ⟨w.heap.size + 1, 0, none⟩) [97, 98] := by
    have := rd_new1 (w.alloc (.cells #[.int .u8 97] 5 (1, 2))) 5 (2, 3) [97, 98] #[.int .u8 97, .int .u8 98] rfl (by simp [IsBytes]) (by simp [maxLen])
    simpa using this
  refine ⟨by simp, ?_, .inr ⟨w.heap.size + 2, 0, rfl, ?_⟩⟩
  · intro e he
    simp at he
    rcases he with rfl | rfl
    · exact ⟨(r1.below (below_alloc _ _) (Nat.le_refl _)).below (below_alloc _ _) (Nat.le_refl _), by simp⟩
    · exact ⟨r2.below (below_alloc _ _) (Nat.le_refl _), by simp⟩
  · have hb : Blk (((w.alloc (.cells #[.int .u8 97] 5 (1, 2))).alloc (.cells #[.int .u8 97, .int .u8 98] 5 (2, 3))).alloc (.cells #[.slice (some ⟨w.heap.size, 0, none⟩) 1 1, .int .u64 1, .slice (some ⟨w.heap.size + 1, 0, none⟩) 2 2, .int .u64 2] 54 (0, 0))) (w.heap.size + 2) 54 [.slice (some ⟨w.heap.size, 0, none⟩) 1 1, .int .u64 1, .slice (some ⟨w.heap.size + 1, 0, none⟩) 2 2, .int .u64 2] := by
      have := Blk.new ((w.alloc (.cells #[.int .u8 97] 5 (1, 2))).alloc (.cells #[.int .u8 97, .int .u8 98] 5 (2, 3))) 54 [.slice (some ⟨w.heap.size, 0, none⟩) 1 1, .int .u64 1, .slice (some ⟨w.heap.size + 1, 0, none⟩) 2 2, .int .u64 2] _ rfl
      simpa using this
    intro i e he
    rcases i with _ | _ | i
    · simp at he; subst he; exact ⟨hb.cell 0, hb.cell 1⟩
    · simp at he; subst he; exact ⟨hb.cell 2, hb.cell 3⟩
    · simp at he


set_option maxHeartbeats 2000000 in
theorem awake8_any (w : World) : Calls Try.prog 39 #[] w fun e w' => e = .returned (.bool true) ∧ Below w.heap.size w w' := by
  have kc := run_bytes_const (P := Try.prog) 24 5 Try.underlying24 Try.underlying5
  go_enter Try.func39, Try.ntmps39
  go_wp2_with fail
  refine (Sh.new_ok _ _ 2 _ (two_rise w) (by intro e he; simp at he; rcases he with rfl | rfl <;> simp) (by simp) rfl).mono ?_
  rintro r w1 ⟨g, rfl, h1, f1⟩
  have hof : (List.map Ent.kv [⟨some ⟨w.heap.size, 0, none⟩, 1, [97], 1⟩, ⟨some ⟨w.heap.size + 1, 0, none⟩, 2, [97, 98], 2⟩]) = [([97], 1), ([97, 98], 2)] := by rfl
  rw [hof] at h1
  have M1 := hide h1
  have F1 : Hid (Below w.heap.size w w1) := ((below_alloc w _).trans (((below_alloc _ _).trans ((below_alloc _ _).mono (by simp))).mono (by simp))).trans (f1.mono (by simp; omega))
  clear h1 f1 hof
  go_wp2_with fail
  refine (Sh.place_any _ 2 [97, 98] _ ((Sh.Md.lies _ _).below M1.out (below_alloc _ _)) (rd_new1 w1 _ _ [97, 98] _ rfl (by simp [IsBytes]) (by simp [maxLen]))).mono ?_
  have hlo : rankM [97, 98] [([97], 1), ([97, 98], 2)] = 1 := by rfl
  have hli : isIn [97, 98] [([97], 1), ([97, 98], 2)] = true := by rfl
  rw [hlo, hli]
  rintro r w2 ⟨rfl, f2⟩
  have f2' := (below_alloc w1 (.cells #[.int .u8 97, .int .u8 98] 5 (2, 3))).trans (f2.mono (by simp))
  have M2 := hide ((Sh.Md.lies _ _).below M1.out f2')
  have F2 := hide (F1.out.trans (f2'.mono F1.out.size))
  clear f2 f2' hlo hli M1 F1
  go_wp2_with fail
  refine (Sh.select_any 0 _ M2.out (by omega) (by omega)).mono ?_
  have hse : selM 0 [([97], 1), ([97, 98], 2)] = some ([97], 1) := by rfl
  rw [hse]
  rintro r w3 ⟨a3, c3, rfl, o3, b3, f3⟩
  have O3 := hide o3
  have M3 := hide ((Sh.Md.lies _ _).below M2.out f3)
  have F3 := hide (F2.out.trans (f3.mono F2.out.size))
  clear o3 b3 f3 hse M2 F2
  simp only [keyO, valO, List.length_cons, List.length_nil, Nat.zero_add, Option.isSome_some] at O3 ⊢
  have fq := below_alloc w3 (.cells #[.slice a3 1 c3, .int .u64 1] 54 (0, 0))
  have xq : Blk (w3.alloc (.cells #[.slice a3 1 c3, .int .u64 1] 54 (0, 0))) w3.heap.size 54 [.slice a3 1 c3, .int .u64 1] := Blk.new w3 _ _ _ rfl
  go_wp2_with fail
  refine (Sh.split_any _ ((Sh.Md.lies _ _).below M3.out fq)).mono ?_
  rintro r w4 ⟨a4, c4, fs, a5, c5, gs, rfl, l4, k4, l5, k5, f4⟩
  have hfs : fs = [] := List.eq_nil_of_map_eq_nil (f := Ent.kv) (by rw [k4]; rfl)
  subst hfs
  have hg2 : (grpM (List.drop (Sh.headE [([97], 1), ([97, 98], 2)]) [([97], 1), ([97, 98], 2)])).2 = [[([], 1), ([98], 2)]] := by rfl
  rw [hg2] at k5
  obtain ⟨y, fy, rfl, hfy⟩ : ∃ y fy, gs = [(y, fy)] ∧ fy.length = 2 := by
    rcases gs with _ | ⟨⟨y, fy⟩, _ | ⟨z, gs⟩⟩
    · simp at k5
    · refine ⟨y, fy, rfl, ?_⟩
      simp at k5
      have := congrArg List.length k5
      simpa using this
    · simp at k5
  obtain ⟨bl, ay, cy, rfl, rfl, m5, _, _⟩ := LL.last (gs := []) l5
  rw [hfy] at m5
  simp only [List.length_nil] at m5
  have f4' := fq.trans (f4.mono (by simp))
  have XQ := hide (xq.below f4 xq.lt)
  have O4 := hide (O3.out.below f4' (Nat.le_refl _))
  have M4 := hide ((Sh.Md.lies _ _).below M3.out f4')
  have F4 := hide (F3.out.trans (f4'.mono F3.out.size))
  have k1 := XQ.out.cell 0
  have k2 := XQ.out.cell 1
  simp only [List.getElem?_cons_zero, List.getElem?_cons_succ] at k1 k2
  obtain ⟨aq, cq, eq, rq, -⟩ := owns_rd O4.out (by simp [IsBytes])
  simp only [Value.slice.injEq] at eq
  obtain ⟨rfl, -, rfl⟩ := eq
  have s2 := conv_str (P := Try.prog) (src := 24) (dst := 9) Try.underlying24 Try.underlying5 Try.underlying9 rq c3
  simp only [show (strOfNums [97]) = (⟨#[97]⟩ : ByteArray) from rfl, List.length_cons, List.length_nil, Nat.zero_add] at s2
  have RQ := hide rq
  clear rq l4 k4 l5 k5 hg2 f4 f4' fq xq O3 O4 M3 F3 hfy
  simp only [List.length_cons, List.length_nil, Nat.zero_add]
  go_wp2_with fail
  refine (Sh.len_any _ M4.out).mono ?_
  rintro r w6 ⟨rfl, hw⟩
  subst hw
  go_wp2_with fail
  have fl := below_alloc w6 (.cells #[.slice a3 1 c3, .int .u64 1, .slice a3 1 c3, .int .u64 1] 54 (0, 0))
  have hb : Blk (w6.alloc (.cells #[.slice a3 1 c3, .int .u64 1, .slice a3 1 c3, .int .u64 1] 54 (0, 0))) w6.heap.size 54 [.slice a3 1 c3, .int .u64 1, .slice a3 1 c3, .int .u64 1] := Blk.new w6 _ _ _ rfl
  have hrp : Rp (w6.alloc (.cells #[.slice a3 1 c3, .int .u64 1, .slice a3 1 c3, .int .u64 1] 54 (0, 0))) (some ⟨w6.heap.size, 0, none⟩) [⟨a3, c3, [97], 1⟩, ⟨a3, c3, [97], 1⟩] := by
    refine ⟨by simp, ?_, .inr ⟨w6.heap.size, 0, rfl, ?_⟩⟩
    · intro e he
      simp at he
      subst he
      exact ⟨RQ.out.below fl (Nat.le_refl _), by simp⟩
    · intro i e he
      rcases i with _ | _ | i
      · simp at he; subst he; exact ⟨hb.cell 0, hb.cell 1⟩
      · simp at he; subst he; exact ⟨hb.cell 2, hb.cell 3⟩
      · simp at he
  refine (Sh.new_falls _ _ 2 _ hrp (by intro e he; simp at he; subst he; simp) (by simp) rfl).mono ?_
  rintro r w9 ⟨rfl, f9⟩
  have F9 := hide (F4.out.trans ((fl.trans (f9.mono (by simp))).mono F4.out.size))
  clear f9 fl hb hrp k1 k2
  go_wp2
  go_ret
  exact ⟨by rfl, F9.out⟩
end Go.Proofs.Ytnlhocbpoommjaa
