/- Rows of cells; what is laid out of them: first, under. -/
import Derived.Test.YtnedcoomldmhhaaPl11
namespace Go.Proofs.Ytnedcoomldmhhaa
set_option maxRecDepth 20000
open Go.RowKit Go.Sort
set_option linter.unusedVariables false
set_option linter.unusedSimpArgs false

/-- A slice of cells that reads so. -/
def Rc (w : World) (a : Option Addr) (cs : List Cel) : Prop :=
  cs.length ≤ 100000 ∧ (∀ c ∈ cs, Cok w c) ∧ (cs = [] ∨ ∃ b off, a = some ⟨b, off, none⟩ ∧ ∀ i c, cs[i]? = some c → ∀ j, j < 9 → w.cell? ⟨b, off + i * 9 + j, none⟩ = c.fields[j]?)
theorem Rc.below {B : Nat} {w w' : World} {a : Option Addr} {cs : List Cel} (h : Rc w a cs) (f : Below B w w') (hB : w.heap.size ≤ B) : Rc w' a cs := by
  refine ⟨h.1, fun e he => (h.2.1 e he).below f hB, ?_⟩
  rcases h.2.2 with h3 | ⟨b, off, ha, hc⟩
  · exact .inl h3
  · refine .inr ⟨b, off, ha, fun i c he j hj => ?_⟩
    have h1 := hc i c he j hj
    obtain ⟨v, hv⟩ : ∃ v, c.fields[j]? = some v := ⟨c.fields[j]'(by show j < 9; omega), List.getElem?_eq_getElem _⟩
    rw [hv] at h1
    have hl : b < w.heap.size := World.block_lt_of_cell? w _ h1
    rw [f.cell (p := ⟨b, off + i * 9 + j, none⟩) (by show b < B; omega), hv]
    exact h1
theorem Rc.cells {w : World} {a : Option Addr} {cs : List Cel} (h : Rc w a cs) {i : Nat} {c : Cel} (he : cs[i]? = some c) : ∃ b off, a = some ⟨b, off, none⟩ ∧
    w.cell? ⟨b, off + i * 9, none⟩ = some (.int .i64 c.kind) ∧ w.cell? ⟨b, off + i * 9 + 1, none⟩ = some (.int .i64 c.at_) ∧ w.cell? ⟨b, off + i * 9 + 2, none⟩ = some (.int .i64 c.count) ∧ w.cell? ⟨b, off + i * 9 + 3, none⟩ = some (.int .i64 c.kids) ∧
    w.cell? ⟨b, off + i * 9 + 4, none⟩ = some (.int .u8 c.byte) ∧ w.cell? ⟨b, off + i * 9 + 5, none⟩ = some (.bool c.full) ∧ w.cell? ⟨b, off + i * 9 + 6, none⟩ = some (.int .u64 c.val) ∧ w.cell? ⟨b, off + i * 9 + 7, none⟩ = some (.slice c.ka c.key.length c.kc) ∧ w.cell? ⟨b, off + i * 9 + 8, none⟩ = some (.slice c.pa c.ps.length c.pc) := by
  rcases h.2.2 with h3 | ⟨b, off, ha, hc⟩
  · subst h3; simp at he
  · have k := hc i c he
    exact ⟨b, off, ha, k 0 (by omega), k 1 (by omega), k 2 (by omega), k 3 (by omega), k 4 (by omega), k 5 (by omega), k 6 (by omega), k 7 (by omega), k 8 (by omega)⟩
theorem cAt_map {cs : List Cel} {i : Nat} {c : Cel} (h : cs[i]? = some c) : cAt (cs.map Cel.pure) i = c.pure := by
  simp [cAt, List.getD_eq_getElem?_getD, h]

set_option maxHeartbeats 1600000 in
theorem first_any (cs : List Cel) (a : Option Addr) (k : Nat) (i : Nat) (w : World) (h : Rc w a cs) (hi : i < cs.length) :
    Calls Try.prog 66 #[.slice a cs.length k, .int .i64 i] w fun r w' => r = .returned (.bool (firstP (cs.map Cel.pure) i)) ∧ w' = w := by
  obtain ⟨c, hc⟩ : ∃ c, cs[0]? = some c := ⟨cs[0]'(by omega), List.getElem?_eq_getElem _⟩
  obtain ⟨b, off, rfl, c0, -⟩ := h.cells hc
  have hp := cAt_map hc
  have hl := h.1
  rw [Nat.zero_mul, Nat.add_zero] at c0
  clear h
  have HF : Hid (firstP (cs.map Cel.pure) i = decide (i = 0 ∨ (i = 1 ∧ c.kind = 3))) := by
    show _ = _
    rw [firstP, hp]; rfl
  generalize firstP (cs.map Cel.pure) i = z at *
  go_enter Try.func66, Try.ntmps66
  clear hc hp
  by_cases h0 : i = 0
  · subst h0
    go_wp2_with fail
    go_ret
    exact ⟨ret_bool (by rw [HF.out]; simp), rfl⟩
  have h0' : ((i : Int) == 0) = false := by simpa using h0
  by_cases h1 : i = 1
  · subst h1
    go_wp2_with fail
    go_ret
    exact ⟨ret_bool (by rw [HF.out]; rw [Bool.eq_iff_iff]; simp), rfl⟩
  have h1' : ((i : Int) == 1) = false := by rw [beq_eq_false_iff_ne]; omega
  go_wp2_with fail
  go_ret
  exact ⟨ret_bool (by rw [HF.out]; simp [h0, h1]), rfl⟩

/-- Spots that lie in a block of their own. -/
def Sps (w : World) (g : Nat) (ss : List Sp) : Prop := Blk w g 67 (ss.flatMap Sp.vals)
theorem Sps.cells {w : World} {g : Nat} {ss : List Sp} (h : Sps w g ss) {i : Nat} (hi : i < ss.length) :
    w.cell? ⟨g, i * 4, none⟩ = some (.int .i64 (sAt ss i).over) ∧ w.cell? ⟨g, i * 4 + 1, none⟩ = some (.int .i64 (sAt ss i).nth) ∧ w.cell? ⟨g, i * 4 + 2, none⟩ = some (.int .i64 (sAt ss i).before) ∧ w.cell? ⟨g, i * 4 + 3, none⟩ = some (.int .i64 (sAt ss i).deep) := by
  have hs : ss[i]? = some (sAt ss i) := by simp [sAt, List.getD_eq_getElem?_getD, List.getElem?_eq_getElem hi]
  have k : ∀ j, j < 4 → w.cell? ⟨g, i * 4 + j, none⟩ = (sAt ss i).vals[j]? := fun j hj => (Blk.cell h (i * 4 + j)).trans (by rw [flatG Sp.vals 4 ss (fun a _ => rfl) i j hj, hs]; rfl)
  exact ⟨k 0 (by omega), k 1 (by omega), k 2 (by omega), k 3 (by omega)⟩
theorem new3 (w : World) (a b c : Obj) : (((w.alloc a).alloc b).alloc c).heap[w.heap.size + 1]? = some b :=
  (Below.heap_alloc _ c (w.heap.size + 1) (by simp)).trans (new2 w a b)
theorem below3 (w : World) (a b c : Obj) : Below w.heap.size w (((w.alloc a).alloc b).alloc c) := (((Below.refl _ _).alloc (Nat.le_refl _) _).alloc (by simp) _).alloc (by simp; omega) _
theorem size_spot : (Try.prog.info? 67).map (·.size) = some 4 := by kernel_rfl
set_option maxHeartbeats 1600000 in
theorem under_any (ss : List Sp) (g m n : Nat) (ca : Option Addr) (cl cc : Nat) (o : Nat) (b : Int) (w : World) (h : Sps w g ss) (ho : o < ss.length) (hb : b = -1 ∨ (0 ≤ b ∧ b < ss.length)) (hl : ss.length ≤ 100000) (hn : n = ss.length)
    (hr : ∀ j, j < ss.length → -1000000 ≤ (sAt ss j).nth ∧ (sAt ss j).nth ≤ 1000000 ∧ -1000000 ≤ (sAt ss j).deep ∧ (sAt ss j).deep ≤ 1000000) :
    Calls Try.prog 64 #[.agg #[.slice ca cl cc, .slice (some ⟨g, 0, none⟩) n m], .int .i64 o, .int .i64 b] w fun r w' => r = .returned (.agg (underP ss o b).vals.toArray) ∧ Below w.heap.size w w' := by
  subst hn
  have r1 := hr o ho
  have hg := h.lt
  have H := hide h
  obtain ⟨c0, c1, c2, c3⟩ := h.cells ho
  have hU : Hid (underP ss o b = ⟨o, if b = -1 then 0 else (sAt ss b.toNat).nth + 1, b, (sAt ss o).deep + 1⟩) := rfl
  generalize underP ss o b = u at *
  generalize sAt ss o = so at *
  clear h
  rcases hb with rfl | hb
  · clear hr
    go_enter Try.func64, Try.ntmps64
    go_wp2_with fail
    refine bodyPost_ret (results_cell_row rfl _ _ (w.heap.size + 1) _ _ _ _ rfl (new3 _ _ _ _) Try.underlying67 rfl size_spot) rfl ⟨?_, below3 _ _ _ _⟩
    rw [hU.out]
    simp [Sp.vals]
  · obtain ⟨q, rfl⟩ : ∃ q : Nat, b = q := ⟨b.toNat, by omega⟩
    rw [Int.toNat_natCast] at hU
    have hq : q < ss.length := by omega
    have r2 := hr q hq
    obtain ⟨d0, d1, d2, d3⟩ := H.out.cells hq
    generalize sAt ss q = sq at *
    have hg1 : g < w.heap.size + 1 := by omega
    have hg2 : g < w.heap.size + 1 + 1 := by omega
    clear hr
    go_enter Try.func64, Try.ntmps64
    go_wp2_with fail
    refine bodyPost_ret (results_cell_row rfl _ _ (w.heap.size + 1) _ _ _ _ rfl (new3 _ _ _ _) Try.underlying67 rfl size_spot) rfl ⟨?_, below3 _ _ _ _⟩
    rw [hU.out]
    have hq1 : ¬ ((q : Int) = -1) := by omega
    simp [Sp.vals, hq1]
end Go.Proofs.Ytnedcoomldmhhaa
