/- shape's branches, shelves, parts. -/
import Derived.Test.YtnedcoomldmhhaaTr11
namespace Go.Proofs.Ytnedcoomldmhhaa
set_option maxRecDepth 20000
open Go.RowKit Go.Sort
set_option linter.unusedVariables false
set_option linter.unusedSimpArgs false

def allB (n : Nat) (f : Nat → Bool) : Bool := (List.range n).all f
theorem allB_true {n : Nat} {f : Nat → Bool} (h : ∀ j, j < n → f j = true) : allB n f = true := by
  unfold allB; rw [List.all_eq_true]; intro j hj; exact h j (List.mem_range.1 hj)
theorem allB_false {n i : Nat} {f : Nat → Bool} (hi : i < n) (h : f i = false) : allB n f = false := by
  unfold allB; rw [List.all_eq_false]; exact ⟨i, List.mem_range.2 hi, by simp [h]⟩
theorem allB_iff {n : Nat} {f : Nat → Bool} : allB n f = true ↔ ∀ j, j < n → f j = true := by
  unfold allB; rw [List.all_eq_true]; exact ⟨fun h j hj => h j (List.mem_range.2 hj), fun h j hj => h j (List.mem_range.1 hj)⟩
/-- Spots that hang together. -/
structure Lok (cs : List PC) (ss : List Sp) : Prop where
  over : ∀ j, j < cs.length → ((sAt ss j).over = -1 ∧ firstP cs j = true) ∨ (0 ≤ (sAt ss j).over ∧ (sAt ss j).over < j ∧ 0 < belowK (cAt cs (sAt ss j).over.toNat))
  before : ∀ j, j < cs.length → (sAt ss j).before = -1 ∨ (0 ≤ (sAt ss j).over ∧ (sAt ss j).over < (sAt ss j).before ∧ (sAt ss j).before < j ∧ (sAt ss (sAt ss j).before.toNat).over = (sAt ss j).over)
  nth : ∀ j, j < cs.length → 0 ≤ (sAt ss j).nth ∧ (sAt ss j).nth ≤ j
  deep : ∀ j, j < cs.length → 1 ≤ (sAt ss j).deep ∧ (sAt ss j).deep ≤ j + 1
def branchesP (cs : List PC) (ss : List Sp) : Bool := allB cs.length fun i => decide ((cAt cs i).key.length ≤ 65535) && goesP cs ss i
theorem goesP_len {cs : List PC} {ss : List Sp} {i : Nat} (h : goesP cs ss i = true) (ho : (sAt ss i).over ≠ -1) : (cAt cs (sAt ss i).over.toNat).key.length < (cAt cs i).key.length := by
  unfold goesP at h
  rw [if_neg ho] at h
  simp only at h
  split at h
  · simp at h
  · omega
theorem Lok.pre {cs : List PC} {ss : List Sp} (L : Lok cs ss) {i : Nat} (hi : i < cs.length) (hp : ∀ j, j < i → goesP cs ss j = true) :
    ((sAt ss i).over = -1 ∨ (0 ≤ (sAt ss i).over ∧ (sAt ss i).over < i)) ∧ ((sAt ss i).over = -1 ∨ (sAt ss i).before = -1 ∨ ((0 ≤ (sAt ss i).before ∧ (sAt ss i).before < i) ∧ (cAt cs (sAt ss i).over.toNat).key.length < (cAt cs (sAt ss i).before.toNat).key.length)) := by
  have h1 := L.over i hi
  have h2 := L.before i hi
  refine ⟨by omega, ?_⟩
  by_cases ho : (sAt ss i).over = -1
  · exact .inl ho
  · refine .inr ?_
    rcases h2 with h2 | ⟨h2, h3, h4, h5⟩
    · exact .inl h2
    · refine .inr ⟨by omega, ?_⟩
      have := goesP_len (hp (sAt ss i).before.toNat (by omega)) (by rw [h5]; exact ho)
      rwa [h5] at this
set_option maxHeartbeats 1600000 in
theorem branches_any (a : Option Addr) (cs : List Cel) (g : Nat) (ss : List Sp) (k m : Nat) (w : World) (h : Tre w a cs g ss) (L : Lok (cs.map Cel.pure) ss) :
    Calls Try.prog 69 #[.agg #[.slice a cs.length k, .slice (some ⟨g, 0, none⟩) cs.length m]] w fun e w' => e = .returned (.bool (branchesP (cs.map Cel.pure) ss)) ∧ Below w.heap.size w w' := by
  have hn := h.rc.1
  have H := hide h
  have HL := hide L
  have X0 := hide (Blk.new w 61 [.slice a cs.length k, .slice (some ⟨g, 0, none⟩) cs.length m] _ rfl)
  have F0 := hide ((Below.refl w.heap.size w).alloc (Nat.le_refl _) (.cells #[.slice a cs.length k, .slice (some ⟨g, 0, none⟩) cs.length m] 61 (0, 0)))
  clear h L
  go_enter Try.func69, Try.ntmps69
  go_wp2_with fail
  go_loopw [8] (fun vi wr => ∃ i : Nat, vi = .int .i64 i ∧ i ≤ cs.length ∧ Hid (Below w.heap.size w wr) ∧ Hid (Blk wr w.heap.size 61 [.slice a cs.length k, .slice (some ⟨g, 0, none⟩) cs.length m]) ∧ Hid (∀ j, j < i → (decide ((cAt (cs.map Cel.pure) j).key.length ≤ 65535) && goesP (cs.map Cel.pure) ss j) = true)) (fun vi _ => (cs.length - intOf vi).toNat)
  case atStart => exact ⟨0, rfl, by omega, F0.out, X0.out, fun j hj => by omega⟩
  case round =>
    clear X0 F0
    obtain ⟨i, rfl, hi, F, X, HA⟩ := hrel
    by_cases hin : i < cs.length
    · obtain ⟨c, hc⟩ : ∃ c, cs[i]? = some c := ⟨cs[i], List.getElem?_eq_getElem hin⟩
      have h1 := H.out.below (F.out.mono (Nat.le_refl _))
      have hkc := (h1.rc.2.1 c (List.mem_of_getElem? hc)).2.2.2.2.2.2.1.2.1
      obtain ⟨b, off, rfl, c0, c1, c2, c3, c4, c5, c6, c7, c8⟩ := h1.rc.cells hc
      have x0 := X.out.cell 0
      have x1 := X.out.cell 1
      simp only [List.getElem?_cons_zero, List.getElem?_cons_succ] at x0 x1
      have hxl := X.out.lt
      have hme := cAt_map hc
      have M := hide (may_any c.ka c.key.length c.kc · hkc)
      have f1 : Below wr.heap.size wr (wr.alloc (.cells c.fields.toArray 40 (0, 0))) := (Below.refl _ wr).alloc (Nat.le_refl _) _
      have hpre := HL.out.pre (i := i) (by simpa using hin) (fun j hj => by have := HA.out j hj; rw [Bool.and_eq_true] at this; exact this.2)
      have GO := goesOn_any (some ⟨b, off, none⟩) cs g ss k m i _ (h1.below f1) hin hpre.1 hpre.2
      have GO' := hide GO
      have F1 := hide f1
      simp only [Cel.fields] at GO' F1
      clear GO f1 hpre h1 hc hkc
      have hq : ∀ z : Bool, goesP (cs.map Cel.pure) ss i = z → goesP (cs.map Cel.pure) ss i = z := fun _ h => h
      by_cases hA : c.key.length ≤ 65535
      · have hA' : decide ((c.key.length : Int) ≤ 65535) = true := by simp; omega
        go_wp2_with fail
        refine (M.out _).mono ?_
        rintro e w2 ⟨rfl, rfl⟩
        rw [hA']
        go_wp2_with fail
        refine GO'.out.mono ?_
        rintro e w3 ⟨rfl, f3⟩
        have F3 : Hid (Below wr.heap.size wr w3) := F1.out.trans (f3.mono (by simp))
        clear f3 GO' F1
        by_cases hG : goesP (cs.map Cel.pure) ss i = true
        · rw [hG]
          go_wp2_with fail
          go_roundw
          case rel => exact ⟨i + 1, by go_num, by omega, F.out.trans (F3.out.mono F.out.size), X.out.below F3.out X.out.lt, fun j hj => by
            by_cases hji : j < i
            · exact HA.out j hji
            · obtain rfl : j = i := by omega
              rw [hme, hG]
              simp [Cel.pure, hA]⟩
          case measure => simp [intOf]; omega
        · have hG' : goesP (cs.map Cel.pure) ss i = false := by simpa using hG
          rw [hG']
          go_wp2_with fail
          go_ret
          refine ⟨ret_bool ?_, F.out.trans (F3.out.mono F.out.size)⟩
          unfold branchesP
          rw [allB_false (by simpa using hin) (by rw [hG', Bool.and_false])]
      · have hA' : decide ((c.key.length : Int) ≤ 65535) = false := by simp; omega
        go_wp2_with fail
        refine (M.out _).mono ?_
        rintro e w2 ⟨rfl, rfl⟩
        rw [hA']
        go_wp2_with fail
        go_ret
        refine ⟨ret_bool ?_, F.out.trans (F1.out.mono F.out.size)⟩
        unfold branchesP
        rw [allB_false (by simpa using hin) (by rw [hme]; have hz : ¬ c.pure.key.length ≤ 65535 := hA; rw [decide_eq_false hz]; rfl)]
    · obtain rfl : i = cs.length := by omega
      go_wp2_with fail
      go_ret
      refine ⟨ret_bool ?_, F.out⟩
      unfold branchesP
      rw [allB_true (fun j hj => HA.out j (by simpa using hj))]
end Go.Proofs.Ytnedcoomldmhhaa
