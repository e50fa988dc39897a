/- The bytes that have a child, one behind the other; how many of the first. -/
import Derived.Test.YtmogjhljmljpfaaDoorKSu9
namespace Go.Proofs.YtmogjhljmljpfaaDoor
set_option maxRecDepth 20000
open Go.RowKit Go.Sort
set_option linter.unusedVariables false
set_option linter.unusedSimpArgs false

/-- The i-th of those that are there, and the one ahead of it. -/
def upF (f : Nat → Nat) (i : Nat) : Int := if i < (bsOf f).length then ((bsOf f).getD i 0 : Int) else -1
def dnF (f : Nat → Nat) (i : Nat) : Int := if 0 < i then ((bsOf f).getD (i - 1) 0 : Int) else -1
theorem bs_mask {g s : Nat} {f : Nat → Nat} {K : Nat → Prop} {w : World} (h : Kd g s f K w) : ∃ m, Ok m ∧ Tells m f ∧ elems m = bsOf f := by
  obtain ⟨x0, x1, x2, x3, v, h⟩ := h
  exact ⟨_, h.ok, h.tl, elems_tells h.tl⟩
theorem nxt_dn {g s : Nat} {f : Nat → Nat} {K : Nat → Prop} {w : World} (h : Kd g s f K w) (i : Nat) (hi : i ≤ (bsOf f).length) : nxtF f (dnF f i + 1) = upF f i := by
  obtain ⟨m, hm, ht, he⟩ := bs_mask h
  rw [← nxt_tells ht]
  have eu : upF f i = stepUp m i := by unfold upF stepUp; rw [he]
  rw [eu]
  by_cases h0 : 0 < i
  · have ed : dnF f i = ((elems m).getD (i - 1) 0 : Int) := by unfold dnF; rw [if_pos h0, he]
    rw [ed, nxt_step m (i - 1) (by rw [he]; omega), show i - 1 + 1 = i by omega]
  · obtain rfl : i = 0 := by omega
    exact nxt_start m _ (by unfold dnF; rw [if_neg (by omega)]; decide)
theorem prv_end {g s : Nat} {f : Nat → Nat} {K : Nat → Prop} {w : World} (h : Kd g s f K w) : prvF f 255 = dnF f (bsOf f).length := by
  obtain ⟨m, hm, ht, he⟩ := bs_mask h
  rw [← prv_tells ht, prv_start m 255 (by omega)]
  unfold stepDown dnF
  rw [he]
theorem bs_at (f : Nat → Nat) (i : Nat) (h : i < (bsOf f).length) : (bsOf f).getD i 0 < 256 ∧ f ((bsOf f).getD i 0) ≠ 0 := by
  have hm : (bsOf f).getD i 0 ∈ bsOf f := by rw [List.getD_eq_getElem?_getD, List.getElem?_eq_getElem h]; exact List.getElem_mem _
  have := List.mem_filter.1 hm
  refine ⟨List.mem_range.1 this.1, ?_⟩
  have h2 := this.2
  simp only [isC, decide_eq_true_eq] at h2
  exact h2
theorem bs_sorted (f : Nat → Nat) : (bsOf f).Pairwise (· < ·) := List.pairwise_lt_range.filter _
theorem dn_lt (f : Nat → Nat) (i : Nat) (h : i < (bsOf f).length) : dnF f i < ((bsOf f).getD i 0 : Int) := by
  unfold dnF
  by_cases h0 : 0 < i
  · rw [if_pos h0]
    have hp := List.pairwise_iff_getElem.1 (bs_sorted f) (i - 1) i (by omega) h (by omega)
    rw [List.getD_eq_getElem?_getD, List.getD_eq_getElem?_getD, List.getElem?_eq_getElem h, List.getElem?_eq_getElem (show i - 1 < (bsOf f).length by omega)]
    simpa using hp
  · rw [if_neg h0]; omega
theorem bs_len (f : Nat → Nat) : (bsOf f).length = cntF f := by unfold bsOf cntF hsOf; rw [List.length_map]
def cntTo (f : Nat → Nat) (k : Nat) : Nat := ((List.range k).filter (isC f)).length
theorem cntTo_le (f : Nat → Nat) (k : Nat) : cntTo f k ≤ k := by unfold cntTo; have := List.length_filter_le (isC f) (List.range k); simpa using this
theorem cntTo_yes (f : Nat → Nat) (k : Nat) (h : f k ≠ 0) : cntTo f (k + 1) = cntTo f k + 1 := by
  unfold cntTo; rw [List.range_succ, List.filter_append]; simp [isC, h]
theorem cntTo_no (f : Nat → Nat) (k : Nat) (h : f k = 0) : cntTo f (k + 1) = cntTo f k := by
  unfold cntTo; rw [List.range_succ, List.filter_append]; simp [isC, h]

end Go.Proofs.YtmogjhljmljpfaaDoor
