/- Handles by bytes, in plain lists: what stands ahead of a byte, and behind it. -/
import Derived.Test.YtmogjhljmljpfaaDoorMa9
namespace Go.Proofs.YtmogjhljmljpfaaDoor
set_option maxRecDepth 20000
open Go.RowKit
set_option linter.unusedVariables false

def isC (f : Nat → Nat) (b : Nat) : Bool := decide (f b ≠ 0)
def hsOf (f : Nat → Nat) : List Nat := ((List.range 256).filter (isC f)).map f
def cntF (f : Nat → Nat) : Nat := (hsOf f).length
def loF (f : Nat → Nat) (b : Nat) : List Nat := ((List.range b).filter (isC f)).map f
def hiF (f : Nat → Nat) (b : Nat) : List Nat := ((List.range' (b + 1) (255 - b)).filter (isC f)).map f
def upd (f : Nat → Nat) (b h : Nat) : Nat → Nat := fun c => if c = b then h else f c
theorem upd_same (f : Nat → Nat) (b h : Nat) : upd f b h b = h := by simp [upd]
theorem upd_other (f : Nat → Nat) (b h c : Nat) (hc : c ≠ b) : upd f b h c = f c := by simp [upd, hc]

theorem range_split (b : Nat) (hb : b < 256) : List.range 256 = List.range b ++ b :: List.range' (b + 1) (255 - b) := by
  have h1 : List.range' 0 b ++ List.range' b (256 - b) = List.range' 0 256 := by
    have := @List.range'_append_1 0 b (256 - b)
    rw [Nat.zero_add, show b + (256 - b) = 256 by omega] at this
    exact this
  rw [List.range_eq_range', List.range_eq_range', ← h1, show 256 - b = (255 - b) + 1 by omega, List.range'_succ]
theorem hs_split (f : Nat → Nat) (b : Nat) (hb : b < 256) : hsOf f = loF f b ++ ((if f b = 0 then [] else [f b]) ++ hiF f b) := by
  unfold hsOf loF hiF
  rw [range_split b hb, List.filter_append, List.map_append, List.filter_cons]
  by_cases h : f b = 0 <;> simp [isC, h]
theorem filter_congr' (f g : Nat → Nat) (l : List Nat) (h : ∀ c ∈ l, f c = g c) : (l.filter (isC f)).map f = (l.filter (isC g)).map g := by
  induction l with
  | nil => rfl
  | cons x l ih =>
    have hx := h x (by simp)
    have hi := ih (fun c hc => h c (by simp [hc]))
    have e : isC f x = isC g x := by unfold isC; rw [hx]
    rw [List.filter_cons, List.filter_cons, e]
    split
    · rw [List.map_cons, List.map_cons, hi, hx]
    · exact hi
theorem lo_upd (f : Nat → Nat) (b h : Nat) : loF (upd f b h) b = loF f b :=
  filter_congr' _ _ _ (fun c hc => upd_other f b h c (by have := List.mem_range.1 hc; omega))
theorem hi_upd (f : Nat → Nat) (b h : Nat) : hiF (upd f b h) b = hiF f b :=
  filter_congr' _ _ _ (fun c hc => upd_other f b h c (by have := List.mem_range'_1.1 hc; omega))
theorem hs_in (f : Nat → Nat) (b : Nat) (hb : b < 256) (h : f b ≠ 0) : hsOf f = loF f b ++ f b :: hiF f b := by
  rw [hs_split f b hb, if_neg h]; rfl
theorem hs_out (f : Nat → Nat) (b : Nat) (hb : b < 256) (h : f b = 0) : hsOf f = loF f b ++ hiF f b := by
  rw [hs_split f b hb, if_pos h]; rfl
theorem hs_put (f : Nat → Nat) (b h : Nat) (hb : b < 256) (h0 : h ≠ 0) : hsOf (upd f b h) = loF f b ++ h :: hiF f b := by
  rw [hs_in _ b hb (by rw [upd_same]; exact h0), lo_upd, hi_upd, upd_same]
theorem hs_drop (f : Nat → Nat) (b : Nat) (hb : b < 256) : hsOf (upd f b 0) = loF f b ++ hiF f b := by
  rw [hs_out _ b hb (upd_same f b 0), lo_upd, hi_upd]
theorem cntF_le (f : Nat → Nat) : cntF f ≤ 256 := by
  unfold cntF hsOf
  rw [List.length_map]
  have := List.length_filter_le (isC f) (List.range 256)
  simpa using this
theorem cnt_in (f : Nat → Nat) (b : Nat) (hb : b < 256) (h : f b ≠ 0) : cntF f = (loF f b).length + (hiF f b).length + 1 := by
  unfold cntF; rw [hs_in f b hb h]; simp; omega
theorem cnt_out (f : Nat → Nat) (b : Nat) (hb : b < 256) (h : f b = 0) : cntF f = (loF f b).length + (hiF f b).length := by
  unfold cntF; rw [hs_out f b hb h]; simp
theorem cnt_put (f : Nat → Nat) (b h : Nat) (hb : b < 256) (h0 : h ≠ 0) : cntF (upd f b h) = (loF f b).length + (hiF f b).length + 1 := by
  unfold cntF; rw [hs_put f b h hb h0]; simp; omega
theorem cnt_drop (f : Nat → Nat) (b : Nat) (hb : b < 256) : cntF (upd f b 0) = (loF f b).length + (hiF f b).length := by
  unfold cntF; rw [hs_drop f b hb]; simp

/-- Of a mask that tells which are there. -/
def Tells (m : List Nat) (f : Nat → Nat) : Prop := ∀ b, b < 256 → inM m b = isC f b
theorem elems_tells {m : List Nat} {f : Nat → Nat} (h : Tells m f) : elems m = (List.range 256).filter (isC f) := by
  unfold elems
  apply List.filter_congr
  intro b hb
  exact h b (List.mem_range.1 hb)
theorem filter_lt_range (p : Nat → Bool) (n b : Nat) (hb : b ≤ n) : ((List.range n).filter p).filter (fun (c : Nat) => decide ((c : Int) < (b : Int))) = (List.range b).filter p := by
  rw [List.filter_filter]
  induction n with
  | zero => obtain rfl : b = 0 := by omega
            simp
  | succ n ih =>
    by_cases h : b = n + 1
    · subst h
      apply List.filter_congr
      intro c hc
      have := List.mem_range.1 hc
      simp; omega
    · rw [List.range_succ, List.filter_append, ih (by omega)]
      simp
      intro h2
      omega
theorem rank_tells {m : List Nat} {f : Nat → Nat} (hm : Ok m) (h : Tells m f) (b : Nat) (hb : b < 256) : cnt (bl m (max (b : Int) 0)) = (loF f b).length := by
  rw [cnt_len _ (bl_ok m hm _), elems_bl m hm, elems_tells h, show max (b : Int) 0 = (b : Int) by omega, filter_lt_range _ _ _ (by omega)]
  simp [loF]
theorem tells_with {m : List Nat} {f : Nat → Nat} (hm : Ok m) (h : Tells m f) (b x : Nat) (hb : b < 256) (hx : x ≠ 0) : Tells (wth m b) (upd f b x) := by
  intro c hc
  rw [inM_wth m hm b c hb, h c hc]
  unfold isC upd
  by_cases e : c = b <;> simp [e, hx]
theorem tells_without {m : List Nat} {f : Nat → Nat} (hm : Ok m) (h : Tells m f) (b : Nat) (hb : b < 256) : Tells (wo m b) (upd f b 0) := by
  intro c hc
  rw [inM_wo m hm b c hb, h c hc]
  unfold isC upd
  by_cases e : c = b <;> simp [e]
theorem tells_same {m : List Nat} {f : Nat → Nat} (h : Tells m f) (b x : Nat) (hb : f b ≠ 0) (hx : x ≠ 0) : Tells m (upd f b x) := by
  intro c hc
  rw [h c hc]
  unfold isC upd
  by_cases e : c = b
  · subst e; simp [hb, hx]
  · simp [e]

def mostN (s : Nat) : Nat := match s with | 0 => 4 | 1 => 16 | 2 => 48 | _ => 256
def fewN (s : Nat) : Int := match s with | 0 => -1 | 1 => 3 | 2 => 12 | _ => 40
/-- The kind behind a child more, and behind a child less. -/
def upK (s n : Nat) : Nat := if mostN s < n then s + 1 else s
def downK (s n : Nat) : Nat := if (n : Int) ≤ fewN s then s - 1 else s
theorem upK_le {s : Nat} (hs : s ≤ 3) (f : Nat → Nat) : upK s (cntF f) ≤ 3 := by
  have := cntF_le f
  unfold upK
  match s, hs with
  | 0, _ => split <;> omega
  | 1, _ => split <;> omega
  | 2, _ => split <;> omega
  | 3, _ => rw [if_neg (by show ¬ (256 < _); omega)]; omega
theorem downK_le {s : Nat} (hs : s ≤ 3) (n : Nat) : downK s n ≤ 3 := by unfold downK; split <;> omega
theorem down_pos {s n : Nat} (h : (n : Int) ≤ fewN s) : 0 < s := by
  match s with
  | 0 => have h' : (n : Int) ≤ -1 := h; omega
  | s + 1 => omega
theorem mostN_le (s : Nat) : mostN s ≤ 256 := by unfold mostN; split <;> omega
end Go.Proofs.YtmogjhljmljpfaaDoor
