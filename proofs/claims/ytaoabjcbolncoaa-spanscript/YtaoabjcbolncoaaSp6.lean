/- How a pool lies in memory; what keeps it. No walk here. -/
import Derived.Test.YtaoabjcbolncoaaByCalls
namespace Go.Proofs.Ytaoabjcbolncoaa
open Go.RowKit
set_option linter.unusedVariables false
set_option linter.unusedSimpArgs false

/-- A string as it lies: dropped, or kept: its block, how much of it is lost, its bytes. -/
abbrev Txt := Option (Nat × Nat × List Int)
def cell3 : Txt → List Value
  | none => [.slice none 0 0, .int .i64 0, .bool false]
  | some (q, l, xs) => [.slice (some ⟨q, 0, none⟩) xs.length xs.length, .int .i64 (l : Int), .bool true]
theorem cell3_length (r : Txt) : (cell3 r).length = 3 := by rcases r with _ | ⟨q, l, xs⟩ <;> rfl
/-- What is asked of a string that is kept. -/
structure TxtOk (w : World) (q l : Nat) (xs : List Int) : Prop where
  blk : Blk w q 5 (u8s xs)
  by_ : IsBytes xs
  lost : l ≤ xs.length
  len : xs.length ≤ 16777216
theorem TxtOk.same {w w' : World} {q l : Nat} {xs : List Int} (h : TxtOk w q l xs) (e : w'.heap[q]? = w.heap[q]?) : TxtOk w' q l xs := ⟨e.trans h.blk, h.by_, h.lost, h.len⟩

def FtS (g : Nat) (vt vb : Value) (rs : List Txt) (k : Nat) : Prop := k = g ∨ vt.ownBlock = some k ∨ vb.ownBlock = some k ∨ ∃ (i l : Nat) (xs : List Int), rs[i]? = some (some (k, l, xs))
structure SpC (w : World) (g : Nat) (most used : Int) (rs : List Txt) (back : List Nat) (vt vb : Value) : Prop where
  blk : Blk w g 57 [.int .i64 most, .int .i64 used, vt, vb]
  rows : w.ownsRow 0 60 3 vt rs.length (flat cell3 rs)
  backs : w.ownsRow 0 28 1 vb back.length (u32s back)
  words : ∀ (i q l : Nat) (xs : List Int), rs[i]? = some (some (q, l, xs)) → TxtOk w q l xs
  apart : ∀ (i j q l l' : Nat) (xs xs' : List Int), rs[i]? = some (some (q, l, xs)) → rs[j]? = some (some (q, l', xs')) → i = j
section
variable {w w' : World} {g : Nat} {most used : Int} {rs : List Txt} {back : List Nat} {vt vb : Value}
theorem SpC.lt (h : SpC w g most used rs back vt vb) {k : Nat} (f : FtS g vt vb rs k) : k < w.heap.size := by
  rcases f with rfl | f | f | ⟨i, l, xs, f⟩
  · exact h.blk.lt
  · exact (h.rows.lt k f).2
  · exact (h.backs.lt k f).2
  · exact (h.words i k l xs f).blk.lt
theorem SpC.same (h : SpC w g most used rs back vt vb) (hs : ∀ k, FtS g vt vb rs k → w'.heap[k]? = w.heap[k]?) : SpC w' g most used rs back vt vb :=
  ⟨(hs g (.inl rfl)).trans h.blk, owns_same h.rows (fun k hk => hs k (.inr (.inl hk))), owns_same h.backs (fun k hk => hs k (.inr (.inr (.inl hk)))),
    fun i q l xs hi => (h.words i q l xs hi).same (hs q (.inr (.inr (.inr ⟨i, l, xs, hi⟩)))), h.apart⟩
theorem SpC.still (h : SpC w g most used rs back vt vb) (s : Still w w') : SpC w' g most used rs back vt vb := by
  obtain ⟨n, rfl⟩ := s
  exact h.same (fun _ _ => rfl)
/-- One string is laid anew. -/
theorem SpC.turn (h : SpC w g most used rs back vt vb) {n : Nat} {r : Txt} (hn : n < rs.length) (o : w'.ownsRow 0 60 3 vt rs.length (flat cell3 (rs.set n r)))
    (sm : ∀ k, k < w.heap.size → vt.ownBlock ≠ some k → w'.heap[k]? = w.heap[k]?) (hq : ∀ q l xs, r = some (q, l, xs) → TxtOk w' q l xs)
    (hf : ∀ q l xs, r = some (q, l, xs) → ∀ (i l' : Nat) (xs' : List Int), i ≠ n → rs[i]? ≠ some (some (q, l', xs'))) : SpC w' g most used (rs.set n r) back vt vb := by
  have ow : ∀ (i q l : Nat) (xs : List Int), (rs.set n r)[i]? = some (some (q, l, xs)) → i = n ∧ r = some (q, l, xs) ∨ i ≠ n ∧ rs[i]? = some (some (q, l, xs)) := by
    intro i q l xs hi
    rw [List.getElem?_set] at hi
    split at hi
    · rename_i e
      simp only [hn, if_true, Option.some.injEq] at hi
      exact .inl ⟨e.symm, hi⟩
    · rename_i e
      exact .inr ⟨fun x => e x.symm, hi⟩
  refine ⟨(sm g h.blk.lt (owns_apart h.rows h.blk (by decide))).trans h.blk, by rw [List.length_set]; exact o, owns_same h.backs (fun k hk => sm k (h.backs.lt k hk).2 (owns_apart2 h.backs h.rows (by decide) k hk)), ?_, ?_⟩
  · intro i q l xs hi
    rcases ow i q l xs hi with ⟨_, e⟩ | ⟨_, hi'⟩
    · exact hq q l xs e
    · have b := h.words i q l xs hi'
      exact b.same (sm q b.blk.lt (owns_apart h.rows b.blk (by decide)))
  · intro i j q l l' xs xs' hi hj
    rcases ow i q l xs hi with ⟨h1, e1⟩ | ⟨h1, hi'⟩
    · rcases ow j q l' xs' hj with ⟨h2, e2⟩ | ⟨h2, hj'⟩
      · omega
      · exact absurd hj' (hf q l xs e1 j l' xs' h2)
    · rcases ow j q l' xs' hj with ⟨h2, e2⟩ | ⟨h2, hj'⟩
      · exact absurd hi' (hf q l' xs' e2 i l xs h1)
      · exact h.apart i j q l l' xs xs' hi' hj'
/-- The number of bytes turns. -/
theorem SpC.use (h : SpC w g most used rs back vt vb) (u : Int) : SpC (w.setCell ⟨g, 1, none⟩ (.int .i64 u)) g most u rs back vt vb := by
  have sm : ∀ k, k ≠ g → (w.setCell ⟨g, 1, none⟩ (.int .i64 u)).heap[k]? = w.heap[k]? := fun k hk => Below.heap_setCell w ⟨g, 1, none⟩ _ k hk
  exact ⟨h.blk.set 1 _, owns_same h.rows (fun k hk => sm k (fun e => owns_apart h.rows h.blk (by decide) (e ▸ hk))), owns_same h.backs (fun k hk => sm k (fun e => owns_apart h.backs h.blk (by decide) (e ▸ hk))),
    fun i q l xs hi => (h.words i q l xs hi).same (sm q (blk_apart (h.words i q l xs hi).blk h.blk (by decide))), h.apart⟩
end

/-- A pool none of whose blocks is of K. -/
def SK (K : Nat → Prop) (w : World) (g : Nat) (most used : Int) (rs : List Txt) (back : List Nat) : Prop :=
  (∀ k, K k → k < w.heap.size) ∧ ∃ vt vb, SpC w g most used rs back vt vb ∧ ∀ k, FtS g vt vb rs k → ¬ K k
theorem SK.still {K : Nat → Prop} {w w' : World} {g : Nat} {most used : Int} {rs : List Txt} {back : List Nat} (h : SK K w g most used rs back) (s : Still w w') : SK K w' g most used rs back := by
  obtain ⟨n, rfl⟩ := s
  obtain ⟨h0, vt, vb, h1, h2⟩ := h
  exact ⟨h0, vt, vb, h1.same (fun _ _ => rfl), h2⟩

/-- The pool as the document sees it: its strings in their order (the bytes of one that is kept), those dropped. -/
abbrev Strs := List (Option (List Int))
def absT (rs : List Txt) : Strs := rs.map (Option.map fun x => x.2.2.drop x.2.1)
theorem absT_length (rs : List Txt) : (absT rs).length = rs.length := by simp [absT]
theorem absT_get (rs : List Txt) (n : Nat) : (absT rs)[n]? = rs[n]?.map (Option.map fun x => x.2.2.drop x.2.1) := by simp [absT]
def lenO : Option (List Int) → Nat
  | none => 0
  | some xs => xs.length
/-- How many bytes there are. -/
def total : Strs → Nat
  | [] => 0
  | x :: cs => lenO x + total cs
theorem total_append : ∀ cs ds : Strs, total (cs ++ ds) = total cs + total ds
  | [], ds => by simp [total]
  | x :: cs, ds => by simp [total, total_append cs ds]; omega
theorem total_set : ∀ (cs : Strs) (n : Nat) (x y : Option (List Int)), cs[n]? = some x → total (cs.set n y) + lenO x = total cs + lenO y
  | [], n, x, y, h => by simp at h
  | a :: cs, 0, x, y, h => by simp at h; subst h; simp [total]; omega
  | a :: cs, n + 1, x, y, h => by
    have := total_set cs n x y (by simpa using h)
    simp [total]
    omega
theorem total_get (cs : Strs) (n : Nat) (x : Option (List Int)) (h : cs[n]? = some x) : lenO x ≤ total cs := by
  have := total_set cs n x none h
  simp [lenO] at this ⊢
  omega
structure GoodS (most : Int) (cs : Strs) (back : List Nat) : Prop where
  room : (total cs : Int) ≤ most
  lim : most ≤ 16777216
  cnt : back.length = cs.countP (·.isNone)
  free : ∀ h ∈ back, 1 ≤ h ∧ cs[h - 1]? = some none
  nodup : back.Nodup
  by_ : ∀ xs, some xs ∈ cs → IsBytes xs
section
variable {most : Int} {cs : Strs} {back : List Nat}
theorem GoodS.blen (h : GoodS most cs back) : back.length ≤ cs.length := by rw [h.cnt]; exact List.countP_le_length
theorem mem_set_some {cs : Strs} {n : Nat} {y : Option (List Int)} {xs : List Int} (h : some xs ∈ cs.set n y) : some xs ∈ cs ∨ y = some xs := by
  rcases List.mem_or_eq_of_mem_set h with h | h
  · exact .inl h
  · exact .inr h.symm
theorem GoodS.take {h : Nat} (H : GoodS most cs (back ++ [h])) (xs : List Int) (hx : IsBytes xs) (hr : (xs.length : Int) ≤ most - total cs) : GoodS most (cs.set (h - 1) (some xs)) back := by
  obtain ⟨h1, h2⟩ := H.free h (by simp)
  have hlt := (List.getElem?_eq_some_iff.1 h2).1
  have hnd := H.nodup
  rw [List.nodup_append] at hnd
  refine ⟨?_, H.lim, ?_, ?_, hnd.1, ?_⟩
  · have := total_set cs (h - 1) none (some xs) h2
    simp [lenO] at this
    omega
  · have hc := H.cnt
    have : cs.countP (·.isNone) = (cs.set (h - 1) (some xs)).countP (·.isNone) + 1 := by
      rw [List.countP_set hlt]
      have e : cs[h - 1] = none := by rw [List.getElem?_eq_getElem hlt] at h2; simpa using h2
      have hp : 0 < cs.countP (·.isNone) := List.countP_pos_iff.2 ⟨none, by rw [← e]; exact List.getElem_mem _, rfl⟩
      simp [e]
      omega
    simp at hc
    omega
  · intro k hk
    obtain ⟨h3, h4⟩ := H.free k (by simp [hk])
    refine ⟨h3, ?_⟩
    have hne : k ≠ h := hnd.2.2 k hk h (by simp)
    rw [List.getElem?_set_ne (by omega)]
    exact h4
  · intro ys hy
    rcases mem_set_some hy with hy | hy
    · exact H.by_ ys hy
    · cases hy; exact hx
theorem GoodS.grow (H : GoodS most cs []) (xs : List Int) (hx : IsBytes xs) (hr : (xs.length : Int) ≤ most - total cs) : GoodS most (cs ++ [some xs]) [] := by
  refine ⟨?_, H.lim, by simpa using H.cnt, by simp, by simp, ?_⟩
  · rw [total_append]
    simp [total, lenO]
    omega
  · intro ys hy
    simp at hy
    rcases hy with hy | rfl
    · exact H.by_ ys hy
    · exact hx
theorem GoodS.give (H : GoodS most cs back) (n : Nat) (xs : List Int) (hn : cs[n]? = some (some xs)) : GoodS most (cs.set n none) (back ++ [n + 1]) := by
  have hlt := (List.getElem?_eq_some_iff.1 hn).1
  have e : cs[n] = some xs := by rw [List.getElem?_eq_getElem hlt] at hn; simpa using hn
  refine ⟨?_, H.lim, ?_, ?_, ?_, ?_⟩
  · have := total_set cs n (some xs) none hn
    have := H.room
    simp [lenO] at *
    omega
  · rw [List.countP_set hlt]
    have := H.cnt
    simp [e]
    omega
  · intro k hk
    rw [List.mem_append] at hk
    rcases hk with hk | hk
    · obtain ⟨h3, h4⟩ := H.free k hk
      refine ⟨h3, ?_⟩
      rw [List.getElem?_set]
      split
      · rename_i e'
        subst e'
        simp [hlt]
      · exact h4
    · simp at hk
      subst hk
      simp [hlt]
  · rw [List.nodup_append]
    refine ⟨H.nodup, by simp, ?_⟩
    intro a ha b hb hab
    simp at hb
    subst hb
    subst hab
    have := (H.free _ ha).2
    simp [hn] at this
  · intro ys hy
    rcases mem_set_some hy with hy | hy
    · exact H.by_ ys hy
    · cases hy
theorem GoodS.less (H : GoodS most cs back) (n : Nat) (xs ys : List Int) (hn : cs[n]? = some (some xs)) (hy : IsBytes ys) (hl : ys.length ≤ xs.length) : GoodS most (cs.set n (some ys)) back := by
  have hlt := (List.getElem?_eq_some_iff.1 hn).1
  have e : cs[n] = some xs := by rw [List.getElem?_eq_getElem hlt] at hn; simpa using hn
  refine ⟨?_, H.lim, ?_, fun h hh => ⟨(H.free h hh).1, ?_⟩, H.nodup, ?_⟩
  · have := total_set cs n (some xs) (some ys) hn
    have := H.room
    simp [lenO] at *
    omega
  · rw [List.countP_set hlt]
    have := H.cnt
    simp [e]
    omega
  · have h0 := (H.free h hh).2
    rw [List.getElem?_set]
    split
    · rename_i e
      rw [← e, hn] at h0
      simp at h0
    · exact h0
  · intro zs hz
    rcases mem_set_some hz with hz | hz
    · exact H.by_ zs hz
    · cases hz; exact hy
theorem GoodS.bytes (H : GoodS most cs back) {n : Nat} {xs : List Int} (hn : cs[n]? = some (some xs)) : IsBytes xs := H.by_ xs (List.mem_of_getElem? hn)
theorem GoodS.len (H : GoodS most cs back) {n : Nat} {xs : List Int} (hn : cs[n]? = some (some xs)) : (xs.length : Int) ≤ total cs ∧ (total cs : Int) ≤ most ∧ most ≤ 16777216 := by
  have := total_get cs n _ hn
  have h1 := H.room
  have h2 := H.lim
  simp [lenO] at this
  omega
end
/-- A pool, by its strings. -/
def Sp (g : Nat) (most : Int) (cs : Strs) (back : List Nat) : Shape := fun K w => ∃ rs, absT rs = cs ∧ SK K w g most (total cs) rs back ∧ GoodS most cs back
section
variable {K : Nat → Prop} {w : World} {g : Nat} {most : Int} {cs : Strs} {back : List Nat}
theorem Sp.good (h : Sp g most cs back K w) : GoodS most cs back := by
  obtain ⟨_, _, _, h⟩ := h
  exact h
theorem Sp.lies (g : Nat) (most : Int) (cs : Strs) (back : List Nat) : Lies (Sp g most cs back) := by
  rintro K w ⟨rs, h0, ⟨h1, vt, vb, h2, h3⟩, h4⟩
  exact ⟨h1, FtS g vt vb rs, fun k hk => ⟨h3 k hk, h2.lt hk⟩, fun w' K' hs hk' => ⟨rs, h0, ⟨fun b hb => (hk' b hb).2, vt, vb, h2.same hs, fun b hb hn => (hk' b hn).1 hb⟩, h4⟩⟩
end
/-- There is no string of handle h. -/
def noH (cs : Strs) (h : Nat) : Prop := h = 0 ∨ cs.length < h ∨ cs[h - 1]? = some none
/-- A handle has a string, or it has none. -/
theorem has_or (cs : Strs) (h : Nat) : noH cs h ∨ ∃ n xs, h = n + 1 ∧ cs[n]? = some (some xs) := by
  by_cases h0 : h = 0
  · exact .inl (.inl h0)
  by_cases h1 : cs.length < h
  · exact .inl (.inr (.inl h1))
  cases hr : cs[h - 1]? with
  | none => exact absurd hr (by rw [List.getElem?_eq_getElem (by omega)]; simp)
  | some r =>
    cases r with
    | none => exact .inl (.inr (.inr hr))
    | some ws => exact .inr ⟨h - 1, ws, by omega, hr⟩
theorem absT_has {rs : List Txt} {cs : Strs} {n : Nat} {xs : List Int} (h : absT rs = cs) (hn : cs[n]? = some (some xs)) : ∃ q l ys, rs[n]? = some (some (q, l, ys)) ∧ ys.drop l = xs := by
  rw [← h, absT_get] at hn
  cases hr : rs[n]? with
  | none => rw [hr] at hn; simp at hn
  | some r =>
    rw [hr] at hn
    rcases r with _ | ⟨q, l, ys⟩
    · simp at hn
    · simp at hn
      exact ⟨q, l, ys, rfl, hn⟩
def noTxt (rs : List Txt) (h : Nat) : Prop := h = 0 ∨ rs.length < h ∨ rs[h - 1]? = some none
theorem absT_none {rs : List Txt} {cs : Strs} {h : Nat} (e : absT rs = cs) (hn : noH cs h) : noTxt rs h := by
  rcases hn with hn | hn | hn
  · exact .inl hn
  · exact .inr (.inl (by rw [← absT_length, e]; exact hn))
  · refine .inr (.inr ?_)
    rw [← e, absT_get] at hn
    cases hr : rs[h - 1]? with
    | none => rw [hr] at hn; simp at hn
    | some r =>
      rw [hr] at hn
      rcases r with _ | ⟨q, l, ys⟩
      · rfl
      · simp at hn
end Go.Proofs.Ytaoabjcbolncoaa
