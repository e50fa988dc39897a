/- How the document's arena lies in memory; what keeps it. No walk here. -/
import Derived.Test.YtjbpffeembepcaaHand5
namespace Go.Proofs.Ytjbpffeembepcaa
open Go.RowKit
set_option linter.unusedVariables false

/-- A cell of the document's as it lies: free, or taken, with the slice of its words. -/
abbrev RowR := Option (Value × List Int)
def cellR : RowR → List Value
  | none => [.slice none 0 0, .bool false]
  | some (v, _) => [v, .bool true]
def flatR : List RowR → List Value
  | [] => []
  | r :: rs => cellR r ++ flatR rs
theorem cellR_length (r : RowR) : (cellR r).length = 2 := by rcases r with _ | ⟨q, ws⟩ <;> rfl
theorem flatR_length : ∀ rs : List RowR, (flatR rs).length = rs.length * 2
  | [] => rfl
  | r :: rs => by simp [flatR, cellR_length, flatR_length rs]; omega
theorem flatR_append : ∀ rs ss : List RowR, flatR (rs ++ ss) = flatR rs ++ flatR ss
  | [], ss => rfl
  | r :: rs, ss => by simp [flatR, flatR_append rs ss]
theorem flatR_get : ∀ (rs : List RowR) (i : Nat) (r : RowR) (j : Nat), rs[i]? = some r → j < 2 → (flatR rs)[i * 2 + j]? = (cellR r)[j]?
  | [], i, r, j, h, hj => by simp at h
  | a :: rs, 0, r, j, h, hj => by
    simp at h
    subst h
    rw [flatR, List.getElem?_append_left (by rw [cellR_length]; omega)]
    simp
  | a :: rs, i + 1, r, j, h, hj => by
    rw [flatR, List.getElem?_append_right (by rw [cellR_length]; omega), cellR_length, show (i + 1) * 2 + j - 2 = i * 2 + j by omega]
    exact flatR_get rs i r j (by simpa using h) hj
theorem flatR_set : ∀ (rs : List RowR) (i : Nat) (r : RowR) (u v : Value), cellR r = [u, v] → i < rs.length → ((flatR rs).set (i * 2) u).set (i * 2 + 1) v = flatR (rs.set i r)
  | [], i, r, u, v, h, hi => by simp at hi
  | a :: rs, 0, r, u, v, h, hi => by
    obtain ⟨x, y, hxy⟩ : ∃ x y, cellR a = [x, y] := by rcases a with _ | ⟨q, ws⟩ <;> exact ⟨_, _, rfl⟩
    simp [flatR, hxy, h]
  | a :: rs, i + 1, r, u, v, h, hi => by
    have e1 : (i + 1) * 2 = 2 + i * 2 := by omega
    rw [flatR, e1, List.set_append_right _ _ (by rw [cellR_length]; omega), cellR_length, show 2 + i * 2 - 2 = i * 2 by omega, List.set_append_right _ _ (by rw [cellR_length]; omega), cellR_length, show 2 + i * 2 + 1 - 2 = i * 2 + 1 by omega, flatR_set rs i r u v h (by simpa using hi)]
    rfl

/-- Its blocks. -/
def FtR (g : Nat) (vc vb : Value) (rs : List RowR) (k : Nat) : Prop := k = g ∨ vc.ownBlock = some k ∨ vb.ownBlock = some k ∨ ∃ (i : Nat) (v : Value) (ws : List Int), rs[i]? = some (some (v, ws)) ∧ v.ownBlock = some k
structure RfC (w : World) (g : Nat) (most : Int) (rs : List RowR) (back : List Nat) (vc vb : Value) : Prop where
  blk : Blk w g 49 [vc, vb, .int .i64 most]
  rows : w.ownsRow 0 45 2 vc rs.length (flatR rs)
  backs : w.ownsRow 0 28 1 vb back.length (u32s back)
  words : ∀ (i : Nat) (v : Value) (ws : List Int), rs[i]? = some (some (v, ws)) → w.ownsRow 0 32 1 v ws.length (u64s ws)
  apart : ∀ (i j q : Nat) (v v' : Value) (ws ws' : List Int), rs[i]? = some (some (v, ws)) → rs[j]? = some (some (v', ws')) → v.ownBlock = some q → v'.ownBlock = some q → i = j
section
variable {w w' : World} {g : Nat} {most : Int} {rs : List RowR} {back : List Nat} {vc vb : Value}
theorem RfC.lt (h : RfC w g most rs back vc vb) {k : Nat} (f : FtR g vc vb rs k) : k < w.heap.size := by
  rcases f with rfl | f | f | ⟨i, v, ws, f, e⟩
  · exact h.blk.lt
  · exact (h.rows.lt k f).2
  · exact (h.backs.lt k f).2
  · exact ((h.words i v ws f).lt k e).2
theorem RfC.same (h : RfC w g most rs back vc vb) (hs : ∀ k, FtR g vc vb rs k → w'.heap[k]? = w.heap[k]?) : RfC w' g most rs back vc vb :=
  ⟨(hs g (.inl rfl)).trans h.blk, owns_same h.rows (fun k hk => hs k (.inr (.inl hk))), owns_same h.backs (fun k hk => hs k (.inr (.inr (.inl hk)))),
    fun i v ws hi => owns_same (h.words i v ws hi) (fun k hk => hs k (.inr (.inr (.inr ⟨i, v, ws, hi, hk⟩)))), h.apart⟩
theorem RfC.still (h : RfC w g most rs back vc vb) (s : Still w w') : RfC w' g most rs back vc vb := by
  obtain ⟨n, rfl⟩ := s
  exact h.same (fun _ _ => rfl)
/-- The document's arena, none of whose blocks is of K. -/
def RK (K : Nat → Prop) (w : World) (g : Nat) (most : Int) (rs : List RowR) (back : List Nat) : Prop :=
  (∀ k, K k → k < w.heap.size) ∧ ∃ vc vb, RfC w g most rs back vc vb ∧ ∀ k, FtR g vc vb rs k → ¬ K k
/-- As the document sees it. -/
def absR (rs : List RowR) : Cells := rs.map (Option.map Prod.snd)
def Rf (K : Nat → Prop) (w : World) (g : Nat) (most : Int) (cs : Cells) (back : List Nat) : Prop := ∃ rs, absR rs = none :: cs ∧ RK K w g most rs back ∧ Good most cs back
variable {K : Nat → Prop} {cs : Cells}
theorem Rf.good (h : Rf K w g most cs back) : Good most cs back := by
  obtain ⟨_, _, _, h⟩ := h
  exact h
theorem Rf.kp {K' : Nat → Prop} (h : Rf K w g most cs back) (k : Kp K' w w') (hk : ∀ k, k < w.heap.size → ¬ K k → K' k) : Rf K w' g most cs back := by
  obtain ⟨rs, h0, ⟨h1, vc, vb, h2, h3⟩, h4⟩ := h
  exact ⟨rs, h0, ⟨fun b hb => Nat.lt_of_lt_of_le (h1 b hb) k.size, vc, vb, h2.same (fun b hb => k.block b (hk b (h2.lt hb) (h3 b hb)) (h2.lt hb)), h3⟩, h4⟩
theorem Rf.still (h : Rf K w g most cs back) (s : Still w w') : Rf K w' g most cs back := by
  obtain ⟨n, rfl⟩ := s
  obtain ⟨rs, h0, ⟨h1, vc, vb, h2, h3⟩, h4⟩ := h
  exact ⟨rs, h0, ⟨h1, vc, vb, h2.same (fun _ _ => rfl), h3⟩, h4⟩
theorem Rf.foot (h : Rf K w g most cs back) :
    ∃ F : Nat → Prop, (∀ k, F k → ¬ K k ∧ k < w.heap.size) ∧ ∀ w' (K' : Nat → Prop), (∀ k, F k → w'.heap[k]? = w.heap[k]?) → (∀ k, K' k → ¬ F k ∧ k < w'.heap.size) → Rf K' w' g most cs back := by
  obtain ⟨rs, h0, ⟨h1, vc, vb, h2, h3⟩, h4⟩ := h
  exact ⟨FtR g vc vb rs, fun k hk => ⟨h3 k hk, h2.lt hk⟩, fun w' K' hs hk' => ⟨rs, h0, ⟨fun b hb => (hk' b hb).2, vc, vb, h2.same hs, fun b hb hn => (hk' b hn).1 hb⟩, h4⟩⟩
theorem Ar.foot' (h : Ar K w g most cs back) :
    ∃ F : Nat → Prop, (∀ k, F k → ¬ K k ∧ k < w.heap.size) ∧ ∀ w' (K' : Nat → Prop), (∀ k, F k → w'.heap[k]? = w.heap[k]?) → (∀ k, K' k → ¬ F k ∧ k < w'.heap.size) → Ar K' w' g most cs back := by
  obtain ⟨rs, h0, ⟨h1, vc, vb, h2, h3⟩, h4⟩ := h
  exact ⟨Ft g vc vb rs, fun k hk => ⟨h3 k hk, h2.lt hk⟩, fun w' K' hs hk' => ⟨rs, h0, ⟨fun b hb => (hk' b hb).2, vc, vb, h2.same hs, fun b hb hn => (hk' b hn).1 hb⟩, h4⟩⟩
end

/-- An arena and the document's arena beside each other; the blocks of X are neither's. -/
def Pair (X : Nat → Prop) (w : World) (ga gr : Nat) (most : Int) (cs : Cells) (back : List Nat) (cs' : Cells) (back' : List Nat) : Prop :=
  ∃ FA FR : Nat → Prop, (∀ k, FA k → k < w.heap.size ∧ ¬ FR k ∧ ¬ X k) ∧ (∀ k, FR k → k < w.heap.size ∧ ¬ X k) ∧ (∀ k, X k → k < w.heap.size) ∧
    (∀ w' (K' : Nat → Prop), (∀ k, FA k → w'.heap[k]? = w.heap[k]?) → (∀ k, K' k → ¬ FA k ∧ k < w'.heap.size) → Ar K' w' ga most cs back) ∧
    (∀ w' (K' : Nat → Prop), (∀ k, FR k → w'.heap[k]? = w.heap[k]?) → (∀ k, K' k → ¬ FR k ∧ k < w'.heap.size) → Rf K' w' gr most cs' back')
section
variable {X : Nat → Prop} {w w' : World} {ga gr : Nat} {most : Int} {cs cs' : Cells} {back back' : List Nat}
/-- Nothing that was there has turned. -/
theorem Pair.below (h : Pair X w ga gr most cs back cs' back') (f : Below w.heap.size w w') : Pair X w' ga gr most cs back cs' back' := by
  obtain ⟨FA, FR, h1, h2, h3, h4, h5⟩ := h
  have hs := f.size
  exact ⟨FA, FR, fun k hk => ⟨by have := (h1 k hk).1; omega, (h1 k hk).2⟩, fun k hk => ⟨by have := (h2 k hk).1; omega, (h2 k hk).2⟩, fun k hk => by have := h3 k hk; omega,
    fun w2 K' hw hK => h4 w2 K' (fun k hk => (hw k hk).trans (f.block k (h1 k hk).1)) hK, fun w2 K' hw hK => h5 w2 K' (fun k hk => (hw k hk).trans (f.block k (h2 k hk).1)) hK⟩
/-- What is new may be kept from both. -/
theorem Pair.more (h : Pair X w ga gr most cs back cs' back') (f : Below w.heap.size w w') : Pair (fun k => X k ∨ w.heap.size ≤ k ∧ k < w'.heap.size) w' ga gr most cs back cs' back' := by
  obtain ⟨FA, FR, h1, h2, h3, h4, h5⟩ := h
  have hs := f.size
  refine ⟨FA, FR, fun k hk => ⟨by have := (h1 k hk).1; omega, (h1 k hk).2.1, ?_⟩, fun k hk => ⟨by have := (h2 k hk).1; omega, ?_⟩, ?_,
    fun w2 K' hw hK => h4 w2 K' (fun k hk => (hw k hk).trans (f.block k (h1 k hk).1)) hK, fun w2 K' hw hK => h5 w2 K' (fun k hk => (hw k hk).trans (f.block k (h2 k hk).1)) hK⟩
  · rintro (hx | hx)
    · exact (h1 k hk).2.2 hx
    · have := (h1 k hk).1; omega
  · rintro (hx | hx)
    · exact (h2 k hk).2 hx
    · have := (h2 k hk).1; omega
  · rintro k (hx | hx)
    · have := h3 k hx; omega
    · exact hx.2
theorem Pair.less {X' : Nat → Prop} (h : Pair X w ga gr most cs back cs' back') (hx : ∀ k, X' k → X k) : Pair X' w ga gr most cs back cs' back' := by
  obtain ⟨FA, FR, h1, h2, h3, h4, h5⟩ := h
  exact ⟨FA, FR, fun k hk => ⟨(h1 k hk).1, (h1 k hk).2.1, fun x => (h1 k hk).2.2 (hx k x)⟩, fun k hk => ⟨(h2 k hk).1, fun x => (h2 k hk).2 (hx k x)⟩, fun k hk => h3 k (hx k hk), h4, h5⟩
/-- A block of X turns. -/
theorem Pair.grown {row : Option Nat} (h : Pair X w ga gr most cs back cs' back') (g : w.grownBy w' row) (hr : ∀ k, row = some k → X k) : Pair X w' ga gr most cs back cs' back' := by
  obtain ⟨FA, FR, h1, h2, h3, h4, h5⟩ := h
  have hs := g.size
  exact ⟨FA, FR, fun k hk => ⟨by have := (h1 k hk).1; omega, (h1 k hk).2⟩, fun k hk => ⟨by have := (h2 k hk).1; omega, (h2 k hk).2⟩, fun k hk => by have := h3 k hk; omega,
    fun w2 K' hw hK => h4 w2 K' (fun k hk => (hw k hk).trans (g.block k (h1 k hk).1 (fun e => (h1 k hk).2.2 (hr k e.symm)))) hK,
    fun w2 K' hw hK => h5 w2 K' (fun k hk => (hw k hk).trans (g.block k (h2 k hk).1 (fun e => (h2 k hk).2 (hr k e.symm)))) hK⟩
/-- The arena, with all else kept; and the pair behind one of its calls. -/
theorem Pair.arena (h : Pair X w ga gr most cs back cs' back') : ∃ K : Nat → Prop, (∀ k, X k → K k) ∧ Ar K w ga most cs back ∧
    ∀ w' cs2 back2, Ar K w' ga most cs2 back2 → Kp K w w' → Pair X w' ga gr most cs2 back2 cs' back' ∧ Kp X w w' := by
  obtain ⟨FA, FR, h1, h2, h3, h4, h5⟩ := h
  refine ⟨fun k => k < w.heap.size ∧ ¬ FA k, fun k hk => ⟨h3 k hk, fun f => (h1 k f).2.2 hk⟩, h4 w _ (fun _ _ => rfl) (fun k hk => ⟨hk.2, hk.1⟩), fun w' cs2 back2 A k => ⟨?_, k.mono (fun b hb => ⟨h3 b hb, fun f => (h1 b f).2.2 hb⟩)⟩⟩
  obtain ⟨F, f1, f2⟩ := A.foot'
  have hs := k.size
  refine ⟨F, FR, fun b hb => ⟨(f1 b hb).2, fun hf => (f1 b hb).1 ⟨(h2 b hf).1, fun ha => (h1 b ha).2.1 hf⟩, fun hx => (f1 b hb).1 ⟨h3 b hx, fun ha => (h1 b ha).2.2 hx⟩⟩, fun b hb => ⟨by have := (h2 b hb).1; omega, (h2 b hb).2⟩, fun b hb => by have := h3 b hb; omega, f2, ?_⟩
  exact fun w2 K' hw hK => h5 w2 K' (fun b hb => (hw b hb).trans (k.block b ⟨(h2 b hb).1, fun ha => (h1 b ha).2.1 hb⟩ (h2 b hb).1)) hK
theorem Pair.ref (h : Pair X w ga gr most cs back cs' back') : ∃ K : Nat → Prop, (∀ k, X k → K k) ∧ Rf K w gr most cs' back' ∧
    ∀ w' cs2 back2, Rf K w' gr most cs2 back2 → Kp K w w' → Pair X w' ga gr most cs back cs2 back2 ∧ Kp X w w' := by
  obtain ⟨FA, FR, h1, h2, h3, h4, h5⟩ := h
  refine ⟨fun k => k < w.heap.size ∧ ¬ FR k, fun k hk => ⟨h3 k hk, fun f => (h2 k f).2 hk⟩, h5 w _ (fun _ _ => rfl) (fun k hk => ⟨hk.2, hk.1⟩), fun w' cs2 back2 A k => ⟨?_, k.mono (fun b hb => ⟨h3 b hb, fun f => (h2 b f).2 hb⟩)⟩⟩
  obtain ⟨F, f1, f2⟩ := A.foot
  have hs := k.size
  refine ⟨FA, F, fun b hb => ⟨by have := (h1 b hb).1; omega, fun hf => (f1 b hf).1 ⟨(h1 b hb).1, (h1 b hb).2.1⟩, (h1 b hb).2.2⟩, fun b hb => ⟨(f1 b hb).2, fun hx => (f1 b hb).1 ⟨h3 b hx, fun ha => (h2 b ha).2 hx⟩⟩, fun b hb => by have := h3 b hb; omega, ?_, f2⟩
  exact fun w2 K' hw hK => h4 w2 K' (fun b hb => (hw b hb).trans (k.block b ⟨(h1 b hb).1, (h1 b hb).2.1⟩ (h1 b hb).1)) hK
end
end Go.Proofs.Ytjbpffeembepcaa
