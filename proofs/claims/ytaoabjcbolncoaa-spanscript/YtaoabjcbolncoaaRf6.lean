/- How the document's pool lies in memory; what keeps it. No walk here. -/
import Derived.Test.YtaoabjcbolncoaaUse6
namespace Go.Proofs.Ytaoabjcbolncoaa
open Go.RowKit
set_option linter.unusedVariables false
set_option linter.unusedSimpArgs false

/-- A string of the document's as it lies: not there, or there, with the slice of its bytes. -/
abbrev RowR := Option (Value × List Int)
def sCell : RowR → Value
  | none => .slice none 0 0
  | some (v, _) => v
def tCell : RowR → Value
  | none => .bool false
  | some _ => .bool true
def FtR (g : Nat) (vs vt vb : Value) (rs : List RowR) (k : Nat) : Prop := k = g ∨ vs.ownBlock = some k ∨ vt.ownBlock = some k ∨ vb.ownBlock = some k ∨ ∃ (i : Nat) (v : Value) (ws : List Int), rs[i]? = some (some (v, ws)) ∧ v.ownBlock = some k
structure RfC (w : World) (g : Nat) (most used : Int) (rs : List RowR) (back : List Nat) (vs vt vb : Value) : Prop where
  blk : Blk w g 47 [vs, vt, vb, .int .i64 most, .int .i64 used]
  ss : w.ownsRow 0 29 1 vs rs.length (rs.map sCell)
  ts : w.ownsRow 0 4 1 vt rs.length (rs.map tCell)
  backs : w.ownsRow 0 28 1 vb back.length (u32s back)
  words : ∀ (i : Nat) (v : Value) (ws : List Int), rs[i]? = some (some (v, ws)) → w.ownsRow 0 5 1 v ws.length (u8s ws) ∧ IsBytes ws
  apart : ∀ (i j q : Nat) (v v' : Value) (ws ws' : List Int), rs[i]? = some (some (v, ws)) → rs[j]? = some (some (v', ws')) → v.ownBlock = some q → v'.ownBlock = some q → i = j
section
variable {w w' : World} {g : Nat} {most used : Int} {rs : List RowR} {back : List Nat} {vs vt vb : Value}
theorem RfC.lt (h : RfC w g most used rs back vs vt vb) {k : Nat} (f : FtR g vs vt vb rs k) : k < w.heap.size := by
  rcases f with rfl | f | f | f | ⟨i, v, ws, f, e⟩
  · exact h.blk.lt
  · exact (h.ss.lt k f).2
  · exact (h.ts.lt k f).2
  · exact (h.backs.lt k f).2
  · exact ((h.words i v ws f).1.lt k e).2
theorem RfC.same (h : RfC w g most used rs back vs vt vb) (hs : ∀ k, FtR g vs vt vb rs k → w'.heap[k]? = w.heap[k]?) : RfC w' g most used rs back vs vt vb :=
  ⟨(hs g (.inl rfl)).trans h.blk, owns_same h.ss (fun k hk => hs k (.inr (.inl hk))), owns_same h.ts (fun k hk => hs k (.inr (.inr (.inl hk)))), owns_same h.backs (fun k hk => hs k (.inr (.inr (.inr (.inl hk))))),
    fun i v ws hi => ⟨owns_same (h.words i v ws hi).1 (fun k hk => hs k (.inr (.inr (.inr (.inr ⟨i, v, ws, hi, hk⟩))))), (h.words i v ws hi).2⟩, h.apart⟩
theorem RfC.still (h : RfC w g most used rs back vs vt vb) (s : Still w w') : RfC w' g most used rs back vs vt vb := by
  obtain ⟨n, rfl⟩ := s
  exact h.same (fun _ _ => rfl)
/-- The header turns, and what it points to: the strings themselves stand. -/
theorem RfC.hdr {used' : Int} {rs' : List RowR} {back' : List Nat} {vs' vt' vb' : Value} (h : RfC w g most used rs back vs vt vb) (b : Blk w' g 47 [vs', vt', vb', .int .i64 most, .int .i64 used'])
    (o1 : w'.ownsRow 0 29 1 vs' rs'.length (rs'.map sCell)) (o2 : w'.ownsRow 0 4 1 vt' rs'.length (rs'.map tCell)) (o3 : w'.ownsRow 0 28 1 vb' back'.length (u32s back'))
    (hw : ∀ (i : Nat) (v : Value) (ws : List Int), rs'[i]? = some (some (v, ws)) → w'.ownsRow 0 5 1 v ws.length (u8s ws) ∧ IsBytes ws)
    (ha : ∀ (i j q : Nat) (v v' : Value) (ws ws' : List Int), rs'[i]? = some (some (v, ws)) → rs'[j]? = some (some (v', ws')) → v.ownBlock = some q → v'.ownBlock = some q → i = j) : RfC w' g most used' rs' back' vs' vt' vb' := ⟨b, o1, o2, o3, hw, ha⟩
theorem RfC.use (h : RfC w g most used rs back vs vt vb) (u : Int) : RfC (w.setCell ⟨g, 4, none⟩ (.int .i64 u)) g most u rs back vs vt vb := by
  have sm : ∀ k, k ≠ g → (w.setCell ⟨g, 4, none⟩ (.int .i64 u)).heap[k]? = w.heap[k]? := fun k hk => Below.heap_setCell w ⟨g, 4, none⟩ _ k hk
  exact ⟨h.blk.set 4 _, owns_same h.ss (fun k hk => sm k (fun e => owns_apart h.ss h.blk (by decide) (e ▸ hk))), owns_same h.ts (fun k hk => sm k (fun e => owns_apart h.ts h.blk (by decide) (e ▸ hk))), owns_same h.backs (fun k hk => sm k (fun e => owns_apart h.backs h.blk (by decide) (e ▸ hk))),
    fun i v ws hi => ⟨owns_same (h.words i v ws hi).1 (fun k hk => sm k (fun e => owns_apart (h.words i v ws hi).1 h.blk (by decide) (e ▸ hk))), (h.words i v ws hi).2⟩, h.apart⟩
/-- One string is laid anew: none, or with bytes that are none of another's. -/
theorem RfC.turn (h : RfC w g most used rs back vs vt vb) {n : Nat} {r : RowR} (hn : n < rs.length) (o1 : w'.ownsRow 0 29 1 vs rs.length ((rs.set n r).map sCell)) (o2 : w'.ownsRow 0 4 1 vt rs.length ((rs.set n r).map tCell))
    (sm : ∀ k, k < w.heap.size → vs.ownBlock ≠ some k → vt.ownBlock ≠ some k → w'.heap[k]? = w.heap[k]?) (hq : ∀ v ws, r = some (v, ws) → w'.ownsRow 0 5 1 v ws.length (u8s ws) ∧ IsBytes ws)
    (hf : ∀ v ws q, r = some (v, ws) → v.ownBlock = some q → ∀ (i : Nat) (v2 : Value) (ws2 : List Int), i ≠ n → rs[i]? = some (some (v2, ws2)) → v2.ownBlock ≠ some q) : RfC w' g most used (rs.set n r) back vs vt vb := by
  have ow : ∀ (i : Nat) (v : Value) (ws : List Int), (rs.set n r)[i]? = some (some (v, ws)) → i = n ∧ r = some (v, ws) ∨ i ≠ n ∧ rs[i]? = some (some (v, ws)) := by
    intro i v ws hi
    rw [List.getElem?_set] at hi
    split at hi
    · rename_i e
      simp only [hn, if_true, Option.some.injEq] at hi
      exact .inl ⟨e.symm, hi⟩
    · rename_i e
      exact .inr ⟨fun x => e x.symm, hi⟩
  refine ⟨(sm g h.blk.lt (owns_apart h.ss h.blk (by decide)) (owns_apart h.ts h.blk (by decide))).trans h.blk, by rw [List.length_set]; exact o1, by rw [List.length_set]; exact o2, owns_same h.backs (fun k hk => sm k (h.backs.lt k hk).2 (owns_apart2 h.backs h.ss (by decide) k hk) (owns_apart2 h.backs h.ts (by decide) k hk)), ?_, ?_⟩
  · intro i v ws hi
    rcases ow i v ws hi with ⟨_, e⟩ | ⟨_, hi'⟩
    · exact hq v ws e
    · have b := h.words i v ws hi'
      exact ⟨owns_same b.1 (fun k hk => sm k (b.1.lt k hk).2 (owns_apart2 b.1 h.ss (by decide) k hk) (owns_apart2 b.1 h.ts (by decide) k hk)), b.2⟩
  · intro i j q v1 v2 ws1 ws2 hi hj e1 e2
    rcases ow i v1 ws1 hi with ⟨h1, h2⟩ | ⟨h1, hi'⟩
    · rcases ow j v2 ws2 hj with ⟨h4, _⟩ | ⟨h4, hj'⟩
      · omega
      · exact absurd e2 (hf v1 ws1 q h2 e1 j v2 ws2 h4 hj')
    · rcases ow j v2 ws2 hj with ⟨_, h5⟩ | ⟨_, hj'⟩
      · exact absurd e1 (hf v2 ws2 q h5 e2 i v1 ws1 h1 hi')
      · exact h.apart i j q v1 v2 ws1 ws2 hi' hj' e1 e2
end
/-- The document's pool, none of whose blocks is of K. -/
def RK (K : Nat → Prop) (w : World) (g : Nat) (most used : Int) (rs : List RowR) (back : List Nat) : Prop :=
  (∀ k, K k → k < w.heap.size) ∧ ∃ vs vt vb, RfC w g most used rs back vs vt vb ∧ ∀ k, FtR g vs vt vb rs k → ¬ K k
/-- As the document sees it. -/
def absR (rs : List RowR) : Strs := rs.map (Option.map Prod.snd)
def Rf (g : Nat) (most : Int) (cs : Strs) (back : List Nat) : Shape := fun K w => ∃ rs, absR rs = none :: cs ∧ RK K w g most (total cs) rs back ∧ GoodS most cs back
section
variable {K : Nat → Prop} {w : World} {g : Nat} {most : Int} {cs : Strs} {back : List Nat}
theorem Rf.good (h : Rf g most cs back K w) : GoodS most cs back := by
  obtain ⟨_, _, _, h⟩ := h
  exact h
theorem Rf.lies (g : Nat) (most : Int) (cs : Strs) (back : List Nat) : Lies (Rf g most cs back) := by
  rintro K w ⟨rs, h0, ⟨h1, vs, vt, vb, h2, h3⟩, h4⟩
  exact ⟨h1, FtR g vs vt vb rs, fun k hk => ⟨h3 k hk, h2.lt hk⟩, fun w' K' hs hk' => ⟨rs, h0, ⟨fun b hb => (hk' b hb).2, vs, vt, vb, h2.same hs, fun b hb hn => (hk' b hn).1 hb⟩, h4⟩⟩
end
theorem absR_length (rs : List RowR) : (absR rs).length = rs.length := by simp [absR]
theorem absR_get (rs : List RowR) (n : Nat) : (absR rs)[n]? = rs[n]?.map (Option.map Prod.snd) := by simp [absR]
theorem absR_len {rs : List RowR} {cs : Strs} (h : absR rs = none :: cs) : rs.length = cs.length + 1 := by
  have := congrArg List.length h
  simpa [absR] using this
theorem absR_has {rs : List RowR} {cs : Strs} {n : Nat} {ws : List Int} (h : absR rs = none :: cs) (hn : cs[n]? = some (some ws)) : ∃ v, rs[n + 1]? = some (some (v, ws)) := by
  have e : (absR rs)[n + 1]? = some (some ws) := by rw [h]; simpa using hn
  rw [absR_get] at e
  cases hr : rs[n + 1]? with
  | none => rw [hr] at e; simp at e
  | some r =>
    rw [hr] at e
    rcases r with _ | ⟨q, ws'⟩
    · simp at e
    · simp at e
      subst e
      exact ⟨q, rfl⟩
def hasR (rs : List RowR) (h : Nat) : Bool := (rs[h]?.join).isSome
theorem hasR_some {rs : List RowR} {x : Nat} {v : Value} {ws : List Int} (hr : rs[x]? = some (some (v, ws))) : hasR rs x = true := by
  unfold hasR
  rw [hr]
  rfl
theorem absR_none {rs : List RowR} {cs : Strs} {x : Nat} (h : absR rs = none :: cs) (hn : noH cs x) : hasR rs x = false := by
  have e : (absR rs)[x]? = (none :: cs)[x]? := by rw [h]
  rw [absR_get] at e
  have e2 : ((none :: cs)[x]?).join = none := by
    rcases x with _ | x
    · rfl
    · rw [List.getElem?_cons_succ]
      rcases hn with h0 | h0 | h0
      · omega
      · rw [List.getElem?_eq_none (by omega)]; rfl
      · simp only [Nat.add_sub_cancel] at h0
        rw [h0]; rfl
  unfold hasR
  rw [← e] at e2
  cases hr : rs[x]? with
  | none => rfl
  | some r =>
    rw [hr] at e2
    rcases r with _ | ⟨v, ws⟩
    · rfl
    · simp at e2
end Go.Proofs.Ytaoabjcbolncoaa
