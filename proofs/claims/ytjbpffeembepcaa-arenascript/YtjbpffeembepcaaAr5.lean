/- How an arena lies in memory; what keeps it. No walk here. -/
import Derived.Test.YtjbpffeembepcaaApp
import Derived.WalkSmall
namespace Go.Proofs.Ytjbpffeembepcaa
open Go.RowKit
set_option linter.unusedVariables false

/-- Only blocks that are not of K may have turned. -/
structure Kp (K : Nat → Prop) (w w' : World) : Prop where
  os : w'.os = w.os
  tape : w'.tape = w.tape
  output : w'.output = w.output
  size : w.heap.size ≤ w'.heap.size
  block : ∀ k, K k → k < w.heap.size → w'.heap[k]? = w.heap[k]?
theorem Kp.refl (K : Nat → Prop) (w : World) : Kp K w w := ⟨rfl, rfl, rfl, Nat.le_refl _, fun _ _ _ => rfl⟩
theorem Kp.trans {K : Nat → Prop} {a b c : World} (h : Kp K a b) (k : Kp K b c) : Kp K a c :=
  ⟨k.os.trans h.os, k.tape.trans h.tape, k.output.trans h.output, Nat.le_trans h.size k.size, fun i hi hl => (k.block i hi (Nat.lt_of_lt_of_le hl h.size)).trans (h.block i hi hl)⟩
theorem Kp.mono {K K' : Nat → Prop} {a b : World} (h : Kp K a b) (hk : ∀ k, K' k → K k) : Kp K' a b := ⟨h.os, h.tape, h.output, h.size, fun i hi hl => h.block i (hk i hi) hl⟩
theorem Kp.drew {K : Nat → Prop} {a b : World} (h : Kp K a b) : Kp K a b.drew := ⟨h.os, h.tape, h.output, h.size, h.block⟩
theorem Kp.drewN {K : Nat → Prop} {a b : World} (h : Kp K a b) (n : Nat) : Kp K a (b.drewN n) := ⟨h.os, h.tape, h.output, h.size, h.block⟩
theorem Kp.alloc {K : Nat → Prop} {a b : World} (h : Kp K a b) (o : Obj) : Kp K a (b.alloc o) :=
  h.trans ⟨rfl, rfl, rfl, by simp, fun k _ hl => Below.heap_alloc b o k hl⟩
theorem Kp.setCell {K : Nat → Prop} {a b : World} (h : Kp K a b) (g o : Nat) (v : Value) (hg : ¬ K g) : Kp K a (b.setCell ⟨g, o, none⟩ v) :=
  h.trans ⟨rfl, rfl, rfl, by simp [World.setCell], fun k hk _ => Below.heap_setCell b ⟨g, o, none⟩ v k (fun e => hg (by cases e; exact hk))⟩
theorem Kp.grown {K : Nat → Prop} {a b c : World} {row : Option Nat} (h : Kp K a b) (g : b.grownBy c row) (hr : ∀ k, row = some k → ¬ K k) : Kp K a c :=
  h.trans ⟨g.os, g.tape, g.output, g.size, fun k hk hl => g.block k hl (fun e => hr k e.symm hk)⟩
theorem Kp.of_below {B : Nat} {a b : World} (h : Below B a b) : Kp (fun k => k < B) a b := ⟨h.os, h.tape, h.output, h.size, fun k hk _ => h.block k hk⟩
theorem Kp.below {K : Nat → Prop} {a b : World} (h : Kp K a b) {B : Nat} (hB : B ≤ a.heap.size) (hk : ∀ k, k < B → K k) : Below B a b :=
  ⟨h.os, h.tape, h.output, h.size, fun k hl => h.block k (hk k hl) (by omega)⟩
theorem Blk.kp {K : Nat → Prop} {w w' : World} {g : Nat} {e : TypeId} {cur : List Value} (h : Blk w g e cur) (k : Kp K w w') (hg : K g) : Blk w' g e cur := (k.block g hg h.lt).trans h

theorem owns_same {w w' : World} {base : Nat} {e : TypeId} {size : Nat} {v : Value} {n : Nat} {xs : List Value} (h : w.ownsRow base e size v n xs) (hs : ∀ k, v.ownBlock = some k → w'.heap[k]? = w.heap[k]?) : w'.ownsRow base e size v n xs := by
  refine ⟨h.1, ?_⟩
  rcases h.2 with hn | ⟨g, cap, cur, rfl, hb, hgg, rest⟩
  · exact .inl hn
  · exact .inr ⟨g, cap, cur, rfl, hb, (hs g rfl).trans hgg, rest⟩
theorem owns_kp {K : Nat → Prop} {w w' : World} {base : Nat} {e : TypeId} {size : Nat} {v : Value} {n : Nat} {xs : List Value} (h : w.ownsRow base e size v n xs) (k : Kp K w w') (hs : ∀ k, v.ownBlock = some k → K k) : w'.ownsRow base e size v n xs :=
  owns_same h (fun b hb => k.block b (hs b hb) (h.lt b hb).2)
theorem owns_apart {w : World} {base : Nat} {e e' : TypeId} {size : Nat} {v : Value} {n : Nat} {xs cur : List Value} {g : Nat} (h : w.ownsRow base e size v n xs) (b : Blk w g e' cur) (he : e ≠ e') : v.ownBlock ≠ some g := by
  intro hv
  rcases h.2 with ⟨rfl, _⟩ | ⟨q, cap, cu, rfl, hb, hgg, rest⟩
  · simp [Value.ownBlock] at hv
  · simp [Value.ownBlock] at hv
    subst hv
    unfold Blk at b
    rw [b] at hgg
    simp at hgg
    exact he hgg.2.symm
theorem owns_apart2 {w : World} {base base' : Nat} {e e' : TypeId} {size size' : Nat} {v v' : Value} {n n' : Nat} {xs xs' : List Value} (h : w.ownsRow base e size v n xs) (h' : w.ownsRow base' e' size' v' n' xs') (he : e ≠ e') : ∀ k, v.ownBlock = some k → v'.ownBlock ≠ some k := by
  intro k hk hv
  rcases h.2 with ⟨rfl, _⟩ | ⟨q, cap, cu, rfl, hb, hgg, rest⟩
  · simp [Value.ownBlock] at hk
  · rcases h'.2 with ⟨rfl, _⟩ | ⟨q', cap', cu', rfl, hb', hgg', rest'⟩
    · simp [Value.ownBlock] at hv
    · simp [Value.ownBlock] at hk hv
      subst hk
      subst hv
      rw [hgg] at hgg'
      simp at hgg'
      exact he hgg'.2

theorem blk_apart {w : World} {g g' : Nat} {e e' : TypeId} {cur cur' : List Value} (h : Blk w g e cur) (h' : Blk w g' e' cur') (he : e ≠ e') : g ≠ g' := by
  intro hg
  subst hg
  unfold Blk at h h'
  rw [h] at h'
  simp at h'
  exact he h'.2

def u64s (xs : List Int) : List Value := xs.map (.int .u64)
def u32s (xs : List Nat) : List Value := xs.map (fun n : Nat => Value.int .u32 (n : Int))
def wAt (xs : List Int) (k : Nat) : Int := xs.getD k 0
theorem u64s_get (xs : List Int) (k : Nat) (h : k < xs.length) : (u64s xs)[k]? = some (.int .u64 (wAt xs k)) := by simp [u64s, wAt, h]
theorem u64s_length (xs : List Int) : (u64s xs).length = xs.length := by simp [u64s]
theorem u32s_length (xs : List Nat) : (u32s xs).length = xs.length := by simp [u32s]
theorem u32s_get (xs : List Nat) (k : Nat) (h : k < xs.length) : (u32s xs)[k]? = some (.int .u32 ((xs.getD k 0 : Nat) : Int)) := by simp [u32s, h]
theorem u64s_set (xs : List Int) (k : Nat) (v : Int) : (u64s xs).set k (.int .u64 v) = u64s (xs.set k v) := by simp [u64s, List.map_set]

/-- A cell as it lies: free, or taken, with its words' block. -/
abbrev Row := Option (Nat × List Int)
def cell2 : Row → List Value
  | none => [.slice none 0 0, .bool false]
  | some (q, ws) => [.slice (some ⟨q, 0, none⟩) ws.length ws.length, .bool true]
def flat2 : List Row → List Value
  | [] => []
  | r :: rs => cell2 r ++ flat2 rs
theorem cell2_length (r : Row) : (cell2 r).length = 2 := by rcases r with _ | ⟨q, ws⟩ <;> rfl
theorem flat2_length : ∀ rs : List Row, (flat2 rs).length = rs.length * 2
  | [] => rfl
  | r :: rs => by simp [flat2, cell2_length, flat2_length rs]; omega
theorem flat2_append : ∀ rs ss : List Row, flat2 (rs ++ ss) = flat2 rs ++ flat2 ss
  | [], ss => rfl
  | r :: rs, ss => by simp [flat2, flat2_append rs ss]
theorem flat2_get : ∀ (rs : List Row) (i : Nat) (r : Row) (j : Nat), rs[i]? = some r → j < 2 → (flat2 rs)[i * 2 + j]? = (cell2 r)[j]?
  | [], i, r, j, h, hj => by simp at h
  | a :: rs, 0, r, j, h, hj => by
    simp at h
    subst h
    rw [flat2, List.getElem?_append_left (by rw [cell2_length]; omega)]
    simp
  | a :: rs, i + 1, r, j, h, hj => by
    rw [flat2, List.getElem?_append_right (by rw [cell2_length]; omega), cell2_length, show (i + 1) * 2 + j - 2 = i * 2 + j by omega]
    exact flat2_get rs i r j (by simpa using h) hj
theorem flat2_set : ∀ (rs : List Row) (i : Nat) (r : Row) (u v : Value), cell2 r = [u, v] → i < rs.length → ((flat2 rs).set (i * 2) u).set (i * 2 + 1) v = flat2 (rs.set i r)
  | [], i, r, u, v, h, hi => by simp at hi
  | a :: rs, 0, r, u, v, h, hi => by
    obtain ⟨x, y, hxy⟩ : ∃ x y, cell2 a = [x, y] := by rcases a with _ | ⟨q, ws⟩ <;> exact ⟨_, _, rfl⟩
    simp [flat2, hxy, h]
  | a :: rs, i + 1, r, u, v, h, hi => by
    have e1 : (i + 1) * 2 = 2 + i * 2 := by omega
    rw [flat2, e1, List.set_append_right _ _ (by rw [cell2_length]; omega), cell2_length, show 2 + i * 2 - 2 = i * 2 by omega, List.set_append_right _ _ (by rw [cell2_length]; omega), cell2_length, show 2 + i * 2 + 1 - 2 = i * 2 + 1 by omega, flat2_set rs i r u v h (by simpa using hi)]
    rfl

/-- An arena's blocks. -/
def Ft (g : Nat) (vc vb : Value) (rs : List Row) (k : Nat) : Prop := k = g ∨ vc.ownBlock = some k ∨ vb.ownBlock = some k ∨ ∃ (i : Nat) (ws : List Int), rs[i]? = some (some (k, ws))
/-- An arena as it lies. -/
structure ArC (w : World) (g : Nat) (most : Int) (rs : List Row) (back : List Nat) (vc vb : Value) : Prop where
  blk : Blk w g 63 [.int .i64 most, vc, vb]
  rows : w.ownsRow 0 67 2 vc rs.length (flat2 rs)
  backs : w.ownsRow 0 28 1 vb back.length (u32s back)
  words : ∀ (i q : Nat) (ws : List Int), rs[i]? = some (some (q, ws)) → Blk w q 32 (u64s ws)
  apart : ∀ (i j q : Nat) (ws ws' : List Int), rs[i]? = some (some (q, ws)) → rs[j]? = some (some (q, ws')) → i = j
theorem ArC.lt {w : World} {g : Nat} {most : Int} {rs : List Row} {back : List Nat} {vc vb : Value} (h : ArC w g most rs back vc vb) {k : Nat} (f : Ft g vc vb rs k) : k < w.heap.size := by
  rcases f with rfl | f | f | ⟨i, ws, f⟩
  · exact h.blk.lt
  · exact (h.rows.lt k f).2
  · exact (h.backs.lt k f).2
  · exact (h.words i k ws f).lt
theorem ArC.same {w w' : World} {g : Nat} {most : Int} {rs : List Row} {back : List Nat} {vc vb : Value} (h : ArC w g most rs back vc vb) (hs : ∀ k, Ft g vc vb rs k → w'.heap[k]? = w.heap[k]?) : ArC w' g most rs back vc vb :=
  ⟨(hs g (.inl rfl)).trans h.blk, owns_same h.rows (fun k hk => hs k (.inr (.inl hk))), owns_same h.backs (fun k hk => hs k (.inr (.inr (.inl hk)))),
    fun i q ws hi => (hs q (.inr (.inr (.inr ⟨i, ws, hi⟩)))).trans (h.words i q ws hi), h.apart⟩

/-- An arena none of whose blocks is of K. -/
def AK (K : Nat → Prop) (w : World) (g : Nat) (most : Int) (rs : List Row) (back : List Nat) : Prop :=
  (∀ k, K k → k < w.heap.size) ∧ ∃ vc vb, ArC w g most rs back vc vb ∧ ∀ k, Ft g vc vb rs k → ¬ K k
theorem AK.kp {K K' : Nat → Prop} {w w' : World} {g : Nat} {most : Int} {rs : List Row} {back : List Nat} (h : AK K w g most rs back) (k : Kp K' w w') (hk : ∀ k, k < w.heap.size → ¬ K k → K' k) : AK K w' g most rs back := by
  obtain ⟨h0, vc, vb, h1, h2⟩ := h
  exact ⟨fun b hb => Nat.lt_of_lt_of_le (h0 b hb) k.size, vc, vb, h1.same (fun b hb => k.block b (hk b (h1.lt hb) (h2 b hb)) (h1.lt hb)), h2⟩
theorem AK.weaken {K K' : Nat → Prop} {w : World} {g : Nat} {most : Int} {rs : List Row} {back : List Nat} (h : AK K w g most rs back) (hk : ∀ k, K' k → K k) : AK K' w g most rs back := by
  obtain ⟨h0, vc, vb, h1, h2⟩ := h
  exact ⟨fun b hb => h0 b (hk b hb), vc, vb, h1, fun b hb hn => h2 b hb (hk b hn)⟩
/-- A new block may be kept too. -/
theorem AK.more {K : Nat → Prop} {w w' : World} {g : Nat} {most : Int} {rs : List Row} {back : List Nat} (h : AK K w g most rs back) (k : Kp (fun k => k < w.heap.size) w w') : AK (fun k => K k ∨ w.heap.size ≤ k ∧ k < w'.heap.size) w' g most rs back := by
  obtain ⟨h0, vc, vb, h1, h2⟩ := h
  refine ⟨?_, vc, vb, h1.same (fun b hb => k.block b (h1.lt hb) (h1.lt hb)), ?_⟩
  · rintro b (hb | hb)
    · exact Nat.lt_of_lt_of_le (h0 b hb) k.size
    · exact hb.2
  · rintro b hb (hn | hn)
    · exact h2 b hb hn
    · have := h1.lt hb
      omega
/-- Where an arena lies: what it does not use may be kept. -/
theorem AK.foot {K : Nat → Prop} {w : World} {g : Nat} {most : Int} {rs : List Row} {back : List Nat} (h : AK K w g most rs back) :
    ∃ F : Nat → Prop, (∀ k, F k → ¬ K k ∧ k < w.heap.size) ∧ ∀ K' : Nat → Prop, (∀ k, K' k → ¬ F k ∧ k < w.heap.size) → AK K' w g most rs back := by
  obtain ⟨h0, vc, vb, h1, h2⟩ := h
  exact ⟨Ft g vc vb rs, fun k hk => ⟨h2 k hk, h1.lt hk⟩, fun K' hk' => ⟨fun b hb => (hk' b hb).2, vc, vb, h1, fun b hb hn => (hk' b hn).1 hb⟩⟩
end Go.Proofs.Ytjbpffeembepcaa
