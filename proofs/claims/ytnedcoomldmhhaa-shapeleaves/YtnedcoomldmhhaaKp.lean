/- What is kept, what turns: blocks of K stand; shapes that lie on blocks of their own, beside one another. No program here. -/
import Derived.Test.YtnedcoomldmhhaaApp
import Derived.WalkSmall
namespace Go.Proofs.Ytnedcoomldmhhaa
set_option maxRecDepth 20000
open Go.RowKit
set_option linter.unusedVariables false

/-- Only blocks that are not of K may have turned. -/
structure Kp (K : Nat → Prop) (w w' : World) : Prop where
  os : w'.os = w.os
  tape : w'.tape = w.tape
  output : w'.output = w.output
  size : w.heap.size ≤ w'.heap.size
  block : ∀ k, K k → k < w.heap.size → w'.heap[k]? = w.heap[k]?
theorem Kp.refl (K : Nat → Prop) (w : World) : Kp K w w := ⟨rfl, rfl, rfl, Nat.le_refl _, fun _ _ _ => rfl⟩
theorem Kp.trans {K : Nat → Prop} {a b c : World} (h : Kp K a b) (k : Kp K b c) : Kp K a c :=
  ⟨k.os.trans h.os, k.tape.trans h.tape, k.output.trans h.output, Nat.le_trans h.size k.size, fun i hi hl => (k.block i hi (Nat.lt_of_lt_of_le hl h.size)).trans (h.block i hi hl)⟩
theorem Kp.mono {K K' : Nat → Prop} {a b : World} (h : Kp K a b) (hk : ∀ k, K' k → K k) : Kp K' a b := ⟨h.os, h.tape, h.output, h.size, fun i hi hl => h.block i (hk i hi) hl⟩
theorem Kp.drew {K : Nat → Prop} {a b : World} (h : Kp K a b) : Kp K a b.drew := ⟨h.os, h.tape, h.output, h.size, h.block⟩
theorem Kp.drewN {K : Nat → Prop} {a b : World} (h : Kp K a b) (n : Nat) : Kp K a (b.drewN n) := ⟨h.os, h.tape, h.output, h.size, h.block⟩
theorem Kp.alloc {K : Nat → Prop} {a b : World} (h : Kp K a b) (o : Obj) : Kp K a (b.alloc o) :=
  h.trans ⟨rfl, rfl, rfl, by simp, fun k _ hl => Below.heap_alloc b o k hl⟩
theorem Kp.setCell {K : Nat → Prop} {a b : World} (h : Kp K a b) (g o : Nat) (v : Value) (hg : ¬ K g) : Kp K a (b.setCell ⟨g, o, none⟩ v) :=
  h.trans ⟨rfl, rfl, rfl, by simp [World.setCell], fun k hk _ => Below.heap_setCell b ⟨g, o, none⟩ v k (fun e => hg (by cases e; exact hk))⟩
theorem Kp.grown {K : Nat → Prop} {a b c : World} {row : Option Nat} (h : Kp K a b) (g : b.grownBy c row) (hr : ∀ k, row = some k → ¬ K k) : Kp K a c :=
  h.trans ⟨g.os, g.tape, g.output, g.size, fun k hk hl => g.block k hl (fun e => hr k e.symm hk)⟩
theorem Kp.of_below {B : Nat} {a b : World} (h : Below B a b) : Kp (fun k => k < B) a b := ⟨h.os, h.tape, h.output, h.size, fun k hk _ => h.block k hk⟩
theorem Kp.below {K : Nat → Prop} {a b : World} (h : Kp K a b) {B : Nat} (hB : B ≤ a.heap.size) (hk : ∀ k, k < B → K k) : Below B a b :=
  ⟨h.os, h.tape, h.output, h.size, fun k hl => h.block k (hk k hl) (by omega)⟩
theorem Blk.kp {K : Nat → Prop} {w w' : World} {g : Nat} {e : TypeId} {cur : List Value} (h : Blk w g e cur) (k : Kp K w w') (hg : K g) : Blk w' g e cur := (k.block g hg h.lt).trans h

theorem owns_same {w w' : World} {base : Nat} {e : TypeId} {size : Nat} {v : Value} {n : Nat} {xs : List Value} (h : w.ownsRow base e size v n xs) (hs : ∀ k, v.ownBlock = some k → w'.heap[k]? = w.heap[k]?) : w'.ownsRow base e size v n xs := by
  refine ⟨h.1, ?_⟩
  rcases h.2 with hn | ⟨g, cap, cur, rfl, hb, hgg, rest⟩
  · exact .inl hn
  · exact .inr ⟨g, cap, cur, rfl, hb, (hs g rfl).trans hgg, rest⟩
theorem owns_kp {K : Nat → Prop} {w w' : World} {base : Nat} {e : TypeId} {size : Nat} {v : Value} {n : Nat} {xs : List Value} (h : w.ownsRow base e size v n xs) (k : Kp K w w') (hs : ∀ k, v.ownBlock = some k → K k) : w'.ownsRow base e size v n xs :=
  owns_same h (fun b hb => k.block b (hs b hb) (h.lt b hb).2)
theorem owns_apart {w : World} {base : Nat} {e e' : TypeId} {size : Nat} {v : Value} {n : Nat} {xs cur : List Value} {g : Nat} (h : w.ownsRow base e size v n xs) (b : Blk w g e' cur) (he : e ≠ e') : v.ownBlock ≠ some g := by
  intro hv
  rcases h.2 with ⟨rfl, _⟩ | ⟨q, cap, cu, rfl, hb, hgg, rest⟩
  · simp [Value.ownBlock] at hv
  · simp [Value.ownBlock] at hv
    subst hv
    unfold Blk at b
    rw [b] at hgg
    simp at hgg
    exact he hgg.2.symm
theorem owns_apart2 {w : World} {base base' : Nat} {e e' : TypeId} {size size' : Nat} {v v' : Value} {n n' : Nat} {xs xs' : List Value} (h : w.ownsRow base e size v n xs) (h' : w.ownsRow base' e' size' v' n' xs') (he : e ≠ e') : ∀ k, v.ownBlock = some k → v'.ownBlock ≠ some k := by
  intro k hk hv
  rcases h.2 with ⟨rfl, _⟩ | ⟨q, cap, cu, rfl, hb, hgg, rest⟩
  · simp [Value.ownBlock] at hk
  · rcases h'.2 with ⟨rfl, _⟩ | ⟨q', cap', cu', rfl, hb', hgg', rest'⟩
    · simp [Value.ownBlock] at hv
    · simp [Value.ownBlock] at hk hv
      subst hk
      subst hv
      rw [hgg] at hgg'
      simp at hgg'
      exact he hgg'.2

theorem blk_apart {w : World} {g g' : Nat} {e e' : TypeId} {cur cur' : List Value} (h : Blk w g e cur) (h' : Blk w g' e' cur') (he : e ≠ e') : g ≠ g' := by
  intro hg
  subst hg
  unfold Blk at h h'
  rw [h] at h'
  simp at h'
  exact he h'.2

def u32s (xs : List Nat) : List Value := xs.map (fun n : Nat => Value.int .u32 (n : Int))
theorem u32s_length (xs : List Nat) : (u32s xs).length = xs.length := by simp [u32s]
theorem u32s_get (xs : List Nat) (k : Nat) (h : k < xs.length) : (u32s xs)[k]? = some (.int .u32 ((xs.getD k 0 : Nat) : Int)) := by simp [u32s, h]

theorem owns_slice {w : World} {base : Nat} {e : TypeId} {size : Nat} {v : Value} {n : Nat} {xs : List Value} (h : w.ownsRow base e size v n xs) (hn : 0 < n) : ∃ g cap, v = .slice (some ⟨g, 0, none⟩) n cap := by
  rcases h.2 with ⟨rfl, h0⟩ | ⟨g, cap, cur, rfl, _⟩
  · omega
  · exact ⟨g, cap, rfl⟩
theorem owns_slice' {w : World} {base : Nat} {e : TypeId} {size : Nat} {v : Value} {n : Nat} {xs : List Value} (h : w.ownsRow base e size v n xs) : ∃ a cap, v = .slice a n cap := by
  rcases h.2 with ⟨rfl, h0⟩ | ⟨g, cap, cur, rfl, _⟩
  · exact ⟨none, 0, by rw [h0]⟩
  · exact ⟨_, cap, rfl⟩

/-- Nothing has turned but how much was drawn. -/
def Still (w w' : World) : Prop := ∃ n, w' = w.drewN n
theorem Still.kp {w w' : World} (h : Still w w') (K : Nat → Prop) : Kp K w w' := by
  obtain ⟨n, rfl⟩ := h
  exact ⟨rfl, rfl, rfl, Nat.le_refl _, fun _ _ _ => rfl⟩

/-- append of what was laid into a block of its own. -/
theorem append_lit {P : Program} (w : World) (base : Nat) (t e : TypeId) (i : TypeInfo) (z : Value) (size bytes : Nat) (ht : P.underlying t = some (.slice e)) (hi : P.info? e = some i) (hz : i.zero = some z)
    (hsize : i.size = size) (hby : i.bytes = bytes) (hzs : z.cells.size = size) (hsz : 0 < size) (v : Value) (n : Nat) (xs : List Value) (hown : w.ownsRow base e size v n xs) (news : List Value) (hl : news.length = size) (h1 : ∀ u ∈ news, u.oneCell' = true)
    (h63 : n + 1 ≤ 1099511627776) (hby2 : bytes ≤ 64) (hbase : base ≤ w.heap.size) :
    ∃ v' w', (Builtin.append_ #[t, t] t #[v, .slice (some ⟨w.heap.size, 0, none⟩) 1 1]).run P (w.alloc (.cells news.toArray e)) = .ok v' w' ∧ w'.ownsRow base e size v' (n + 1) (xs ++ news) ∧
      (w.alloc (.cells news.toArray e)).grownBy w' v.ownBlock ∧ (v'.ownBlock = v.ownBlock ∨ v'.ownBlock = some (w.heap.size + 1)) := by
  have hs : Src P size t (.slice (some ⟨w.heap.size, 0, none⟩) 1 1) 1 news (w.alloc (.cells news.toArray e)) :=
    Src.ofSlice _ ht _ 1 1 _ (by omega) (fun j u hu => by
      have := World.news_of_block (heap_alloc_new w (.cells news.toArray e)) j u
      exact this (by simpa using hu)) h1
  have hown' : (w.alloc (.cells news.toArray e)).ownsRow base e size v n xs := owns_same hown (fun k hk => Below.heap_alloc w _ k (hown.lt k hk).2)
  obtain ⟨v', w', r, o, g, hb, _⟩ := run_append_src (P := P) base t t t e i z size bytes ht hi hz hsize hby hzs hsz v n xs hown' _ 1 news hs (by unfold maxLen; omega) (by
    have : (n + 1) * bytes ≤ 1099511627776 * 64 := Nat.mul_le_mul h63 hby2
    omega) (by simp; omega)
  refine ⟨v', w', r, o, g, ?_⟩
  simpa using hb


/-- Rows of n cells, one behind the other. -/
def flat {α : Type} (f : α → List Value) : List α → List Value
  | [] => []
  | r :: rs => f r ++ flat f rs
section
variable {α : Type} {f : α → List Value} {n : Nat}
theorem flat_length (hf : ∀ a, (f a).length = n) : ∀ rs : List α, (flat f rs).length = rs.length * n
  | [] => by simp [flat]
  | r :: rs => by simp [flat, hf, flat_length hf rs, Nat.add_mul]; omega
theorem flat_append : ∀ rs ss : List α, flat f (rs ++ ss) = flat f rs ++ flat f ss
  | [], ss => rfl
  | r :: rs, ss => by simp [flat, flat_append rs ss]
theorem flat_get (hf : ∀ a, (f a).length = n) : ∀ (rs : List α) (i : Nat) (r : α) (j : Nat), rs[i]? = some r → j < n → (flat f rs)[i * n + j]? = (f r)[j]?
  | [], i, r, j, h, hj => by simp at h
  | a :: rs, 0, r, j, h, hj => by
    simp at h
    subst h
    rw [flat, List.getElem?_append_left (by rw [hf]; omega)]
    simp
  | a :: rs, i + 1, r, j, h, hj => by
    have e : (i + 1) * n + j = n + (i * n + j) := by rw [Nat.add_mul]; omega
    rw [flat, e, List.getElem?_append_right (by rw [hf]; omega), hf, Nat.add_sub_cancel_left]
    exact flat_get hf rs i r j (by simpa using h) hj
theorem flat_set (hf : ∀ a, (f a).length = n) : ∀ (rs : List α) (i : Nat) (r r' : α) (j : Nat) (v : Value), rs[i]? = some r → j < n → f r' = (f r).set j v → (flat f rs).set (i * n + j) v = flat f (rs.set i r')
  | [], i, r, r', j, v, h, hj, hr => by simp at h
  | a :: rs, 0, r, r', j, v, h, hj, hr => by
    simp at h
    subst h
    simp only [flat, List.set_cons_zero, Nat.zero_mul, Nat.zero_add]
    rw [List.set_append_left _ _ (by rw [hf]; omega), hr]
  | a :: rs, i + 1, r, r', j, v, h, hj, hr => by
    have e : (i + 1) * n + j = n + (i * n + j) := by rw [Nat.add_mul]; omega
    rw [flat, e, List.set_append_right _ _ (by rw [hf]; omega), hf, Nat.add_sub_cancel_left, flat_set hf rs i r r' j v (by simpa using h) hj hr]
    rfl
end

/-- A shape: that something stands in a world, none of its blocks being of K. -/
abbrev Shape := (Nat → Prop) → World → Prop
/-- It stands wherever the blocks of F do. -/
def Stands (A : Shape) (F : Nat → Prop) (w : World) : Prop := ∀ w' (K' : Nat → Prop), (∀ k, F k → w'.heap[k]? = w.heap[k]?) → (∀ k, K' k → ¬ F k ∧ k < w'.heap.size) → A K' w'
/-- It lies on blocks of its own. -/
def Lies (A : Shape) : Prop := ∀ (K : Nat → Prop) (w : World), A K w → (∀ k, K k → k < w.heap.size) ∧ ∃ F : Nat → Prop, (∀ k, F k → ¬ K k ∧ k < w.heap.size) ∧ Stands A F w
section
variable {A B A' B' : Shape} {K K' : Nat → Prop} {w w' : World}
theorem Lies.weaken (L : Lies A) (h : A K w) (hk : ∀ k, K' k → K k) : A K' w := by
  obtain ⟨h0, F, h1, h2⟩ := L K w h
  exact h2 w K' (fun _ _ => rfl) (fun k hk' => ⟨fun hf => (h1 k hf).1 (hk k hk'), h0 k (hk k hk')⟩)
theorem Lies.kp (L : Lies A) (h : A K w) (k : Kp K' w w') (hk : ∀ k, k < w.heap.size → ¬ K k → K' k) : A K w' := by
  obtain ⟨h0, F, h1, h2⟩ := L K w h
  exact h2 w' K (fun b hb => k.block b (hk b (h1 b hb).2 (h1 b hb).1) (h1 b hb).2) (fun b hb => ⟨fun hf => (h1 b hf).1 hb, Nat.lt_of_lt_of_le (h0 b hb) k.size⟩)
theorem Lies.still (L : Lies A) (h : A K w) (s : Still w w') : A K w' := L.kp h (s.kp (fun _ => True)) (fun _ _ _ => trivial)
theorem Lies.below (L : Lies A) (h : A K w) (f : Below w.heap.size w w') : A K w' := L.kp h (Kp.of_below f) (fun _ hk _ => hk)
/-- What is new may be kept too. -/
theorem Lies.kpmore (L : Lies A) (h : A K w) (k : Kp K' w w') (hk : ∀ k, k < w.heap.size → ¬ K k → K' k) : A (fun k => K k ∨ w.heap.size ≤ k ∧ k < w'.heap.size) w' := by
  obtain ⟨h0, F, h1, h2⟩ := L K w h
  refine h2 w' _ (fun b hb => k.block b (hk b (h1 b hb).2 (h1 b hb).1) (h1 b hb).2) ?_
  rintro b (hb | hb)
  · exact ⟨fun hf => (h1 b hf).1 hb, Nat.lt_of_lt_of_le (h0 b hb) k.size⟩
  · exact ⟨fun hf => by have := (h1 b hf).2; omega, hb.2⟩
theorem Lies.more (L : Lies A) (h : A K w) (f : Below w.heap.size w w') : A (fun k => K k ∨ w.heap.size ≤ k ∧ k < w'.heap.size) w' := L.kpmore h (Kp.of_below f) (fun _ hk _ => hk)
/-- A block of K turns. -/
theorem Lies.grown {row : Option Nat} (L : Lies A) (h : A K w) (g : w.grownBy w' row) (hr : ∀ k, row = some k → K k) : A K w' :=
  L.kp h (K' := fun k => ¬ K k) ⟨g.os, g.tape, g.output, g.size, fun k hk hl => g.block k hl (fun e => hk (hr k e.symm))⟩ (fun _ _ hk => hk)
theorem Lies.lt (L : Lies A) (h : A K w) : ∀ k, K k → k < w.heap.size := (L K w h).1

/-- Both, apart from each other. -/
def Both (A B : Shape) : Shape := fun K w => ∃ FA FB : Nat → Prop, (∀ k, FA k → k < w.heap.size ∧ ¬ FB k ∧ ¬ K k) ∧ (∀ k, FB k → k < w.heap.size ∧ ¬ K k) ∧ (∀ k, K k → k < w.heap.size) ∧ Stands A FA w ∧ Stands B FB w
theorem Both.lies (A B : Shape) : Lies (Both A B) := by
  rintro K w ⟨FA, FB, h1, h2, h3, h4, h5⟩
  refine ⟨h3, fun k => FA k ∨ FB k, ?_, ?_⟩
  · rintro k (hk | hk)
    · exact ⟨(h1 k hk).2.2, (h1 k hk).1⟩
    · exact ⟨(h2 k hk).2, (h2 k hk).1⟩
  · intro w' K' hs hk
    have lt : ∀ k, FA k ∨ FB k → k < w.heap.size := fun k hk => hk.elim (fun h => (h1 k h).1) (fun h => (h2 k h).1)
    have lt' : ∀ k, FA k ∨ FB k → k < w'.heap.size := fun k hk => by
      have e := hs k hk
      have l := lt k hk
      rw [Array.getElem?_eq_getElem l] at e
      exact (Array.getElem?_eq_some_iff.1 e).1
    exact ⟨FA, FB, fun k hf => ⟨lt' k (.inl hf), (h1 k hf).2.1, fun hK => (hk k hK).1 (.inl hf)⟩, fun k hf => ⟨lt' k (.inr hf), fun hK => (hk k hK).1 (.inr hf)⟩, fun k hK => (hk k hK).2,
      fun w2 K2 hw hK2 => h4 w2 K2 (fun k hf => (hw k hf).trans (hs k (.inl hf))) hK2, fun w2 K2 hw hK2 => h5 w2 K2 (fun k hf => (hw k hf).trans (hs k (.inr hf))) hK2⟩
/-- The one, with all else kept; and both behind one of its calls. -/
theorem Both.left (h : Both A B K w) : ∃ K1 : Nat → Prop, (∀ k, K k → K1 k) ∧ A K1 w ∧ ∀ (w' : World) (A' : Shape), Lies A' → A' K1 w' → Kp K1 w w' → Both A' B K w' ∧ Kp K w w' := by
  obtain ⟨FA, FB, h1, h2, h3, h4, h5⟩ := h
  refine ⟨fun k => k < w.heap.size ∧ ¬ FA k, fun k hk => ⟨h3 k hk, fun f => (h1 k f).2.2 hk⟩, h4 w _ (fun _ _ => rfl) (fun k hk => ⟨hk.2, hk.1⟩), fun w' A' L A k => ⟨?_, k.mono (fun b hb => ⟨h3 b hb, fun f => (h1 b f).2.2 hb⟩)⟩⟩
  obtain ⟨-, F, f1, f2⟩ := L _ _ A
  have hs := k.size
  refine ⟨F, FB, fun b hb => ⟨(f1 b hb).2, fun hf => (f1 b hb).1 ⟨(h2 b hf).1, fun ha => (h1 b ha).2.1 hf⟩, fun hx => (f1 b hb).1 ⟨h3 b hx, fun ha => (h1 b ha).2.2 hx⟩⟩, fun b hb => ⟨by have := (h2 b hb).1; omega, (h2 b hb).2⟩, fun b hb => by have := h3 b hb; omega, f2, ?_⟩
  exact fun w2 K' hw hK => h5 w2 K' (fun b hb => (hw b hb).trans (k.block b ⟨(h2 b hb).1, fun ha => (h1 b ha).2.1 hb⟩ (h2 b hb).1)) hK
theorem Both.right (h : Both A B K w) : ∃ K1 : Nat → Prop, (∀ k, K k → K1 k) ∧ B K1 w ∧ ∀ (w' : World) (B' : Shape), Lies B' → B' K1 w' → Kp K1 w w' → Both A B' K w' ∧ Kp K w w' := by
  obtain ⟨FA, FB, h1, h2, h3, h4, h5⟩ := h
  refine ⟨fun k => k < w.heap.size ∧ ¬ FB k, fun k hk => ⟨h3 k hk, fun f => (h2 k f).2 hk⟩, h5 w _ (fun _ _ => rfl) (fun k hk => ⟨hk.2, hk.1⟩), fun w' B' L A k => ⟨?_, k.mono (fun b hb => ⟨h3 b hb, fun f => (h2 b f).2 hb⟩)⟩⟩
  obtain ⟨-, F, f1, f2⟩ := L _ _ A
  have hs := k.size
  refine ⟨FA, F, fun b hb => ⟨by have := (h1 b hb).1; omega, fun hf => (f1 b hf).1 ⟨(h1 b hb).1, (h1 b hb).2.1⟩, (h1 b hb).2.2⟩, fun b hb => ⟨(f1 b hb).2, fun hx => (f1 b hb).1 ⟨h3 b hx, fun ha => (h2 b ha).2 hx⟩⟩, fun b hb => by have := h3 b hb; omega, ?_, f2⟩
  exact fun w2 K' hw hK => h4 w2 K' (fun b hb => (hw b hb).trans (k.block b ⟨(h1 b hb).1, (h1 b hb).2.1⟩ (h1 b hb).1)) hK
/-- Two that were made one after the other. -/
theorem Both.of (LA : Lies A) (LB : Lies B) (a : A K w) (b : B (fun k => k < w.heap.size) w') (f : Below w.heap.size w w') : Both A B K w' := by
  obtain ⟨h0, F, f1, f2⟩ := LA _ _ a
  obtain ⟨-, G, g1, g2⟩ := LB _ _ b
  have hs := f.size
  exact ⟨F, G, fun k hk => ⟨by have := (f1 k hk).2; omega, fun hg => (g1 k hg).1 (f1 k hk).2, (f1 k hk).1⟩, fun k hk => ⟨(g1 k hk).2, fun hx => (g1 k hk).1 (h0 k hx)⟩, fun k hk => by have := h0 k hk; omega,
    fun w2 K' hw hK => f2 w2 K' (fun k hk => (hw k hk).trans (f.block k (f1 k hk).2)) hK, g2⟩
end
end Go.Proofs.Ytnedcoomldmhhaa
