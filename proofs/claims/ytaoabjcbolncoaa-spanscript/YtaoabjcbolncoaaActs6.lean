/- The acts that came in; where all stands in a round of SpanScript. -/
import Derived.Test.YtaoabjcbolncoaaRfG6
import Derived.Test.YtaoabjcbolncoaaAwake6
import Derived.Test.YtaoabjcbolncoaaArg6
namespace Go.Proofs.Ytaoabjcbolncoaa
open Go.RowKit Go.ChangeShapes Go.WideShapes
set_option linter.unusedVariables false

/-- A call of a pool. -/
structure Do6 where
  d : Int
  i : Int
  h : Nat
  a : Option Addr
  cap : Nat
  xs : List Int
def Do6.cells (x : Do6) : List Value := [.int .i64 x.d, .int .i64 x.i, .int .u32 (x.h : Int), .slice x.a x.xs.length x.cap]
def Acts6 (w : World) (a : Option Addr) (xs : List Do6) : Prop :=
  (∀ x ∈ xs, x.h < 4294967296 ∧ Bd (fun k => k < w.heap.size) w x.a x.xs) ∧
  (xs = [] ∨ ∃ b off, a = some ⟨b, off, none⟩ ∧ ∀ (j : Nat) (x : Do6), xs[j]? = some x → ∀ (c : Nat) (v : Value), x.cells[c]? = some v → w.cell? ⟨b, off + j * 4 + c, none⟩ = some v)
theorem Acts6.cell {w : World} {a : Option Addr} {xs : List Do6} (h : Acts6 w a xs) (j : Nat) (hj : j < xs.length) :
    ∃ (b off : Nat) (x : Do6), a = some ⟨b, off, none⟩ ∧ x.h < 4294967296 ∧ (∀ w', Kp (fun k => k < w.heap.size) w w' → Bd (fun k => k < w.heap.size) w' x.a x.xs) ∧ ∀ w' : World, Kp (fun k => k < w.heap.size) w w' → ∀ c v, x.cells[c]? = some v → w'.cell? ⟨b, off + j * 4 + c, none⟩ = some v := by
  rcases h.2 with h0 | ⟨b, off, ha, hc⟩
  · subst h0; simp at hj
  · obtain ⟨h1, h2⟩ := h.1 xs[j] (List.getElem_mem _)
    refine ⟨b, off, xs[j], ha, h1, fun w' hw => h2.kp hw, fun w' hw c v hv => ?_⟩
    have h1 := hc j xs[j] (by simp [hj]) c v hv
    have hb := World.block_lt_of_cell? w _ h1
    rw [World.cell?_of_block (w := w) (w' := w') (a := ⟨b, off + j * 4 + c, none⟩) (hw.block b hb hb)]
    exact h1
theorem cells_act : Try.prog.cellsOf 31 = 4 := by kernel_rfl
theorem acts_open {H : Type} {enc : TypeId × Value → H} {w : World} {base : Nat} {held : Bool} {a : Option Addr} {len cap fuel : Nat} {x : DataW H × List MemPlace}
    (h : DataW.trod enc Try.prog w base (fun _ => true) held fuel 22 [.slice a len cap] = some x) : ∃ xs : List Do6, xs.length = len ∧ Acts6 w a xs := by
  rcases Deep.open_slice Try.underlying22 h with ⟨hcs, _⟩ | ⟨ad, l, c, m, n, D, Pl, hcs, hb, hl, hm, hmm, _, hel⟩
  · simp at hcs
    obtain ⟨rfl, rfl, rfl⟩ := hcs
    exact ⟨[], rfl, by simp [Acts6]⟩
  · simp at hcs
    obtain ⟨rfl, rfl, rfl⟩ := hcs
    simp only [if_true] at hmm
    have el : ∀ i, i < len → ∃ y : Do6, (y.h < 4294967296 ∧ Bd (fun k => k < w.heap.size) w y.a y.xs) ∧ ∀ (k : Nat) (v : Value), y.cells[k]? = some v → w.cell? (ad.add (i * 4 + k)) = some v := by
      intro i hi
      obtain ⟨cs', h1, h2⟩ := hel i (by omega)
      rw [cells_act] at h1
      obtain ⟨_, hlen, hcell⟩ := World.cells?_some h1
      obtain ⟨ys, k, _, _, _, hys, hf⟩ := DataW.trod_struct Try.underlying31 h2
      match ys, hys, cs', hlen with
      | [y0, y1, y2, y3], _, [v0, v1, v2, v3], _ =>
        have g0 := hf 0 _ rfl
        have g1 := hf 1 _ rfl
        have g2 := hf 2 _ rfl
        have g3 := hf 3 _ rfl
        simp [cells_i, cells_u, cells_bs] at g0 g1 g2 g3
        obtain ⟨z0, q0, _⟩ := DataW.trod_int Try.underlying3 g0
        obtain ⟨z1, q1, _⟩ := DataW.trod_int Try.underlying3 g1
        obtain ⟨z2, q2, _, r2⟩ := DataW.trod_int Try.underlying28 g2
        obtain ⟨a3, ws, cap3, q3, hw, _⟩ := bytes_open g3
        have hz2 := wf_u32 r2
        obtain ⟨hh, rfl⟩ : ∃ hh : Nat, z2 = (hh : Int) := ⟨z2.toNat, by omega⟩
        simp at q0 q1 q2
        subst q0 q1 q2 q3
        refine ⟨⟨z0, z1, hh, a3, cap3, ws⟩, ⟨by dsimp only; omega, hw⟩, fun k v hv => ?_⟩
        have hk : k < 4 := by
          have := (List.getElem?_eq_some_iff.1 hv).1
          simpa [Do6.cells] using this
        have e := hcell k (by simpa using hk)
        rw [Deep.add_add] at e
        rw [e]
        exact hv
    haveI : Inhabited Do6 := ⟨⟨0, 0, 0, none, 0, []⟩⟩
    obtain ⟨f, hfx⟩ := Deep.choose_lt el
    refine ⟨(List.range len).map f, by simp, ?_, ?_⟩
    · intro y hy
      obtain ⟨i, hi, rfl⟩ := List.mem_map.1 hy
      exact (hfx i (List.mem_range.1 hi)).1
    · by_cases h0 : len = 0
      · left; simp [h0]
      · right
        obtain ⟨b, off, sp⟩ := ad
        have h1 := (hfx 0 (by omega)).2 0 _ rfl
        have hs : sp = none := by
          cases sp with
          | none => rfl
          | some q =>
            simp only [World.cell?, Addr.add] at h1
            split at h1 <;> simp at h1
        subst hs
        refine ⟨b, off, rfl, fun j y hy k v hv => ?_⟩
        have hj : j < len := by
          have := (List.getElem?_eq_some_iff.1 hy).1
          simpa using this
        have hyj : f j = y := by simpa [hj] using hy
        have h2 := (hfx j hj).2 k v (by rw [hyj]; exact hv)
        rw [add_plain', ← Nat.add_assoc] at h2
        exact h2
/-- Both pools beside each other. -/
abbrev Two (ga gr : Nat) (most : Int) (cs : Strs) (back : List Nat) (cs' : Strs) (back' : List Nat) : Shape := Both (Sp ga most cs back) (Rf gr most cs' back')
theorem Two.lies (ga gr : Nat) (most : Int) (cs : Strs) (back : List Nat) (cs' : Strs) (back' : List Nat) : Lies (Two ga gr most cs back cs' back') := Both.lies _ _
section
variable {X : Nat → Prop} {w : World} {ga gr : Nat} {most : Int} {cs cs' : Strs} {back back' : List Nat}
theorem t_put (T : Two ga gr most cs back cs' back' X w) (hc : cs.length < 2147483648) (a : Option Addr) (xs : List Int) (cap : Nat) (W : Bd X w a xs) :
    Calls Try.prog 10 #[.pointer (some ⟨ga, 0, none⟩), .slice a xs.length cap] w fun e w' => e = .returned (.tuple #[.int .u32 (putTo most cs back xs).1, .int .i64 (putTo most cs back xs).2.1]) ∧
      Two ga gr most (putTo most cs back xs).2.2.1 (putTo most cs back xs).2.2.2 cs' back' X w' ∧ Kp X w w' := by
  obtain ⟨K, hK, A, B⟩ := T.left
  exact (s_put A hc a xs cap (W.up hK)).mono fun e w' ⟨h1, h2, h3⟩ => ⟨h1, B w' _ (Sp.lies _ _ _ _) h2 h3⟩
theorem t_cut (T : Two ga gr most cs back cs' back' X w) (hc : cs.length ≤ 2147483648) (x : Nat) (hx : x < 4294967296) (m : Int) :
    Calls Try.prog 14 #[.pointer (some ⟨ga, 0, none⟩), .int .u32 (x : Int), .int .i64 m] w fun e w' => e = .returned (.int .i64 (cutTo cs x m).1) ∧ Two ga gr most (cutTo cs x m).2 back cs' back' X w' ∧ Kp X w w' := by
  obtain ⟨K, hK, A, B⟩ := T.left
  exact (s_cut A hc x hx m).mono fun e w' ⟨h1, h2, h3⟩ => ⟨h1, B w' _ (Sp.lies _ _ _ _) h2 h3⟩
theorem t_drop (T : Two ga gr most cs back cs' back' X w) (hc : cs.length ≤ 2147483648) (x : Nat) (hx : x < 4294967296) :
    Calls Try.prog 16 #[.pointer (some ⟨ga, 0, none⟩), .int .u32 (x : Int)] w fun e w' => e = .returned (.int .i64 (dropTo cs back x).1) ∧ Two ga gr most (dropTo cs back x).2.1 (dropTo cs back x).2.2 cs' back' X w' ∧ Kp X w w' := by
  obtain ⟨K, hK, A, B⟩ := T.left
  exact (s_drop A hc x hx).mono fun e w' ⟨h1, h2, h3⟩ => ⟨h1, B w' _ (Sp.lies _ _ _ _) h2 h3⟩
theorem t_used (T : Two ga gr most cs back cs' back' X w) : Calls Try.prog 21 #[.pointer (some ⟨ga, 0, none⟩)] w fun e w' => e = .returned (.int .i64 (total cs)) ∧ w' = w := by
  obtain ⟨K, hK, A, B⟩ := T.left
  exact a_used A
theorem t_live (T : Two ga gr most cs back cs' back' X w) (hc : cs.length ≤ 2147483648) : Calls Try.prog 22 #[.pointer (some ⟨ga, 0, none⟩)] w fun e w' => e = .returned (.int .i64 ((cs.length - back.length : Nat) : Int)) ∧ Still w w' := by
  obtain ⟨K, hK, A, B⟩ := T.left
  exact a_live A hc
theorem t_get_none (T : Two ga gr most cs back cs' back' X w) (hc : cs.length ≤ 2147483648) (x : Nat) (hx : x < 4294967296) (h : atH cs x = none) : Calls Try.prog 18 #[.pointer (some ⟨ga, 0, none⟩), .int .u32 (x : Int)] w fun e w' => e = .returned (.tuple #[.slice none 0 0, .int .i64 5]) ∧ w' = w := by
  obtain ⟨K, hK, A, B⟩ := T.left
  rcases has_or cs x with hn | ⟨n, ws, rfl, hn⟩
  · exact get_none A hc x hx hn
  · rw [atH_has hn] at h
    cases h
theorem t_get (T : Two ga gr most cs back cs' back' X w) (hc : cs.length ≤ 2147483648) (x : Nat) (ys : List Int) (h : atH cs x = some ys) : Calls Try.prog 18 #[.pointer (some ⟨ga, 0, none⟩), .int .u32 (x : Int)] w fun e w' => e = .returned (.tuple #[.slice (some ⟨w.heap.size, 0, none⟩) ys.length ys.length, .int .i64 0]) ∧ Blk w' w.heap.size 5 (u8s ys) ∧ Below w.heap.size w w' := by
  obtain ⟨K, hK, A, B⟩ := T.left
  rcases has_or cs x with hn | ⟨n, ws, rfl, hn⟩
  · rw [atH_no hn] at h
    cases h
  · rw [atH_has hn] at h
    cases h
    rw [nat_succ]
    exact a_get A hc n _ hn
theorem t_bytes (T : Two ga gr most cs back cs' back' X w) (x : Nat) (ys : List Int) (h : atH cs x = some ys) : IsBytes ys ∧ ys.length ≤ 16777216 := by
  obtain ⟨K, hK, A, B⟩ := T.left
  rcases has_or cs x with hn | ⟨n, ws, rfl, hn⟩
  · rw [atH_no hn] at h
    cases h
  · rw [atH_has hn] at h
    cases h
    have := A.good.len hn
    exact ⟨A.good.bytes hn, by omega⟩
theorem u_put (T : Two ga gr most cs back cs' back' X w) (hc : cs'.length < 2147483648) (a : Option Addr) (xs : List Int) (cap : Nat) (W : Bd X w a xs) :
    Calls Try.prog 13 #[.pointer (some ⟨gr, 0, none⟩), .slice a xs.length cap] w fun e w' => e = .returned (.tuple #[.int .u32 (putTo most cs' back' xs).1, .int .i64 (putTo most cs' back' xs).2.1]) ∧
      Two ga gr most cs back (putTo most cs' back' xs).2.2.1 (putTo most cs' back' xs).2.2.2 X w' ∧ Kp X w w' := by
  obtain ⟨K, hK, A, B⟩ := T.right
  exact (r_put A hc a xs cap (W.up hK)).mono fun e w' ⟨h1, h2, h3⟩ => ⟨h1, B w' _ (Rf.lies _ _ _ _) h2 h3⟩
theorem u_cut (T : Two ga gr most cs back cs' back' X w) (hc : cs'.length ≤ 2147483648) (x : Nat) (hx : x < 4294967296) (m : Int) :
    Calls Try.prog 15 #[.pointer (some ⟨gr, 0, none⟩), .int .u32 (x : Int), .int .i64 m] w fun e w' => e = .returned (.int .i64 (cutTo cs' x m).1) ∧ Two ga gr most cs back (cutTo cs' x m).2 back' X w' ∧ Kp X w w' := by
  obtain ⟨K, hK, A, B⟩ := T.right
  exact (r_cut A hc x hx m).mono fun e w' ⟨h1, h2, h3⟩ => ⟨h1, B w' _ (Rf.lies _ _ _ _) h2 h3⟩
theorem u_drop (T : Two ga gr most cs back cs' back' X w) (hc : cs'.length ≤ 2147483648) (x : Nat) (hx : x < 4294967296) :
    Calls Try.prog 17 #[.pointer (some ⟨gr, 0, none⟩), .int .u32 (x : Int)] w fun e w' => e = .returned (.int .i64 (dropTo cs' back' x).1) ∧ Two ga gr most cs back (dropTo cs' back' x).2.1 (dropTo cs' back' x).2.2 X w' ∧ Kp X w w' := by
  obtain ⟨K, hK, A, B⟩ := T.right
  exact (r_drop A hc x hx).mono fun e w' ⟨h1, h2, h3⟩ => ⟨h1, B w' _ (Rf.lies _ _ _ _) h2 h3⟩
theorem u_live (T : Two ga gr most cs back cs' back' X w) (hc : cs'.length ≤ 2147483648) : Calls Try.prog 23 #[.pointer (some ⟨gr, 0, none⟩)] w fun e w' => e = .returned (.int .i64 ((cs'.length - back'.length : Nat) : Int)) ∧ Still w w' := by
  obtain ⟨K, hK, A, B⟩ := T.right
  exact r_live A hc
theorem u_has (T : Two ga gr most cs back cs' back' X w) (hc : cs'.length ≤ 2147483648) (x : Nat) (hx : x < 4294967296) : Calls Try.prog 19 #[.pointer (some ⟨gr, 0, none⟩), .int .u32 (x : Int)] w fun e w' => e = .returned (.bool (atH cs' x).isSome) ∧ w' = w := by
  obtain ⟨K, hK, A, B⟩ := T.right
  exact r_has A hc x hx
theorem u_used (T : Two ga gr most cs back cs' back' X w) : w.cell? ⟨gr, 4, none⟩ = some (.int .i64 (total cs')) := by
  obtain ⟨K, hK, ⟨rs, h1, ⟨k0, vs, vt, vb, a, kk⟩, G⟩, B⟩ := T.right
  exact a.blk.cell 4
theorem u_at (T : Two ga gr most cs back cs' back' X w) (x : Nat) (ys : List Int) (h : atH cs' x = some ys) : ∃ gs cap rl a c, w.cell? ⟨gr, 0, none⟩ = some (.slice (some ⟨gs, 0, none⟩) rl cap) ∧ x < rl ∧ w.cell? ⟨gs, x, none⟩ = some (.slice a ys.length c) ∧ Rd w a ys := by
  obtain ⟨K, hK, A, B⟩ := T.right
  rcases has_or cs' x with hn | ⟨n, ws, rfl, hn⟩
  · rw [atH_no hn] at h
    cases h
  · rw [atH_has hn] at h
    cases h
    exact r_at A n _ hn
theorem t_len (T : Two ga gr most cs back cs' back' X w) : (total cs : Int) ≤ 16777216 ∧ back.length ≤ cs.length := by
  obtain ⟨K, hK, A, B⟩ := T.left
  have h1 := A.good.room
  have h2 := A.good.lim
  exact ⟨by omega, A.good.blen⟩
end
/-- Where all stands: both pools, the call's own copy of the act at bx. -/
structure Sit6 (w : World) (X : Nat → Prop) (ga gr bx : Nat) (most : Int) (x : Do6) (cs : Strs) (back : List Nat) (cs' : Strs) (back' : List Nat) (W : World) : Prop where
  p : Two ga gr most cs back cs' back' X W
  b : Blk W bx 31 x.cells
  hx : X bx
  k : Kp (fun k => k < w.heap.size) w W
  low : ∀ k, k < w.heap.size → X k
section
variable {w : World} {X : Nat → Prop} {ga gr bx : Nat} {most : Int} {x : Do6} {cs cs' cs2 cs2' : Strs} {back back' back2 back2' : List Nat} {W W' : World}
theorem Sit6.turn (h : Sit6 w X ga gr bx most x cs back cs' back' W) (p : Two ga gr most cs2 back2 cs2' back2' X W') (k : Kp X W W') : Sit6 w X ga gr bx most x cs2 back2 cs2' back2' W' :=
  ⟨p, h.b.kp k h.hx, h.hx, h.k.trans (k.mono h.low), h.low⟩
theorem Sit6.still (h : Sit6 w X ga gr bx most x cs back cs' back' W) (s : Still W W') : Sit6 w X ga gr bx most x cs back cs' back' W' := h.turn ((Two.lies _ _ _ _ _ _ _).still h.p s) (s.kp X)
theorem Sit6.drew (h : Sit6 w X ga gr bx most x cs back cs' back' W) : Sit6 w X ga gr bx most x cs back cs' back' W.drew := h.still ⟨1, rfl⟩
theorem Sit6.below (h : Sit6 w X ga gr bx most x cs back cs' back' W) (f : Below W.heap.size W W') : Sit6 w X ga gr bx most x cs back cs' back' W' :=
  h.turn ((Two.lies _ _ _ _ _ _ _).below h.p f) ⟨f.os, f.tape, f.output, f.size, fun k hk hl => f.block k hl⟩
theorem Sit6.bd (h : Sit6 w X ga gr bx most x cs back cs' back' W) (d : ∀ w', Kp (fun k => k < w.heap.size) w w' → Bd (fun k => k < w.heap.size) w' x.a x.xs) : Bd X W x.a x.xs := (d W h.k).up h.low
theorem Sit6.more (h : Sit6 w X ga gr bx most x cs back cs' back' W) (f : Below W.heap.size W W') : Sit6 w (fun k => X k ∨ W.heap.size ≤ k ∧ k < W'.heap.size) ga gr bx most x cs back cs' back' W' :=
  ⟨(Two.lies _ _ _ _ _ _ _).more h.p f, h.b.below f h.b.lt, .inl h.hx, h.k.trans ⟨f.os, f.tape, f.output, f.size, fun k hk hl => f.block k hl⟩, fun k hk => .inl (h.low k hk)⟩
/-- What is kept beside X is written over, and let go. -/
theorem Sit6.over {X' : Nat → Prop} {row : Option Nat} (h : Sit6 w X' ga gr bx most x cs back cs' back' W) (hle : ∀ k, X k → X' k) (g : W.grownBy W' row) (hr : ∀ k, row = some k → X' k ∧ ¬ X k) (hb : X bx) (hl : ∀ k, k < w.heap.size → X k) : Sit6 w X ga gr bx most x cs back cs' back' W' := by
  have sm : ∀ k, X k → k < W.heap.size → W'.heap[k]? = W.heap[k]? := fun k hk hlt => g.block k hlt (fun e => (hr k e.symm).2 hk)
  exact ⟨(Two.lies _ _ _ _ _ _ _).weaken ((Two.lies _ _ _ _ _ _ _).grown h.p g (fun k hk => (hr k hk).1)) hle, (sm bx hb h.b.lt).trans h.b, hb, h.k.trans ⟨g.os, g.tape, g.output, g.size, fun k hk hlt => sm k (hl k hk) hlt⟩, hl⟩
theorem Sit6.lt (h : Sit6 w X ga gr bx most x cs back cs' back' W) : ∀ k, X k → k < W.heap.size := (Two.lies _ _ _ _ _ _ _).lt h.p
end
end Go.Proofs.Ytaoabjcbolncoaa
