/- The document's map: new rows of pairs, put together of pieces of the old one. -/
import Derived.Test.YtnedcoomldmhhaaRf8
namespace Go.Proofs.Ytnedcoomldmhhaa.Rf
open Go.RowKit Go.Sort Go.Proofs.Ytnedcoomldmhhaa
set_option linter.unusedVariables false
set_option linter.unusedSimpArgs false
set_option maxRecDepth 20000

theorem keep_below {B : Nat} {w w' : World} (f : Below w.heap.size w w') (hB : B ≤ w.heap.size) : Below B w w' := f.mono hB
/-- append(nil, pairs...). -/
theorem ap_nil {w : World} {a : Option Addr} {es : List Ent} (h : Rp w a es) (c : Nat) :
    ∃ a' c' w', (Builtin.append_ #[26, 26] 26 #[.slice none 0 0, .slice a es.length c]).run Try.prog w = .ok (.slice a' es.length c') w' ∧ w'.ownsRow w.heap.size 47 2 (.slice a' es.length c') es.length (flat Ent.cells es) ∧ Below w.heap.size w w' := by
  have hn := h.1
  obtain ⟨v', w', r, o, g, ho, _, _⟩ := append_pairs w 26 26 w.heap.size (.slice none 0 0) 0 [] (World.ownsRow_nil w w.heap.size _ 2) _ es.length _ (h.src Try.underlying26 c) (by omega) (Nat.le_refl _)
  rw [Nat.zero_add, List.nil_append] at o
  obtain ⟨a', c', rfl⟩ := owns_slice' o
  exact ⟨a', c', w', r, o, (Below.refl _ w).grown g (Nat.le_refl _) (by simp [Value.ownBlock])⟩
/-- append(row, pairs...). -/
theorem ap_more {B : Nat} {w : World} {a b : Option Addr} {c d : Nat} {fs hs : List Ent} (o : w.ownsRow B 47 2 (.slice a fs.length c) fs.length (flat Ent.cells fs)) (h : Rp w b hs) (hB : B ≤ w.heap.size) (hn : fs.length + hs.length ≤ 3000000) :
    ∃ a' c' w', (Builtin.append_ #[26, 26] 26 #[.slice a fs.length c, .slice b hs.length d]).run Try.prog w = .ok (.slice a' (fs ++ hs).length c') w' ∧ w'.ownsRow B 47 2 (.slice a' (fs ++ hs).length c') (fs ++ hs).length (flat Ent.cells (fs ++ hs)) ∧ Below B w w' := by
  obtain ⟨v', w', r, o', g, ho, _, _⟩ := append_pairs w 26 26 B _ fs.length _ o _ hs.length _ (h.src Try.underlying26 d) (by omega) hB
  obtain ⟨a', c', rfl⟩ := owns_slice' o'
  rw [← flat_append, ← List.length_append] at o'
  rw [← List.length_append] at r
  exact ⟨a', c', w', r, o', (Below.refl _ w).grown g hB (fun k hk => (o.lt k hk).1)⟩
/-- The document's map over a new row. -/
theorem md_row {g : Nat} {ps ps' : List KV} {K : Nat → Prop} {w w3 : World} {F : Nat → Prop} {v v' : Value} {es es' : List Ent} {B : Nat} (h : MdF g ps K w F v es) (f : Below w.heap.size w w3) (hB : w.heap.size ≤ B)
    (o : w3.ownsRow B 47 2 v' es'.length (flat Ent.cells es'))
    (he : ∀ e ∈ es', e ∈ es ∨ (Bd (fun k => w.heap.size ≤ k ∧ k < w3.heap.size ∧ v'.ownBlock ≠ some k) w3 e.a e.k ∧ e.k.length ≤ 65535 ∧ 0 ≤ e.v ∧ e.v ≤ 18446744073709551615) ∧ e.k.length ≤ e.c)
    (hkv : es'.map Ent.kv = ps') (hu : Ups ps') (hn : es'.length ≤ 1000000) :
    Md g ps' K (w3.setCell ⟨g, 0, none⟩ v') ∧ Kp K w (w3.setCell ⟨g, 0, none⟩ v') ∧ Blk w3 g 33 [v] := by
  have hgw : g < w.heap.size := h.hd.lt
  have hs3 := f.size
  have hg3 : Blk w3 g 33 [v] := h.hd.below f hgw
  have hsz : (w3.setCell ⟨g, 0, none⟩ v').heap.size = w3.heap.size := by simp [World.setCell]
  have other : ∀ x, x ≠ g → (w3.setCell ⟨g, 0, none⟩ v').heap[x]? = w3.heap[x]? := fun x hx => Below.heap_setCell _ ⟨g, 0, none⟩ _ _ hx
  have v'B : ∀ x, v'.ownBlock = some x → w.heap.size ≤ x ∧ x < w3.heap.size := fun x hx => by have := o.lt x hx; omega
  refine ⟨⟨fun x => F x ∨ w.heap.size ≤ x ∧ x < w3.heap.size, v', es', ⟨?_, fun x hx => by rw [hsz]; have := h.kl x hx; omega, .inl h.fg, hg3.set 0 _, ?_, fun x hx => .inr (v'B x hx), ?_, hkv, hu, hn, fun e hm => ?_⟩⟩, ?_, hg3⟩
  · rintro x (hx | hx)
    · exact ⟨(h.fk x hx).1, by rw [hsz]; have := (h.fk x hx).2; omega⟩
    · exact ⟨fun hK => by have := h.kl x hK; omega, by rw [hsz]; exact hx.2⟩
  · exact owns_down (owns_same o (fun x hx => other x (by have := (v'B x hx).1; omega))) (Nat.zero_le _)
  · intro e hm
    rcases he e hm with hm | ⟨⟨hb, hl⟩, _⟩
    · refine ⟨(h.ks e hm).1.move (fun x hx hlx => ⟨?_, .inl hx.1, hx.2.1, fun e => by have := (v'B x e).1; omega⟩), (h.ks e hm).2⟩
      rw [other x hx.2.1]
      exact f.block x hlx
    · exact ⟨hb.move (fun x hx hlx => ⟨other x (by omega), .inr ⟨hx.1, hx.2.1⟩, by omega, hx.2.2⟩), hl⟩
  · rcases he e hm with hm | ⟨_, hc⟩
    · exact h.cs e hm
    · exact hc
  · exact ⟨f.os, f.tape, f.output, by rw [hsz]; exact hs3, fun x hx hlx => by
      rw [other x (fun e => (h.fk g h.fg).1 (by rw [← e]; exact hx))]
      exact f.block x hlx⟩
/-- A key in memory of its own, handed on. -/
theorem own_bd {w w' : World} {B : Nat} {a : Option Addr} {c : Nat} {k : List Int} {v' : Value} {es' : List Ent} {B' : Nat} (o : w.ownsRow B 5 1 (.slice a k.length c) k.length (u8s k)) (hb : IsBytes k) (f : Below w.heap.size w w') (hr : w'.ownsRow B' 47 2 v' es'.length (flat Ent.cells es')) : Bd (fun x => B ≤ x ∧ x < w'.heap.size ∧ v'.ownBlock ≠ some x) w' a k := by
  have o' := o.below f (Nat.le_refl _)
  obtain ⟨a', c', e, hrd, _⟩ := owns_rd o' hb
  simp only [Value.slice.injEq] at e
  obtain ⟨rfl, -, rfl⟩ := e
  refine ⟨hrd, ?_⟩
  rcases o'.2 with ⟨e0, h0⟩ | ⟨b, cap, cur, e0, hb1, hg, _⟩
  · exact .inl (List.eq_nil_of_length_eq_zero h0)
  · simp only [Value.slice.injEq] at e0
    obtain ⟨rfl, -, rfl⟩ := e0
    have hg' : Blk w' b 5 cur.toList := hg
    exact .inr ⟨b, 0, rfl, hb1, hg'.lt, owns_apart hr hg' (by decide)⟩
theorem own_cap {w : World} {B : Nat} {e : TypeId} {z : Nat} {a : Option Addr} {n c : Nat} {xs : List Value} (o : w.ownsRow B e z (.slice a n c) n xs) : n ≤ c := by
  rcases o.2 with ⟨e0, h0⟩ | ⟨b, cap, cur, e0, _, _, h1, _⟩
  · omega
  · simp only [Value.slice.injEq] at e0
    obtain ⟨-, -, rfl⟩ := e0
    exact h1
/-- One pair, laid as a list of one. -/
theorem lit_rp {w w' : World} {e : Ent} {b : Nat} (hb : Blk w' b 47 [.slice e.a e.k.length e.c, .int .u64 e.v]) (hr : Rd w' e.a e.k) (hv : 0 ≤ e.v ∧ e.v ≤ 18446744073709551615) : Rp w' (some ⟨b, 0, none⟩) [e] := by
  refine ⟨by simp, ?_, .inr ⟨b, 0, rfl, ?_⟩⟩
  · intro x hx
    simp at hx
    subst hx
    exact ⟨hr, hv⟩
  · intro i x hx
    rcases i with _ | i
    · simp at hx; subst hx; exact ⟨hb.cell 0, hb.cell 1⟩
    · simp at hx
/-- The pieces, one behind the other, with one pair between; the pair is laid behind the first append. -/
theorem chain_a {W : World} {s1 s2 : Option Addr} (c1 c2 : Nat) {A D : List Ent} {i m : Nat} (e0 : Ent) (hA : A.length = i) (hD : D.length = m) (h1 : Rp W s1 A) (h2 : Rp W s2 D) (hr : Rd W e0.a e0.k) (hv : 0 ≤ e0.v ∧ e0.v ≤ 18446744073709551615) :
    ∃ a1 d1 w1 a2 d2 w2 a3 d3 w3, (Builtin.append_ #[26, 26] 26 #[.slice none 0 0, .slice s1 i c1]).run Try.prog W = .ok (.slice a1 i d1) w1 ∧ Below W.heap.size W w1 ∧
      (Builtin.append_ #[26, 26] 26 #[.slice a1 i d1, .slice (some ⟨w1.heap.size, 0, none⟩) 1 1]).run Try.prog (w1.alloc (.cells #[.slice e0.a e0.k.length e0.c, .int .u64 e0.v] 47)) = .ok (.slice a2 (i + 1) d2) w2 ∧ Below W.heap.size W (w1.alloc (.cells #[.slice e0.a e0.k.length e0.c, .int .u64 e0.v] 47)) ∧ Below W.heap.size W w2 ∧
      (Builtin.append_ #[26, 26] 26 #[.slice a2 (i + 1) d2, .slice s2 m c2]).run Try.prog w2 = .ok (.slice a3 (i + 1 + m) d3) w3 ∧ Below W.heap.size W w3 ∧
      w3.ownsRow W.heap.size 47 2 (.slice a3 (i + 1 + m) d3) (A ++ e0 :: D).length (flat Ent.cells (A ++ e0 :: D)) := by
  subst hA hD
  have n1 := h1.1
  have n2 := h2.1
  obtain ⟨a1, d1, w1, r1, o1, f1⟩ := ap_nil h1 c1
  have fa : Below W.heap.size W (w1.alloc (.cells #[.slice e0.a e0.k.length e0.c, .int .u64 e0.v] 47)) := f1.alloc f1.size _
  have bl : Blk (w1.alloc (.cells #[.slice e0.a e0.k.length e0.c, .int .u64 e0.v] 47)) w1.heap.size 47 [.slice e0.a e0.k.length e0.c, .int .u64 e0.v] := Blk.new w1 _ _ _ rfl
  obtain ⟨a2, d2, w2, r2, o2, f2⟩ := ap_more (d := 1) (hs := [e0]) (o1.alloc (.cells #[.slice e0.a e0.k.length e0.c, .int .u64 e0.v] 47)) (lit_rp (w := W) bl (hr.below fa (Nat.le_refl _)) hv) fa.size (by simp; omega)
  simp only [List.length_append, List.length_cons, List.length_nil, Nat.zero_add] at r2 o2
  have g2 := fa.trans f2
  have o2' : w2.ownsRow W.heap.size 47 2 (.slice a2 (A ++ [e0]).length d2) (A ++ [e0]).length (flat Ent.cells (A ++ [e0])) := by simpa using o2
  obtain ⟨a3, d3, w3, r3, o3, f3⟩ := ap_more (d := c2) o2' (h2.below g2 (Nat.le_refl _)) g2.size (by simp; omega)
  have e1 : A ++ [e0] ++ D = A ++ e0 :: D := by simp
  rw [e1] at o3
  simp only [List.length_append, List.length_cons, List.length_nil, Nat.zero_add] at r3
  have e2 : A.length + (D.length + 1) = A.length + 1 + D.length := by omega
  refine ⟨a1, d1, w1, a2, d2, w2, a3, d3, w3, r1, f1, r2, fa, g2, r3, g2.trans f3, ?_⟩
  have e3 : (A ++ e0 :: D).length = A.length + 1 + D.length := by simp; omega
  rw [← e3]
  exact o3
/-- The same; the pair is laid first. -/
theorem chain_b {W : World} {s1 s2 : Option Addr} (c1 c2 : Nat) {A D : List Ent} {i m : Nat} (e0 : Ent) (hA : A.length = i) (hD : D.length = m) (h1 : Rp W s1 A) (h2 : Rp W s2 D) (hr : Rd W e0.a e0.k) (hv : 0 ≤ e0.v ∧ e0.v ≤ 18446744073709551615) :
    ∃ a1 d1 w1 a2 d2 w2 a3 d3 w3, (Builtin.append_ #[26, 26] 26 #[.slice none 0 0, .slice s1 i c1]).run Try.prog (W.alloc (.cells #[.slice e0.a e0.k.length e0.c, .int .u64 e0.v] 47)) = .ok (.slice a1 i d1) w1 ∧ Below W.heap.size W (W.alloc (.cells #[.slice e0.a e0.k.length e0.c, .int .u64 e0.v] 47)) ∧ Below W.heap.size W w1 ∧
      (Builtin.append_ #[26, 26] 26 #[.slice a1 i d1, .slice (some ⟨W.heap.size, 0, none⟩) 1 1]).run Try.prog w1 = .ok (.slice a2 (i + 1) d2) w2 ∧ Below W.heap.size W w2 ∧
      (Builtin.append_ #[26, 26] 26 #[.slice a2 (i + 1) d2, .slice s2 m c2]).run Try.prog w2 = .ok (.slice a3 (i + 1 + m) d3) w3 ∧ Below W.heap.size W w3 ∧
      w3.ownsRow W.heap.size 47 2 (.slice a3 (i + 1 + m) d3) (A ++ e0 :: D).length (flat Ent.cells (A ++ e0 :: D)) := by
  subst hA hD
  have n1 := h1.1
  have n2 := h2.1
  have fa : Below W.heap.size W (W.alloc (.cells #[.slice e0.a e0.k.length e0.c, .int .u64 e0.v] 47)) := (Below.refl _ W).alloc (Nat.le_refl _) _
  have bl : Blk (W.alloc (.cells #[.slice e0.a e0.k.length e0.c, .int .u64 e0.v] 47)) W.heap.size 47 [.slice e0.a e0.k.length e0.c, .int .u64 e0.v] := Blk.new W _ _ _ rfl
  obtain ⟨a1, d1, w1, r1, o1, f1⟩ := ap_nil (h1.below fa (Nat.le_refl _)) c1
  have g1 := fa.trans (f1.mono fa.size)
  obtain ⟨a2, d2, w2, r2, o2, f2⟩ := ap_more (d := 1) (hs := [e0]) (owns_down o1 fa.size) (lit_rp (w := W) (bl.below f1 bl.lt) (hr.below g1 (Nat.le_refl _)) hv) g1.size (by simp; omega)
  simp only [List.length_append, List.length_cons, List.length_nil, Nat.zero_add] at r2 o2
  have g2 := g1.trans f2
  have o2' : w2.ownsRow W.heap.size 47 2 (.slice a2 (A ++ [e0]).length d2) (A ++ [e0]).length (flat Ent.cells (A ++ [e0])) := by simpa using o2
  obtain ⟨a3, d3, w3, r3, o3, f3⟩ := ap_more (d := c2) o2' (h2.below g2 (Nat.le_refl _)) g2.size (by simp; omega)
  have e1 : A ++ [e0] ++ D = A ++ e0 :: D := by simp
  rw [e1] at o3
  simp only [List.length_append, List.length_cons, List.length_nil, Nat.zero_add] at r3
  refine ⟨a1, d1, w1, a2, d2, w2, a3, d3, w3, r1, fa, g1, r2, g2, r3, g2.trans f3, ?_⟩
  have e3 : (A ++ e0 :: D).length = A.length + 1 + D.length := by simp; omega
  rw [← e3]
  exact o3
/-- Two pieces, one behind the other. -/
theorem chain_d {W : World} {s1 s2 : Option Addr} (c1 c2 : Nat) {A D : List Ent} {i m : Nat} (hA : A.length = i) (hD : D.length = m) (h1 : Rp W s1 A) (h2 : Rp W s2 D) :
    ∃ a1 d1 w1 a3 d3 w3, (Builtin.append_ #[26, 26] 26 #[.slice none 0 0, .slice s1 i c1]).run Try.prog W = .ok (.slice a1 i d1) w1 ∧ Below W.heap.size W w1 ∧
      (Builtin.append_ #[26, 26] 26 #[.slice a1 i d1, .slice s2 m c2]).run Try.prog w1 = .ok (.slice a3 (i + m) d3) w3 ∧ Below W.heap.size W w3 ∧
      w3.ownsRow W.heap.size 47 2 (.slice a3 (i + m) d3) (A ++ D).length (flat Ent.cells (A ++ D)) := by
  subst hA hD
  have n1 := h1.1
  have n2 := h2.1
  obtain ⟨a1, d1, w1, r1, o1, f1⟩ := ap_nil h1 c1
  obtain ⟨a3, d3, w3, r3, o3, f3⟩ := ap_more (d := c2) o1 (h2.below f1 (Nat.le_refl _)) f1.size (by omega)
  simp only [List.length_append] at r3
  refine ⟨a1, d1, w1, a3, d3, w3, r1, f1, r3, f1.trans f3, ?_⟩
  have e3 : (A ++ D).length = A.length + D.length := by simp
  rw [← e3]
  exact o3
end Go.Proofs.Ytnedcoomldmhhaa.Rf
