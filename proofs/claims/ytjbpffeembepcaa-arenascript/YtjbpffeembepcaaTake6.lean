/- Take and Give. -/
import Derived.Test.YtjbpffeembepcaaTake5
import Derived.Deep.RegionHeld3
namespace Go.Proofs.Ytjbpffeembepcaa
open Go.RowKit
set_option linter.unusedVariables false
set_option linter.unusedSimpArgs false

theorem AK.still {K : Nat → Prop} {w w' : World} {g : Nat} {most : Int} {rs : List Row} {back : List Nat} (h : AK K w g most rs back) (s : Still w w') : AK K w' g most rs back := by
  obtain ⟨n, rfl⟩ := s
  obtain ⟨h0, vc, vb, h1, h2⟩ := h
  exact ⟨h0, vc, vb, h1.same (fun _ _ => rfl), h2⟩

/-- A cell is laid anew, with words in a block of their own. -/
theorem ArC.put {w : World} {g : Nat} {most : Int} {rs : List Row} {back : List Nat} {vb : Value} {gc cap n q : Nat} {ws : List Int} (h : ArC w g most rs back (.slice (some ⟨gc, 0, none⟩) rs.length cap) vb) (hn : n < rs.length) (hq : Blk w q 32 (u64s ws)) (hf : ∀ (i : Nat) (ws' : List Int), rs[i]? ≠ some (some (q, ws'))) :
    ArC ((w.setCell ⟨gc, n * 2, none⟩ (.slice (some ⟨q, 0, none⟩) ws.length ws.length)).setCell ⟨gc, n * 2 + 1, none⟩ (.bool true)) g most (rs.set n (some (q, ws))) back (.slice (some ⟨gc, 0, none⟩) rs.length cap) vb := by
  have o1 := (h.rows.stored (n * 2) (.slice (some ⟨q, 0, none⟩) ws.length ws.length)).1
  have o2 := (o1.stored (n * 2 + 1) (.bool true)).1
  rw [flat2_set rs n (some (q, ws)) _ _ rfl hn] at o2
  have sm : ∀ k, k ≠ gc → ((w.setCell ⟨gc, n * 2, none⟩ (.slice (some ⟨q, 0, none⟩) ws.length ws.length)).setCell ⟨gc, n * 2 + 1, none⟩ (.bool true)).heap[k]? = w.heap[k]? := fun k hk =>
    (Below.heap_setCell _ ⟨gc, n * 2 + 1, none⟩ _ k hk).trans (Below.heap_setCell _ ⟨gc, n * 2, none⟩ _ k hk)
  have ow : ∀ (i q' : Nat) (ws' : List Int), (rs.set n (some (q, ws)))[i]? = some (some (q', ws')) → i = n ∧ q' = q ∧ ws' = ws ∨ i ≠ n ∧ rs[i]? = some (some (q', ws')) := by
    intro i q' ws' hi
    rw [List.getElem?_set] at hi
    split at hi
    · rename_i e
      simp only [hn, if_true, Option.some.injEq, Prod.mk.injEq] at hi
      exact .inl ⟨e.symm, hi.1.symm, hi.2.symm⟩
    · rename_i e
      exact .inr ⟨fun x => e x.symm, hi⟩
  refine ⟨(sm g (fun e => owns_apart h.rows h.blk (by decide) (by rw [e]; rfl))).trans h.blk, by rw [List.length_set]; exact o2, owns_same h.backs (fun k hk => sm k (fun e => owns_apart2 h.backs h.rows (by decide) k hk (by rw [e]; rfl))), ?_, ?_⟩
  · intro i q' ws' hi
    rcases ow i q' ws' hi with ⟨_, rfl, rfl⟩ | ⟨_, hi'⟩
    · exact (sm _ (fun e => owns_apart h.rows hq (by decide) (by rw [e]; rfl))).trans hq
    · have b := h.words i q' ws' hi'
      exact (sm _ (fun e => owns_apart h.rows b (by decide) (by rw [e]; rfl))).trans b
  · intro i j q' ws1 ws2 hi hj
    rcases ow i q' ws1 hi with ⟨h1, h2, h3⟩ | ⟨_, hi'⟩
    · rcases ow j q' ws2 hj with ⟨h4, _, _⟩ | ⟨_, hj'⟩
      · omega
      · rw [h2] at hj'
        exact absurd hj' (hf j ws2)
    · rcases ow j q' ws2 hj with ⟨_, h5, _⟩ | ⟨_, hj'⟩
      · rw [h5] at hi'
        exact absurd hi' (hf i ws1)
      · exact h.apart i j q' ws1 ws2 hi' hj'

/-- What Take leaves. -/
def PutP (K : Nat → Prop) (w w' : World) (g : Nat) (most : Int) (rs : List Row) (n : Nat) (ws : List Int) (back : List Nat) : Prop := ∃ q, AK K w' g most (rs.set n (some (q, ws))) back ∧ Kp K w w'

set_option maxHeartbeats 1600000 in
theorem take_with {K : Nat → Prop} {w : World} {g : Nat} {most f : Int} {rs : List Row} {back : List Nat} {n : Nat} {a : Option Addr} {ws : List Int} {cap : Nat}
    (F : Calls Try.prog 23 #[.pointer (some ⟨g, 0, none⟩)] w fun e w' => e = .returned (.int .i64 f) ∧ Still w w') (hf : f ≠ 0)
    (U : ∀ w1, Still w w1 → Calls Try.prog 28 #[.pointer (some ⟨g, 0, none⟩)] w1 fun e w' => e = .returned (.int .u32 ((n + 1 : Nat) : Int)) ∧ AK K w' g most rs back ∧ Kp K w1 w')
    (hl : rs.length ≤ 1048576) (hn : n < rs.length) (W : Wd K w a ws) (hw : ws.length ≤ 64) :
    Calls Try.prog 11 #[.pointer (some ⟨g, 0, none⟩), .slice a ws.length cap] w fun e w' => e = .returned (.tuple #[.int .u32 ((n + 1 : Nat) : Int), .int .i64 0]) ∧ PutP K w w' g most rs n ws back := by
  have hw' : ¬ (64 < ws.length) := by omega
  obtain ⟨x, hx⟩ : ∃ x : Int, x = ((n + 1 : Nat) : Int) := ⟨_, rfl⟩
  rw [← hx] at U ⊢
  have e1 : IntKind.u32.wrap (x - 1) = (n : Int) := by rw [IntKind.wrap_u32]; omega
  have e1' : (x - 1) % 4294967296 = (n : Int) := by omega
  have HX := hide hx
  have HW := hide W
  have HU := hide U
  have HL := hide hl
  clear hx W U hl
  go_enter Try.func11, Try.ntmps11
  go_wp2_with (go_at_call 23; refine F.mono ?_; rintro e w1 ⟨rfl, h1⟩; have S1 := hide h1; clear h1)
  refine (HU.out _ S1.out).mono ?_
  rintro e w2 ⟨rfl, A2, k2⟩
  have K2 := hide ((S1.out.kp K).trans k2)
  obtain ⟨b0, vc, vb, a2, kk⟩ := A2
  obtain ⟨gc, capc, rfl⟩ := owns_slice a2.rows (by omega)
  have A2 := hide a2
  have KK := hide kk
  have B0 := hide b0
  have c1 : w2.cell? ⟨g, 1, none⟩ = some (.slice (some ⟨gc, 0, none⟩) rs.length capc) := a2.blk.cell 1
  have LL : Hid (∀ w', Below w2.heap.size w2 w' → w'.cell? ⟨g, 1, none⟩ = some (.slice (some ⟨gc, 0, none⟩) rs.length capc) ∧ w'.frozen? ⟨gc, n * 2, none⟩ = false ∧ w'.frozen? ⟨gc, n * 2 + 1, none⟩ = false ∧ ∃ u v, w'.cell? ⟨gc, n * 2, none⟩ = some u ∧ w'.cell? ⟨gc, n * 2 + 1, none⟩ = some v) := by
    intro w' f
    have a' : ArC w' g most rs back (.slice (some ⟨gc, 0, none⟩) rs.length capc) vb := A2.out.same (fun k hk => f.block k (A2.out.lt hk))
    obtain ⟨r, hr⟩ : ∃ r, rs[n]? = some r := ⟨_, List.getElem?_eq_getElem hn⟩
    refine ⟨a'.blk.cell 1, a'.rows.frozenAt _, a'.rows.frozenAt _, ?_⟩
    have z0 := (a'.rows.cellAt (n * 2) (by omega)).trans (flat2_get rs n r 0 hr (by omega))
    have z1 := (a'.rows.cellAt (n * 2 + 1) (by omega)).trans (flat2_get rs n r 1 hr (by omega))
    rcases r with _ | ⟨q, ws⟩
    · exact ⟨_, _, z0, z1⟩
    · exact ⟨_, _, z0, z1⟩
  have hni : (n : Int) < (rs.length : Int) := by omega
  clear a2 kk b0 k2
  go_wp2
  go_region_with (go_at_call 29; refine (copied_any (K := K) _ _ ws cap (by omega) (HW.out.kp (K2.out.drew))).mono ?_; rintro e w3 ⟨rfl, b3, f3, s3⟩; have f3' := hide ((Below.drew (Below.refl w2.heap.size w2)).trans f3); have B3 := hide b3; have Z3 := hide s3; obtain ⟨c1', z0, z1, u0, u1, y0, y1⟩ := LL.out w3 f3'.out; clear b3 f3 s3)
  all_goals (
    go_wp2
    go_ret2
    have a3 : ArC w3 g most rs back (.slice (some ⟨gc, 0, none⟩) rs.length capc) vb := A2.out.same (fun k hk => f3'.out.block k (A2.out.lt hk))
    have p := a3.put hn B3.out (fun i ws' hi => by have := (A2.out.words i _ ws' hi).lt; simp at this)
    have nK : ¬ K gc := KK.out gc (.inr (.inl rfl))
    have kp : Kp K w w3 := K2.out.trans ((Kp.of_below f3'.out).mono (fun k hk => B0.out k hk))
    refine ⟨by first | rfl | simp, w2.heap.size, ⟨fun k hk => ?_, _, _, p, ?_⟩, (kp.setCell _ _ _ nK).setCell _ _ _ nK⟩
    · have := B0.out k hk
      have := f3'.out.size
      simp [World.setCell]
      omega
    · rintro k (hk | hk | hk | ⟨i, ws', hi⟩)
      · exact KK.out k (.inl hk)
      · exact KK.out k (.inr (.inl hk))
      · exact KK.out k (.inr (.inr (.inl hk)))
      · rw [List.getElem?_set] at hi
        split at hi
        · simp only [hn, if_true, Option.some.injEq, Prod.mk.injEq] at hi
          intro hK
          have := B0.out k hK
          have := hi.1
          omega
        · exact KK.out k (.inr (.inr (.inr ⟨i, ws', hi⟩))))

/-- The arena as the document sees it: its cells in their order (the words of one that is taken), those given back. -/
abbrev Cells := List (Option (List Int))
def absr (rs : List Row) : Cells := rs.map (Option.map Prod.snd)
structure Good (most : Int) (cs : Cells) (back : List Nat) : Prop where
  len : (cs.length : Int) ≤ most
  lim : most ≤ 1048576
  cnt : back.length = cs.countP (·.isNone)
  free : ∀ h ∈ back, 1 ≤ h ∧ cs[h - 1]? = some none
  nodup : back.Nodup
theorem Good.blen {most : Int} {cs : Cells} {back : List Nat} (h : Good most cs back) : back.length ≤ cs.length := by rw [h.cnt]; exact List.countP_le_length
theorem Good.take {most : Int} {cs : Cells} {back : List Nat} {h : Nat} (H : Good most cs (back ++ [h])) (ws : List Int) : Good most (cs.set (h - 1) (some ws)) back := by
  obtain ⟨h1, h2⟩ := H.free h (by simp)
  have hlt := (List.getElem?_eq_some_iff.1 h2).1
  have hnd := H.nodup
  rw [List.nodup_append] at hnd
  refine ⟨by simpa using H.len, H.lim, ?_, ?_, hnd.1⟩
  · have hc := H.cnt
    have : cs.countP (·.isNone) = (cs.set (h - 1) (some ws)).countP (·.isNone) + 1 := by
      rw [List.countP_set hlt]
      have e : cs[h - 1] = none := by rw [List.getElem?_eq_getElem hlt] at h2; simpa using h2
      have hp : 0 < cs.countP (·.isNone) := List.countP_pos_iff.2 ⟨none, by rw [← e]; exact List.getElem_mem _, rfl⟩
      simp [e]
      omega
    simp at hc
    omega
  · intro k hk
    obtain ⟨h3, h4⟩ := H.free k (by simp [hk])
    refine ⟨h3, ?_⟩
    have hne : k ≠ h := hnd.2.2 k hk h (by simp)
    rw [List.getElem?_set_ne (by omega)]
    exact h4
theorem Good.grow {most : Int} {cs : Cells} (H : Good most cs []) (hl : (cs.length : Int) < most) (ws : List Int) : Good most (cs ++ [some ws]) [] :=
  ⟨by simp; omega, H.lim, by simpa using H.cnt, by simp, by simp⟩
theorem Good.give {most : Int} {cs : Cells} {back : List Nat} (H : Good most cs back) (n : Nat) (ws : List Int) (hn : cs[n]? = some (some ws)) : Good most (cs.set n none) (back ++ [n + 1]) := by
  have hlt := (List.getElem?_eq_some_iff.1 hn).1
  have e : cs[n] = some ws := by rw [List.getElem?_eq_getElem hlt] at hn; simpa using hn
  refine ⟨by simpa using H.len, H.lim, ?_, ?_, ?_⟩
  · rw [List.countP_set hlt]
    have := H.cnt
    simp [e]
    omega
  · intro k hk
    rw [List.mem_append] at hk
    rcases hk with hk | hk
    · obtain ⟨h3, h4⟩ := H.free k hk
      refine ⟨h3, ?_⟩
      rw [List.getElem?_set]
      split
      · rename_i e'
        subst e'
        simp [hlt]
      · exact h4
    · simp at hk
      subst hk
      simp [hlt]
  · rw [List.nodup_append]
    refine ⟨H.nodup, by simp, ?_⟩
    intro a ha b hb hab
    simp at hb
    subst hb
    subst hab
    have := (H.free _ ha).2
    simp [hn] at this
theorem absr_length (rs : List Row) : (absr rs).length = rs.length := by simp [absr]
theorem absr_get (rs : List Row) (n : Nat) : (absr rs)[n]? = rs[n]?.map (Option.map Prod.snd) := by simp [absr]

def Ar (K : Nat → Prop) (w : World) (g : Nat) (most : Int) (cs : Cells) (back : List Nat) : Prop := ∃ rs, absr rs = cs ∧ AK K w g most rs back ∧ Good most cs back
theorem Ar.good {K : Nat → Prop} {w : World} {g : Nat} {most : Int} {cs : Cells} {back : List Nat} (h : Ar K w g most cs back) : Good most cs back := by
  obtain ⟨_, _, _, h⟩ := h
  exact h
theorem Ar.kp {K K' : Nat → Prop} {w w' : World} {g : Nat} {most : Int} {cs : Cells} {back : List Nat} (h : Ar K w g most cs back) (k : Kp K' w w') (hk : ∀ k, k < w.heap.size → ¬ K k → K' k) : Ar K w' g most cs back := by
  obtain ⟨rs, h1, h2, h3⟩ := h
  exact ⟨rs, h1, h2.kp k hk, h3⟩
theorem Ar.weaken {K K' : Nat → Prop} {w : World} {g : Nat} {most : Int} {cs : Cells} {back : List Nat} (h : Ar K w g most cs back) (hk : ∀ k, K' k → K k) : Ar K' w g most cs back := by
  obtain ⟨rs, h1, h2, h3⟩ := h
  exact ⟨rs, h1, h2.weaken hk, h3⟩
theorem Ar.more {K : Nat → Prop} {w w' : World} {g : Nat} {most : Int} {cs : Cells} {back : List Nat} (h : Ar K w g most cs back) (k : Kp (fun k => k < w.heap.size) w w') : Ar (fun k => K k ∨ w.heap.size ≤ k ∧ k < w'.heap.size) w' g most cs back := by
  obtain ⟨rs, h1, h2, h3⟩ := h
  exact ⟨rs, h1, h2.more k, h3⟩
theorem Ar.foot {K : Nat → Prop} {w : World} {g : Nat} {most : Int} {cs : Cells} {back : List Nat} (h : Ar K w g most cs back) :
    ∃ F : Nat → Prop, (∀ k, F k → ¬ K k ∧ k < w.heap.size) ∧ ∀ K' : Nat → Prop, (∀ k, K' k → ¬ F k ∧ k < w.heap.size) → Ar K' w g most cs back := by
  obtain ⟨rs, h1, h2, h3⟩ := h
  obtain ⟨F, f1, f2⟩ := h2.foot
  exact ⟨F, f1, fun K' hk => ⟨rs, h1, f2 K' hk, h3⟩⟩
theorem Ar.still {K : Nat → Prop} {w w' : World} {g : Nat} {most : Int} {cs : Cells} {back : List Nat} (h : Ar K w g most cs back) (s : Still w w') : Ar K w' g most cs back := by
  obtain ⟨rs, h1, h2, h3⟩ := h
  exact ⟨rs, h1, h2.still s, h3⟩
theorem Ar.kb {K : Nat → Prop} {w : World} {g : Nat} {most : Int} {cs : Cells} {back : List Nat} (h : Ar K w g most cs back) : ∀ k, K k → k < w.heap.size := by
  obtain ⟨rs, h1, h2, h3⟩ := h
  exact h2.1

theorem take_back {K : Nat → Prop} {w : World} {g : Nat} {most : Int} {cs : Cells} {back : List Nat} {h : Nat} (A : Ar K w g most cs (back ++ [h])) (a : Option Addr) (ws : List Int) (cap : Nat) (W : Wd K w a ws) (hw : ws.length ≤ 64) :
    Calls Try.prog 11 #[.pointer (some ⟨g, 0, none⟩), .slice a ws.length cap] w fun e w' => e = .returned (.tuple #[.int .u32 (h : Int), .int .i64 0]) ∧ Ar K w' g most (cs.set (h - 1) (some ws)) back ∧ Kp K w w' := by
  obtain ⟨rs, h1, h2, h3⟩ := A
  have hl : cs.length = rs.length := by rw [← h1, absr_length]
  obtain ⟨p1, p2⟩ := h3.free h (by simp)
  have hlt := (List.getElem?_eq_some_iff.1 p2).1
  have hlen := h3.len
  have hlim := h3.lim
  have hbl := h3.blen
  simp at hbl
  obtain ⟨n, rfl⟩ : ∃ n, h = n + 1 := ⟨h - 1, by omega⟩
  simp only [Nat.add_sub_cancel] at hlt p2 ⊢
  have h2' := h2
  obtain ⟨k0, vc, vb, ac, k1⟩ := h2'
  have F := free_any ac ⟨by omega, hlim⟩ (by simp; omega)
  refine (take_with (n := n) F (by simp; omega) (fun w1 s1 => unused_back (h2.still s1) (by omega)) (by omega) (by omega) W hw).mono ?_
  rintro e w' ⟨rfl, q, hA, hk⟩
  refine ⟨rfl, ⟨_, ?_, hA, h3.take ws⟩, hk⟩
  rw [← h1]
  simp [absr, List.map_set]
theorem take_new {K : Nat → Prop} {w : World} {g : Nat} {most : Int} {cs : Cells} (A : Ar K w g most cs []) (hm : (cs.length : Int) < most) (a : Option Addr) (ws : List Int) (cap : Nat) (W : Wd K w a ws) (hw : ws.length ≤ 64) :
    Calls Try.prog 11 #[.pointer (some ⟨g, 0, none⟩), .slice a ws.length cap] w fun e w' => e = .returned (.tuple #[.int .u32 ((cs.length + 1 : Nat) : Int), .int .i64 0]) ∧ Ar K w' g most (cs ++ [some ws]) [] ∧ Kp K w w' := by
  obtain ⟨rs, h1, h2, h3⟩ := A
  have hl : cs.length = rs.length := by rw [← h1, absr_length]
  have hlim := h3.lim
  have h2' := h2
  obtain ⟨k0, vc, vb, ac, k1⟩ := h2'
  have F := free_any ac ⟨by omega, hlim⟩ (by simp)
  rw [hl]
  refine (take_with (n := rs.length) (rs := rs ++ [none]) F (by simp; omega) (fun w1 s1 => unused_new (h2.still s1) (by omega)) (by simp; omega) (by simp) W hw).mono ?_
  rintro e w' ⟨rfl, q, hA, hk⟩
  refine ⟨rfl, ⟨_, ?_, hA, h3.grow (by omega) ws⟩, hk⟩
  rw [← h1]
  simp [absr]
end Go.Proofs.Ytjbpffeembepcaa
