/- MaskOthers. -/
import Derived.Test.YtklakdhghmhapaaDoorLawSteps
namespace Go.Proofs.YtklakdhghmhapaaDoor
open Go.RowKit
set_option maxRecDepth 20000

/-- The first k of the four turned over, the rest 0. -/
def othTo (m : List Nat) (k : Nat) : List Nat := m.mapIdx fun i x => if i < k then 18446744073709551615 - x else 0
theorem othTo_len (m : List Nat) (k : Nat) : (othTo m k).length = m.length := by simp [othTo]
theorem othTo_all (m : List Nat) (hm : m.length = 4) : othTo m 4 = others m := by
  apply List.ext_getElem
  · simp [othTo, others]
  · intro i h1 h2
    have : i < 4 := by simp [othTo] at h1; omega
    simp [othTo, others, this]
theorem othTo_zero (m : List Nat) (hm : m.length = 4) : othTo m 0 = z0 := by
  obtain ⟨a, b, c, d, rfl⟩ := list4 m hm
  rfl
theorem othTo_set (m : List Nat) (k : Nat) (h : k < m.length) : (othTo m k).set k (18446744073709551615 - m.getD k 0) = othTo m (k + 1) := by
  apply List.ext_getElem
  · simp [othTo]
  · intro i h1 h2
    simp only [othTo, List.length_set, List.length_mapIdx] at h1
    by_cases e : i = k
    · subst e; simp [othTo, h]
    · rw [List.getElem_set_ne (by omega)]
      simp only [othTo, List.getElem_mapIdx]
      by_cases hi : i < k
      · rw [if_pos hi, if_pos (by omega)]
      · rw [if_neg hi, if_neg (by omega)]

theorem low256 (b : Nat) (hb : b < 256) (w : World) : Calls Tryd.prog 25 #[.int .i64 b, .int .i64 256] w fun e w' => e = .returned (.int .i64 (b : Int)) ∧ w' = w := by
  go_enter Tryd.func25, Tryd.ntmps25
  go_wp2
  go_ret
  refine ⟨ret_int ?_, rfl⟩
  omega

/-- A byte turned there and back. -/
theorem wo_wth (m : List Nat) (hm : Ok m) (b : Nat) (hb : b < 256) (h : inM m b = false) : wo (wth m b) b = m :=
  mask_ext _ _ (wo_ok _ (wth_ok m hm b hb) b hb) hm fun c hc => by
    rw [inM_wo _ (wth_ok m hm b hb) b c hb, inM_wth m hm b c hb]
    by_cases e : c = b
    · subst e; simp [h]
    · simp [e]
theorem wth_wo (m : List Nat) (hm : Ok m) (b : Nat) (hb : b < 256) (h : inM m b = true) : wth (wo m b) b = m :=
  mask_ext _ _ (wth_ok _ (wo_ok m hm b hb) b hb) hm fun c hc => by
    rw [inM_wth _ (wo_ok m hm b hb) b c hb, inM_wo m hm b c hb]
    by_cases e : c = b
    · subst e; simp [h]
    · simp [e]
theorem wth_ne (m : List Nat) (hm : Ok m) (b : Nat) (hb : b < 256) (h : inM m b = false) : wth m b ≠ m := fun e => by
  have := inM_wth m hm b b hb
  rw [e, h] at this
  simp at this
theorem wo_ne (m : List Nat) (hm : Ok m) (b : Nat) (hb : b < 256) (h : inM m b = true) : wo m b ≠ m := fun e => by
  have := inM_wo m hm b b hb
  rw [e, h] at this
  simp at this

/-- Two masks where they lie. -/
structure Lie3 (g h : Nat) (m o : List Value) (w0 w : World) : Prop where
  m : Blk w g 24 m
  o : Blk w h 24 o
  f : Below w0.heap.size w0 w
theorem Lie3.below {g h : Nat} {m o : List Value} {w0 w w' : World} (l : Lie3 g h m o w0 w) (f : Below w.heap.size w w') : Lie3 g h m o w0 w' :=
  ⟨l.m.below f l.m.lt, l.o.below f l.o.lt, l.f.trans (f.mono l.f.size)⟩
theorem Lie3.alloc {g h : Nat} {m o : List Value} {w0 w : World} (l : Lie3 g h m o w0 w) (x : Obj) : Lie3 g h m o w0 (w.alloc x) :=
  ⟨l.m.alloc x, l.o.alloc x, Below.alloc l.f l.f.size x⟩
/-- The four masks where they lie. -/
structure Lie (g h i j : Nat) (m o t k : List Value) (w0 w : World) : Prop where
  m : Blk w g 24 m
  o : Blk w h 24 o
  t : Blk w i 24 t
  k : Blk w j 24 k
  f : Below w0.heap.size w0 w
theorem Lie.below {g h i j : Nat} {m o t k : List Value} {w0 w w' : World} (l : Lie g h i j m o t k w0 w) (f : Below w.heap.size w w') : Lie g h i j m o t k w0 w' :=
  ⟨l.m.below f l.m.lt, l.o.below f l.o.lt, l.t.below f l.t.lt, l.k.below f l.k.lt, l.f.trans (f.mono l.f.size)⟩
theorem Blk.four {w : World} {g : Nat} {e : TypeId} {a0 a1 a2 a3 : Value} (h : Blk w g e [a0, a1, a2, a3]) (b0 b1 b2 b3 : Value) : Blk ((((w.setCell ⟨g, 0, none⟩ b0).setCell ⟨g, 1, none⟩ b1).setCell ⟨g, 2, none⟩ b2).setCell ⟨g, 3, none⟩ b3) g e [b0, b1, b2, b3] :=
  (((h.set 0 b0).set 1 b1).set 2 b2).set 3 b3
theorem only_four (w : World) (g : Nat) (b0 b1 b2 b3 : Value) : Only g w ((((w.setCell ⟨g, 0, none⟩ b0).setCell ⟨g, 1, none⟩ b1).setCell ⟨g, 2, none⟩ b2).setCell ⟨g, 3, none⟩ b3) :=
  ((((Only.refl g w).setCell 0 b0).setCell 1 b1).setCell 2 b2).setCell 3 b3
theorem Lie.setT {g h i j : Nat} {m o k : List Value} {a0 a1 a2 a3 : Value} {w0 w : World} (l : Lie g h i j m o [a0, a1, a2, a3] k w0 w) (hg : g ≠ i) (hh : h ≠ i) (hj : j ≠ i) (hi : w0.heap.size ≤ i) (b0 b1 b2 b3 : Value) :
    Lie g h i j m o [b0, b1, b2, b3] k w0 ((((w.setCell ⟨i, 0, none⟩ b0).setCell ⟨i, 1, none⟩ b1).setCell ⟨i, 2, none⟩ b2).setCell ⟨i, 3, none⟩ b3) :=
  have f := only_four w i b0 b1 b2 b3
  ⟨l.m.only f hg, l.o.only f hh, l.t.four b0 b1 b2 b3, l.k.only f hj, l.f.trans (f.below hi)⟩
theorem Lie.setK {g h i j : Nat} {m o t : List Value} {a0 a1 a2 a3 : Value} {w0 w : World} (l : Lie g h i j m o t [a0, a1, a2, a3] w0 w) (hg : g ≠ j) (hh : h ≠ j) (hi : i ≠ j) (hj : w0.heap.size ≤ j) (b0 b1 b2 b3 : Value) :
    Lie g h i j m o t [b0, b1, b2, b3] w0 ((((w.setCell ⟨j, 0, none⟩ b0).setCell ⟨j, 1, none⟩ b1).setCell ⟨j, 2, none⟩ b2).setCell ⟨j, 3, none⟩ b3) :=
  have f := only_four w j b0 b1 b2 b3
  ⟨l.m.only f hg, l.o.only f hh, l.t.only f hi, l.k.four b0 b1 b2 b3, l.f.trans (f.below hj)⟩
theorem Lie.drew {g h i j : Nat} {m o t k : List Value} {w0 w : World} (l : Lie g h i j m o t k w0 w) : Lie g h i j m o t k w0 w.drew := ⟨l.m.drew, l.o.drew, l.t.drew, l.k.drew, l.f.drew⟩


theorem xor_ones (x : Nat) (hx : x < 18446744073709551616) : bits BinOp.xor IntKind.u64 (if IntKind.u64.signed = true then -1 else IntKind.u64.max) (x : Int) = ((18446744073709551615 - x : Nat) : Int) := by
  have e : (if IntKind.u64.signed = true then -1 else IntKind.u64.max) = ((18446744073709551615 : Nat) : Int) := by decide
  rw [e, bits_xor_u64_nat _ _ (by decide) hx]
  congr 1
  apply Nat.eq_of_testBit_eq
  intro j
  rw [Nat.testBit_xor, show (18446744073709551615 : Nat) = 2 ^ 64 - 1 by decide, Nat.testBit_two_pow_sub_one]
  by_cases h : j < 64
  · have := testBit_not x j hx h
    rw [show (2 ^ 64 - 1 - x : Nat) = 18446744073709551615 - x by omega, this]
    simp [h]
  · rw [testBit_high x j hx (by omega), testBit_high _ j (show 2 ^ 64 - 1 - x < 18446744073709551616 by omega) (by omega)]
    simp [h]
theorem u64s4 (y0 y1 y2 y3 : Nat) : u64s [y0, y1, y2, y3] = ag4 y0 y1 y2 y3 := rfl

set_option maxHeartbeats 8000000 in
theorem others_any {m : List Nat} {x0 x1 x2 x3 : Nat} (em : m = [x0, x1, x2, x3]) (hm : Ok m) (b : Nat) (hb : b < 256) (w : World) (hT : Tab w) (hw : 0 < w.heap.size) :
    Calls Tryd.prog 6 #[ag x0 x1 x2 x3, .int .u8 b] w fun e w' => e = .returned (.bool true) ∧ Below w.heap.size w w' := by
  have HT := hide hT
  have HM := hide hm
  have EM := hide em
  have BA := hide (((Blk.new w 23 (u64s m) #[.int .u64 (x0 : Int), .int .u64 (x1 : Int), .int .u64 (x2 : Int), .int .u64 (x3 : Int)] (by rw [em]; rfl)).alloc (.cells #[.int .u64 (x0 : Int), .int .u64 (x1 : Int), .int .u64 (x2 : Int), .int .u64 (x3 : Int)] 24 (0, 0))).alloc (.cells #[.int .u64 0, .int .u64 0, .int .u64 0, .int .u64 0] 24 (0, 0)))
  have BM := hide (((Blk.new (w.alloc (.cells #[.int .u64 (x0 : Int), .int .u64 (x1 : Int), .int .u64 (x2 : Int), .int .u64 (x3 : Int)] 23 (0, 0))) 24 (ag4 x0 x1 x2 x3) #[.int .u64 (x0 : Int), .int .u64 (x1 : Int), .int .u64 (x2 : Int), .int .u64 (x3 : Int)] rfl).to (show _ = w.heap.size + 1 by simp)).alloc (.cells #[.int .u64 0, .int .u64 0, .int .u64 0, .int .u64 0] 24 (0, 0)))
  have BO := hide ((Blk.new ((w.alloc (.cells #[.int .u64 (x0 : Int), .int .u64 (x1 : Int), .int .u64 (x2 : Int), .int .u64 (x3 : Int)] 23 (0, 0))).alloc (.cells #[.int .u64 (x0 : Int), .int .u64 (x1 : Int), .int .u64 (x2 : Int), .int .u64 (x3 : Int)] 24 (0, 0))) 24 (u64s z0) #[.int .u64 0, .int .u64 0, .int .u64 0, .int .u64 0] rfl).to (show _ = w.heap.size + 1 + 1 by simp))
  have F0 := hide (Below.alloc (Below.alloc (Below.alloc (Below.refl w.heap.size w) (Nat.le_refl _) (.cells #[.int .u64 (x0 : Int), .int .u64 (x1 : Int), .int .u64 (x2 : Int), .int .u64 (x3 : Int)] 23 (0, 0))) (by simp) (.cells #[.int .u64 (x0 : Int), .int .u64 (x1 : Int), .int .u64 (x2 : Int), .int .u64 (x3 : Int)] 24 (0, 0))) (by simp; omega) (.cells #[.int .u64 0, .int .u64 0, .int .u64 0, .int .u64 0] 24 (0, 0)))
  clear hT hm em
  go_enter Tryd.func6, Tryd.ntmps6
  go_wp2
  generalize (((w.alloc (.cells #[.int .u64 (x0 : Int), .int .u64 (x1 : Int), .int .u64 (x2 : Int), .int .u64 (x3 : Int)] 23 (0, 0))).alloc (.cells #[.int .u64 (x0 : Int), .int .u64 (x1 : Int), .int .u64 (x2 : Int), .int .u64 (x3 : Int)] 24 (0, 0))).alloc (.cells #[.int .u64 0, .int .u64 0, .int .u64 0, .int .u64 0] 24 (0, 0))) = w2 at *
  go_loopw [7] (fun v wr => ∃ k : Nat, v = .int .i64 k ∧ k ≤ 4 ∧ Blk wr w.heap.size 23 (u64s m) ∧ Blk wr (w.heap.size + 1) 24 (ag4 x0 x1 x2 x3) ∧ Blk wr (w.heap.size + 1 + 1) 24 (u64s (othTo m k)) ∧ Below w.heap.size w wr) (fun v _ => 4 - (intOf v).toNat)
  case atStart => exact ⟨0, rfl, by omega, BA.out, BM.out, by rw [othTo_zero m HM.out.len]; exact BO.out, F0.out⟩
  case round =>
    obtain ⟨k, rfl, hk, a1, a2, a3, a4⟩ := hrel
    have RA := hide a1
    have RM := hide a2
    have RO := hide a3
    have RF := hide a4
    clear a1 a2 a3 a4
    by_cases h1 : k < 4
    · have hki : (k : Int) < 4 := by omega
      have c1 : wr.cell? ⟨w.heap.size, k, none⟩ = some (.int .u64 (m.getD k 0 : Int)) := by
        rw [RA.out.cell, u64s_get _ _ (by rw [HM.out.len]; omega)]
      have c2 : wr.cell? ⟨w.heap.size + 1 + 1, k, none⟩ = some (.int .u64 ((othTo m k).getD k 0 : Int)) := by
        rw [RO.out.cell, u64s_get _ _ (by rw [othTo_len, HM.out.len]; omega)]
      have z2 : wr.frozen? ⟨w.heap.size + 1 + 1, k, none⟩ = false := RO.out.frozen _
      have HX := hide (HM.out.lt k)
      have HS := hide (othTo_set m k (by rw [HM.out.len]; omega))
      generalize m.getD k 0 = x at *
      generalize (othTo m k).getD k 0 = y at *
      go_wp2
      go_roundw
      case measure => simp only [intOf]; omega
      case rel =>
        have e : (u64s (othTo m k)).set k (Value.int .u64 (bits BinOp.xor IntKind.u64 (if IntKind.u64.signed = true then -1 else IntKind.u64.max) (x : Int))) = u64s (othTo m (k + 1)) := by
          rw [xor_ones x HX.out, u64s_set, HS.out]
        refine ⟨k + 1, by go_num, by omega, ?_, ?_, ?_, ?_⟩
        · exact RA.out.only ((Only.refl (w.heap.size + 1 + 1) wr).setCell k _) (by omega)
        · exact RM.out.only ((Only.refl (w.heap.size + 1 + 1) wr).setCell k _) (by omega)
        · have b := RO.out.set k (Value.int .u64 (bits BinOp.xor IntKind.u64 (if IntKind.u64.signed = true then -1 else IntKind.u64.max) (x : Int)))
          rw [e] at b
          exact b
        · exact Below.setCell RF.out (by simp; omega) _
    · obtain rfl : k = 4 := by omega
      rw [othTo_all m HM.out.len] at RO
      have HO := hide (others_ok m HM.out)
      obtain ⟨o0, o1, o2, o3, eo⟩ := list4 (others m) HO.out.len
      have EO := hide eo
      rw [eo] at RO
      clear eo h1 hk
      obtain ⟨W1, rfl⟩ : ∃ W, W = wr := ⟨_, rfl⟩
      obtain ⟨p0, p1, p2, p3, ep⟩ := list4 (wth m b) (wth_ok m HM.out b hb).len
      have CW : ∀ w, Calls Tryd.prog 10 #[ag x0 x1 x2 x3, .int .u8 b] w fun e w' => e = .returned (ag p0 p1 p2 p3) ∧ Below w.heap.size w w' := fun w => by
        have := with4 EM.out HM.out b hb w
        rwa [ep] at this
      have EP := hide ep
      clear ep
      obtain ⟨c0, c1, c2, c3⟩ := RM.out.cells4
      by_cases hin : inM m b = true
      · obtain ⟨q0, q1, q2, q3, eq⟩ := list4 (wo (wth m b) b) (wo_ok _ (wth_ok m HM.out b hb) b hb).len
        obtain ⟨r0, r1, r2, r3, er⟩ := list4 (wo m b) (wo_ok m HM.out b hb).len
        have CO : ∀ w, Calls Tryd.prog 12 #[ag p0 p1 p2 p3, .int .u8 b] w fun e w' => e = .returned (ag q0 q1 q2 q3) ∧ Below w.heap.size w w' := fun w => by
          have := without4 EP.out (wth_ok m HM.out b hb) b hb w
          rwa [eq] at this
        have CO2 : ∀ w, Calls Tryd.prog 12 #[ag x0 x1 x2 x3, .int .u8 b] w fun e w' => e = .returned (ag r0 r1 r2 r3) ∧ Below w.heap.size w w' := fun w => by
          have := without4 EM.out HM.out b hb w
          rwa [er] at this
        have CW2 : ∀ w, Calls Tryd.prog 10 #[ag r0 r1 r2 r3, .int .u8 b] w fun e w' => e = .returned (ag x0 x1 x2 x3) ∧ Below w.heap.size w w' := fun w => by
          have := with4 er (wo_ok m HM.out b hb) b hb w
          rwa [wth_wo m HM.out b hb hin, EM.out] at this
        have CH : ∀ w, Calls Tryd.prog 9 #[ag x0 x1 x2 x3, .int .u8 b] w fun e w' => e = .returned (.bool true) ∧ Below w.heap.size w w' := fun w => by
          have := has4 EM.out HM.out b hb w
          rwa [hin] at this
        have HNE : Hid ([r0, r1, r2, r3] ≠ [x0, x1, x2, x3]) := by rw [← er, ← EM.out]; exact wo_ne m HM.out b hb hin
        clear hin eq er
        go_wp2_with (first
          | (go_at_call 25; refine (low256 b hb _).mono ?_; rintro e w5 ⟨rfl, rfl⟩)
          | (go_at_call_of 10 x0; refine (CW _).mono ?_; rintro e w6 ⟨rfl, f6⟩; have L6 := hide (Lie3.below ⟨RM.out, RO.out, RF.out⟩ f6); have L7 := hide (L6.out.alloc (.cells #[.int .u64 (p0 : Int), .int .u64 (p1 : Int), .int .u64 (p2 : Int), .int .u64 (p3 : Int)] 24 (0, 0))); have T7 := hide (Blk.new w6 24 (ag4 p0 p1 p2 p3) #[.int .u64 (p0 : Int), .int .u64 (p1 : Int), .int .u64 (p2 : Int), .int .u64 (p3 : Int)] rfl); clear f6)
          | (go_at_call_of 12 p0; refine (CO _).mono ?_; rintro e w8 ⟨rfl, f8⟩; have L8 := hide (L7.out.below f8); have L9 := hide (L8.out.alloc (.cells #[.int .u64 (q0 : Int), .int .u64 (q1 : Int), .int .u64 (q2 : Int), .int .u64 (q3 : Int)] 24 (0, 0))); have T8 := hide (T7.out.below f8 T7.out.lt); have T9 := hide (T8.out.alloc (.cells #[.int .u64 (q0 : Int), .int .u64 (q1 : Int), .int .u64 (q2 : Int), .int .u64 (q3 : Int)] 24 (0, 0))); have K9 := hide (Blk.new w8 24 (ag4 q0 q1 q2 q3) #[.int .u64 (q0 : Int), .int .u64 (q1 : Int), .int .u64 (q2 : Int), .int .u64 (q3 : Int)] rfl); obtain ⟨d0, d1, d2, d3⟩ := L9.out.m.cells4; clear f8)
          | (go_at_call 9; refine (CH _).mono ?_; rintro e w10 ⟨rfl, f10⟩; have L10 := hide (Lie.below ⟨L9.out.m, L9.out.o, T9.out, K9.out, L9.out.f⟩ f10); obtain ⟨e0, e1, e2, e3⟩ := L10.out.m.cells4; clear f10)
          | (go_at_call_of 12 x0; refine (CO2 _).mono ?_; rintro e w11 ⟨rfl, f11⟩; have L11 := hide (L10.out.below f11); have n1 := L6.out.o.lt; have n2 := T8.out.lt; have L12 := hide (L11.out.setT (by omega) (by omega) (by omega) (by omega) (.int .u64 (r0 : Int)) (.int .u64 (r1 : Int)) (.int .u64 (r2 : Int)) (.int .u64 (r3 : Int))); obtain ⟨g0, g1, g2, g3⟩ := L11.out.t.cells4; obtain ⟨h0, h1, h2, h3⟩ := L11.out.t.frozen4; obtain ⟨i0, i1, i2, i3⟩ := L12.out.t.cells4; clear f11)
          | (go_at_call_of 10 r0; refine (CW2 _).mono ?_; rintro e w12 ⟨rfl, f12⟩; have L13 := hide (L12.out.below f12); have L14 := hide (L13.out.setK (by omega) (by omega) (by omega) (by omega) (.int .u64 (x0 : Int)) (.int .u64 (x1 : Int)) (.int .u64 (x2 : Int)) (.int .u64 (x3 : Int))); obtain ⟨j0, j1, j2, j3⟩ := L13.out.k.cells4; obtain ⟨k0, k1, k2, k3⟩ := L13.out.k.frozen4; clear f12))
        have LL := L14
        go_loopw [11] (fun v wr => ∃ k : Nat, v = .int .i64 k ∧ k ≤ 256 ∧ Lie (w.heap.size + 1) (w.heap.size + 1 + 1) w6.heap.size w8.heap.size (ag4 x0 x1 x2 x3) (ag4 o0 o1 o2 o3) (ag4 r0 r1 r2 r3) (ag4 x0 x1 x2 x3) w wr) (fun v _ => 256 - (intOf v).toNat)
        case atStart => exact ⟨0, rfl, by omega, LL.out⟩
        case round =>
          obtain ⟨k, rfl, hk, hl⟩ := hrel
          have RL := hide hl
          clear hl
          by_cases h1 : k < 256
          · have hki : (k : Int) < 256 := by omega
            have hcv : IntKind.u8.wrap (k : Int) = (k : Int) := by rw [IntKind.wrap_u8]; omega
            obtain ⟨v, CH1, CH2⟩ : ∃ v : Bool, (∀ w, Calls Tryd.prog 9 #[ag x0 x1 x2 x3, .int .u8 k] w fun e w' => e = .returned (.bool v) ∧ Below w.heap.size w w') ∧ (∀ w, Calls Tryd.prog 9 #[ag o0 o1 o2 o3, .int .u8 k] w fun e w' => e = .returned (.bool (!v)) ∧ Below w.heap.size w w') := ⟨inM m k, fun w => has4 EM.out HM.out k h1 w, fun w => by
              have := has4 EO.out HO.out k h1 w
              rwa [inM_others m HM.out k h1] at this⟩
            have E2 : Hid (∀ w', Lie (w.heap.size + 1) (w.heap.size + 1 + 1) w6.heap.size w8.heap.size (ag4 x0 x1 x2 x3) (ag4 o0 o1 o2 o3) (ag4 r0 r1 r2 r3) (ag4 x0 x1 x2 x3) w w' → w'.cell? ⟨w.heap.size + 1, 0, none⟩ = some (.int .u64 (x0 : Int)) ∧ w'.cell? ⟨w.heap.size + 1, 1, none⟩ = some (.int .u64 (x1 : Int)) ∧ w'.cell? ⟨w.heap.size + 1, 2, none⟩ = some (.int .u64 (x2 : Int)) ∧ w'.cell? ⟨w.heap.size + 1, 3, none⟩ = some (.int .u64 (x3 : Int)) ∧ w'.cell? ⟨w.heap.size + 1 + 1, 0, none⟩ = some (.int .u64 (o0 : Int)) ∧ w'.cell? ⟨w.heap.size + 1 + 1, 1, none⟩ = some (.int .u64 (o1 : Int)) ∧ w'.cell? ⟨w.heap.size + 1 + 1, 2, none⟩ = some (.int .u64 (o2 : Int)) ∧ w'.cell? ⟨w.heap.size + 1 + 1, 3, none⟩ = some (.int .u64 (o3 : Int))) := fun w' l => by
              obtain ⟨c0, c1, c2, c3⟩ := l.m.cells4
              obtain ⟨d0, d1, d2, d3⟩ := l.o.cells4
              exact ⟨c0, c1, c2, c3, d0, d1, d2, d3⟩
            have S0 := E2.out _ RL.out
            have hbv : (v == !v) = false := by cases v <;> rfl
            go_wp2
            go_region_held3 (fun w' => w'.cell? ⟨w.heap.size + 1, 0, none⟩ = some (.int .u64 (x0 : Int)) ∧ w'.cell? ⟨w.heap.size + 1, 1, none⟩ = some (.int .u64 (x1 : Int)) ∧ w'.cell? ⟨w.heap.size + 1, 2, none⟩ = some (.int .u64 (x2 : Int)) ∧ w'.cell? ⟨w.heap.size + 1, 3, none⟩ = some (.int .u64 (x3 : Int)) ∧ w'.cell? ⟨w.heap.size + 1 + 1, 0, none⟩ = some (.int .u64 (o0 : Int)) ∧ w'.cell? ⟨w.heap.size + 1 + 1, 1, none⟩ = some (.int .u64 (o1 : Int)) ∧ w'.cell? ⟨w.heap.size + 1 + 1, 2, none⟩ = some (.int .u64 (o2 : Int)) ∧ w'.cell? ⟨w.heap.size + 1 + 1, 3, none⟩ = some (.int .u64 (o3 : Int))) (first | exact S7 | exact S6 | exact S0)
              (first
              | (go_at_call_of 9 x0; refine (CH1 _).mono ?_; rintro e w20 ⟨rfl, f20⟩; have L20 := hide (RL.out.drew.below f20); have S6 := E2.out _ L20.out; clear f20)
              | (go_at_call_of 9 o0; refine (CH2 _).mono ?_; rintro e w21 ⟨rfl, f21⟩; have L21 := hide (L20.out.below f21); have S7 := E2.out _ L21.out; clear f21))
            go_wp2
            go_roundw
            case measure => simp only [intOf]; omega
            case rel => exact ⟨k + 1, by go_num, by omega, L21.out⟩
          · obtain rfl : k = 256 := by omega
            have E4 : Hid (∀ w', Lie (w.heap.size + 1) (w.heap.size + 1 + 1) w6.heap.size w8.heap.size (ag4 x0 x1 x2 x3) (ag4 o0 o1 o2 o3) (ag4 r0 r1 r2 r3) (ag4 x0 x1 x2 x3) w w' → w'.cell? ⟨w.heap.size + 1, 0, none⟩ = some (.int .u64 (x0 : Int)) ∧ w'.cell? ⟨w.heap.size + 1, 1, none⟩ = some (.int .u64 (x1 : Int)) ∧ w'.cell? ⟨w.heap.size + 1, 2, none⟩ = some (.int .u64 (x2 : Int)) ∧ w'.cell? ⟨w.heap.size + 1, 3, none⟩ = some (.int .u64 (x3 : Int)) ∧ w'.cell? ⟨w.heap.size + 1 + 1, 0, none⟩ = some (.int .u64 (o0 : Int)) ∧ w'.cell? ⟨w.heap.size + 1 + 1, 1, none⟩ = some (.int .u64 (o1 : Int)) ∧ w'.cell? ⟨w.heap.size + 1 + 1, 2, none⟩ = some (.int .u64 (o2 : Int)) ∧ w'.cell? ⟨w.heap.size + 1 + 1, 3, none⟩ = some (.int .u64 (o3 : Int)) ∧ w'.cell? ⟨w6.heap.size, 0, none⟩ = some (.int .u64 (r0 : Int)) ∧ w'.cell? ⟨w6.heap.size, 1, none⟩ = some (.int .u64 (r1 : Int)) ∧ w'.cell? ⟨w6.heap.size, 2, none⟩ = some (.int .u64 (r2 : Int)) ∧ w'.cell? ⟨w6.heap.size, 3, none⟩ = some (.int .u64 (r3 : Int)) ∧ w'.cell? ⟨w8.heap.size, 0, none⟩ = some (.int .u64 (x0 : Int)) ∧ w'.cell? ⟨w8.heap.size, 1, none⟩ = some (.int .u64 (x1 : Int)) ∧ w'.cell? ⟨w8.heap.size, 2, none⟩ = some (.int .u64 (x2 : Int)) ∧ w'.cell? ⟨w8.heap.size, 3, none⟩ = some (.int .u64 (x3 : Int))) := fun w' l => by
              obtain ⟨c0, c1, c2, c3⟩ := l.m.cells4
              obtain ⟨d0, d1, d2, d3⟩ := l.o.cells4
              obtain ⟨e0, e1, e2, e3⟩ := l.t.cells4
              obtain ⟨g0, g1, g2, g3⟩ := l.k.cells4
              exact ⟨c0, c1, c2, c3, d0, d1, d2, d3, e0, e1, e2, e3, g0, g1, g2, g3⟩
            have S0 := E4.out _ RL.out
            have CC1 := fun w => count4 EM.out HM.out w
            have CC2 := fun w => count4 EO.out HO.out w
            have CR1 := fun w => rank4 EM.out HM.out (b : Int) (by omega) w
            have CR2 := fun w => rank4 EO.out HO.out (b : Int) (by omega) w
            have CA1 := fun w hT hw => all4 EM.out HM.out w hT hw
            have CA2 := fun w hT hw => all4 EO.out HO.out w hT hw
            have hs := cnt_others m HM.out
            rw [cnt_len m HM.out, cnt_len _ HO.out] at hs
            have hr := rank_others m HM.out b (by omega)
            have HB1 := hide (elems_bytes m)
            have HB2 := hide (elems_bytes (others m))
            generalize elems m = E1 at *
            generalize elems (others m) = F1 at *
            generalize cnt (bl m (max (b : Int) 0)) = ra at *
            generalize cnt (bl (others m) (max (b : Int) 0)) = rb at *
            have hw1 : IntKind.i64.wrap ((E1.length : Int) + (F1.length : Int)) = 256 := by rw [IntKind.wrap_i64]; omega
            have hw2 : IntKind.i64.wrap ((ra : Int) + (rb : Int)) = (b : Int) := by rw [IntKind.wrap_i64]; omega
            have qb : ∀ w, (Op.equalIn 10000 24 (ag x0 x1 x2 x3) (ag x0 x1 x2 x3)).run Tryd.prog w = .ok true w := fun w => by
              have := eq4_run x0 x1 x2 x3 x0 x1 x2 x3 w
              simpa using this
            have qt : ∀ w, (Op.equalIn 10000 24 (ag r0 r1 r2 r3) (ag x0 x1 x2 x3)).run Tryd.prog w = .ok false w := fun w => by
              have := eqm_run [r0, r1, r2, r3] [x0, x1, x2, x3] rfl rfl w
              rwa [decide_eq_false HNE.out] at this
            have LR := hide RL.out.drew
            clear hs hr
            go_wp2
            go_region_held3 (fun w' => w'.cell? ⟨w.heap.size + 1, 0, none⟩ = some (.int .u64 (x0 : Int)) ∧ w'.cell? ⟨w.heap.size + 1, 1, none⟩ = some (.int .u64 (x1 : Int)) ∧ w'.cell? ⟨w.heap.size + 1, 2, none⟩ = some (.int .u64 (x2 : Int)) ∧ w'.cell? ⟨w.heap.size + 1, 3, none⟩ = some (.int .u64 (x3 : Int)) ∧ w'.cell? ⟨w.heap.size + 1 + 1, 0, none⟩ = some (.int .u64 (o0 : Int)) ∧ w'.cell? ⟨w.heap.size + 1 + 1, 1, none⟩ = some (.int .u64 (o1 : Int)) ∧ w'.cell? ⟨w.heap.size + 1 + 1, 2, none⟩ = some (.int .u64 (o2 : Int)) ∧ w'.cell? ⟨w.heap.size + 1 + 1, 3, none⟩ = some (.int .u64 (o3 : Int)) ∧ w'.cell? ⟨w6.heap.size, 0, none⟩ = some (.int .u64 (r0 : Int)) ∧ w'.cell? ⟨w6.heap.size, 1, none⟩ = some (.int .u64 (r1 : Int)) ∧ w'.cell? ⟨w6.heap.size, 2, none⟩ = some (.int .u64 (r2 : Int)) ∧ w'.cell? ⟨w6.heap.size, 3, none⟩ = some (.int .u64 (r3 : Int)) ∧ w'.cell? ⟨w8.heap.size, 0, none⟩ = some (.int .u64 (x0 : Int)) ∧ w'.cell? ⟨w8.heap.size, 1, none⟩ = some (.int .u64 (x1 : Int)) ∧ w'.cell? ⟨w8.heap.size, 2, none⟩ = some (.int .u64 (x2 : Int)) ∧ w'.cell? ⟨w8.heap.size, 3, none⟩ = some (.int .u64 (x3 : Int))) (first | exact S36 | exact S35 | exact S34 | exact S33 | exact S32 | exact S31 | exact S30 | exact S0)
              (first
              | (go_at_call_of 21 x0; refine (CC1 _).mono ?_; rintro e w30 ⟨rfl, f30⟩; have L30 := hide (LR.out.below f30); have S30 := E4.out _ L30.out; clear f30)
              | (go_at_call_of 21 o0; refine (CC2 _).mono ?_; rintro e w31 ⟨rfl, f31⟩; have L31 := hide (L30.out.below f31); have S31 := E4.out _ L31.out; clear f31)
              | (go_at_call_of 17 x0; refine (CR1 _).mono ?_; rintro e w32 ⟨rfl, f32⟩; have L32 := hide (L31.out.below f32); have S32 := E4.out _ L32.out; clear f32)
              | (go_at_call_of 17 o0; refine (CR2 _).mono ?_; rintro e w33 ⟨rfl, f33⟩; have L33 := hide (L32.out.below f33); have S33 := E4.out _ L33.out; clear f33)
              | (go_at_call_of 8 x0; refine (CA1 _ (HT.out.below L33.out.f hw) (Nat.lt_of_lt_of_le hw L33.out.f.size)).mono ?_; rintro e w34 ⟨v34, rfl, o34, f34⟩; obtain ⟨a34, k34, rfl, r34⟩ := owns_ints o34 HB1.out; have L34 := hide (L33.out.below f34); have S34 := E4.out _ L34.out; clear o34 r34; clear f34)
              | (go_at_call_of 8 o0; refine (CA2 _ (HT.out.below L34.out.f hw) (Nat.lt_of_lt_of_le hw L34.out.f.size)).mono ?_; rintro e w35 ⟨v35, rfl, o35, f35⟩; obtain ⟨a35, k35, rfl, r35⟩ := owns_ints o35 HB2.out; have L35 := hide (L34.out.below f35); have S35 := E4.out _ L35.out; clear o35 r35; clear f35)
              | (go_at_call 23; refine (awake_any _ (HT.out.below L35.out.f hw) (Nat.lt_of_lt_of_le hw L35.out.f.size)).mono ?_; rintro e w36 ⟨rfl, f36⟩; have L36 := hide (L35.out.below f36); have S36 := E4.out _ L36.out; clear f36))
            go_wp2
            go_ret
            exact ⟨rfl, L36.out.f⟩
      · have hin' : inM m b = false := by simpa using hin
        have CH : ∀ w, Calls Tryd.prog 9 #[ag x0 x1 x2 x3, .int .u8 b] w fun e w' => e = .returned (.bool false) ∧ Below w.heap.size w w' := fun w => by
          have := has4 EM.out HM.out b hb w
          rwa [hin'] at this
        have HIN := hide hin'
        have CO : ∀ w, Calls Tryd.prog 12 #[ag p0 p1 p2 p3, .int .u8 b] w fun e w' => e = .returned (ag x0 x1 x2 x3) ∧ Below w.heap.size w w' := fun w => by
          have := without4 EP.out (wth_ok m HM.out b hb) b hb w
          rwa [wo_wth m HM.out b hb hin', EM.out] at this
        clear hin hin'
        go_wp2_with (first
          | (go_at_call 25; refine (low256 b hb _).mono ?_; rintro e w5 ⟨rfl, rfl⟩)
          | (go_at_call 10; refine (CW _).mono ?_; rintro e w6 ⟨rfl, f6⟩; have L6 := hide (Lie3.below ⟨RM.out, RO.out, RF.out⟩ f6); have L7 := hide (L6.out.alloc (.cells #[.int .u64 (p0 : Int), .int .u64 (p1 : Int), .int .u64 (p2 : Int), .int .u64 (p3 : Int)] 24 (0, 0))); have T7 := hide (Blk.new w6 24 (ag4 p0 p1 p2 p3) #[.int .u64 (p0 : Int), .int .u64 (p1 : Int), .int .u64 (p2 : Int), .int .u64 (p3 : Int)] rfl); clear f6)
          | (go_at_call 12; refine (CO _).mono ?_; rintro e w8 ⟨rfl, f8⟩; have L8 := hide (L7.out.below f8); have L9 := hide (L8.out.alloc (.cells #[.int .u64 (x0 : Int), .int .u64 (x1 : Int), .int .u64 (x2 : Int), .int .u64 (x3 : Int)] 24 (0, 0))); have T9 := hide ((T7.out.below f8 T7.out.lt).alloc (.cells #[.int .u64 (x0 : Int), .int .u64 (x1 : Int), .int .u64 (x2 : Int), .int .u64 (x3 : Int)] 24 (0, 0))); have K9 := hide (Blk.new w8 24 (ag4 x0 x1 x2 x3) #[.int .u64 (x0 : Int), .int .u64 (x1 : Int), .int .u64 (x2 : Int), .int .u64 (x3 : Int)] rfl); obtain ⟨d0, d1, d2, d3⟩ := L9.out.m.cells4; clear f8)
          | (go_at_call 9; refine (CH _).mono ?_; rintro e w10 ⟨rfl, f10⟩; have L10 := hide (Lie.below ⟨L9.out.m, L9.out.o, T9.out, K9.out, L9.out.f⟩ f10); clear f10))
        have LL := L10
        have HNE : Hid ([p0, p1, p2, p3] ≠ [x0, x1, x2, x3]) := by rw [← EP.out, ← EM.out]; exact wth_ne m HM.out b hb HIN.out
        go_loopw [11] (fun v wr => ∃ k : Nat, v = .int .i64 k ∧ k ≤ 256 ∧ Lie (w.heap.size + 1) (w.heap.size + 1 + 1) w6.heap.size w8.heap.size (ag4 x0 x1 x2 x3) (ag4 o0 o1 o2 o3) (ag4 p0 p1 p2 p3) (ag4 x0 x1 x2 x3) w wr) (fun v _ => 256 - (intOf v).toNat)
        case atStart => exact ⟨0, rfl, by omega, LL.out⟩
        case round =>
          obtain ⟨k, rfl, hk, hl⟩ := hrel
          have RL := hide hl
          clear hl
          by_cases h1 : k < 256
          · have hki : (k : Int) < 256 := by omega
            have hcv : IntKind.u8.wrap (k : Int) = (k : Int) := by rw [IntKind.wrap_u8]; omega
            obtain ⟨v, CH1, CH2⟩ : ∃ v : Bool, (∀ w, Calls Tryd.prog 9 #[ag x0 x1 x2 x3, .int .u8 k] w fun e w' => e = .returned (.bool v) ∧ Below w.heap.size w w') ∧ (∀ w, Calls Tryd.prog 9 #[ag o0 o1 o2 o3, .int .u8 k] w fun e w' => e = .returned (.bool (!v)) ∧ Below w.heap.size w w') := ⟨inM m k, fun w => has4 EM.out HM.out k h1 w, fun w => by
              have := has4 EO.out HO.out k h1 w
              rwa [inM_others m HM.out k h1] at this⟩
            have E2 : Hid (∀ w', Lie (w.heap.size + 1) (w.heap.size + 1 + 1) w6.heap.size w8.heap.size (ag4 x0 x1 x2 x3) (ag4 o0 o1 o2 o3) (ag4 p0 p1 p2 p3) (ag4 x0 x1 x2 x3) w w' → w'.cell? ⟨w.heap.size + 1, 0, none⟩ = some (.int .u64 (x0 : Int)) ∧ w'.cell? ⟨w.heap.size + 1, 1, none⟩ = some (.int .u64 (x1 : Int)) ∧ w'.cell? ⟨w.heap.size + 1, 2, none⟩ = some (.int .u64 (x2 : Int)) ∧ w'.cell? ⟨w.heap.size + 1, 3, none⟩ = some (.int .u64 (x3 : Int)) ∧ w'.cell? ⟨w.heap.size + 1 + 1, 0, none⟩ = some (.int .u64 (o0 : Int)) ∧ w'.cell? ⟨w.heap.size + 1 + 1, 1, none⟩ = some (.int .u64 (o1 : Int)) ∧ w'.cell? ⟨w.heap.size + 1 + 1, 2, none⟩ = some (.int .u64 (o2 : Int)) ∧ w'.cell? ⟨w.heap.size + 1 + 1, 3, none⟩ = some (.int .u64 (o3 : Int))) := fun w' l => by
              obtain ⟨c0, c1, c2, c3⟩ := l.m.cells4
              obtain ⟨d0, d1, d2, d3⟩ := l.o.cells4
              exact ⟨c0, c1, c2, c3, d0, d1, d2, d3⟩
            have S0 := E2.out _ RL.out
            have hbv : (v == !v) = false := by cases v <;> rfl
            go_wp2
            go_region_held3 (fun w' => w'.cell? ⟨w.heap.size + 1, 0, none⟩ = some (.int .u64 (x0 : Int)) ∧ w'.cell? ⟨w.heap.size + 1, 1, none⟩ = some (.int .u64 (x1 : Int)) ∧ w'.cell? ⟨w.heap.size + 1, 2, none⟩ = some (.int .u64 (x2 : Int)) ∧ w'.cell? ⟨w.heap.size + 1, 3, none⟩ = some (.int .u64 (x3 : Int)) ∧ w'.cell? ⟨w.heap.size + 1 + 1, 0, none⟩ = some (.int .u64 (o0 : Int)) ∧ w'.cell? ⟨w.heap.size + 1 + 1, 1, none⟩ = some (.int .u64 (o1 : Int)) ∧ w'.cell? ⟨w.heap.size + 1 + 1, 2, none⟩ = some (.int .u64 (o2 : Int)) ∧ w'.cell? ⟨w.heap.size + 1 + 1, 3, none⟩ = some (.int .u64 (o3 : Int))) (first | exact S7 | exact S6 | exact S0)
              (first
              | (go_at_call_of 9 x0; refine (CH1 _).mono ?_; rintro e w20 ⟨rfl, f20⟩; have L20 := hide (RL.out.drew.below f20); have S6 := E2.out _ L20.out; clear f20)
              | (go_at_call_of 9 o0; refine (CH2 _).mono ?_; rintro e w21 ⟨rfl, f21⟩; have L21 := hide (L20.out.below f21); have S7 := E2.out _ L21.out; clear f21))
            go_wp2
            go_roundw
            case measure => simp only [intOf]; omega
            case rel => exact ⟨k + 1, by go_num, by omega, L21.out⟩
          · obtain rfl : k = 256 := by omega
            have E4 : Hid (∀ w', Lie (w.heap.size + 1) (w.heap.size + 1 + 1) w6.heap.size w8.heap.size (ag4 x0 x1 x2 x3) (ag4 o0 o1 o2 o3) (ag4 p0 p1 p2 p3) (ag4 x0 x1 x2 x3) w w' → w'.cell? ⟨w.heap.size + 1, 0, none⟩ = some (.int .u64 (x0 : Int)) ∧ w'.cell? ⟨w.heap.size + 1, 1, none⟩ = some (.int .u64 (x1 : Int)) ∧ w'.cell? ⟨w.heap.size + 1, 2, none⟩ = some (.int .u64 (x2 : Int)) ∧ w'.cell? ⟨w.heap.size + 1, 3, none⟩ = some (.int .u64 (x3 : Int)) ∧ w'.cell? ⟨w.heap.size + 1 + 1, 0, none⟩ = some (.int .u64 (o0 : Int)) ∧ w'.cell? ⟨w.heap.size + 1 + 1, 1, none⟩ = some (.int .u64 (o1 : Int)) ∧ w'.cell? ⟨w.heap.size + 1 + 1, 2, none⟩ = some (.int .u64 (o2 : Int)) ∧ w'.cell? ⟨w.heap.size + 1 + 1, 3, none⟩ = some (.int .u64 (o3 : Int)) ∧ w'.cell? ⟨w6.heap.size, 0, none⟩ = some (.int .u64 (p0 : Int)) ∧ w'.cell? ⟨w6.heap.size, 1, none⟩ = some (.int .u64 (p1 : Int)) ∧ w'.cell? ⟨w6.heap.size, 2, none⟩ = some (.int .u64 (p2 : Int)) ∧ w'.cell? ⟨w6.heap.size, 3, none⟩ = some (.int .u64 (p3 : Int)) ∧ w'.cell? ⟨w8.heap.size, 0, none⟩ = some (.int .u64 (x0 : Int)) ∧ w'.cell? ⟨w8.heap.size, 1, none⟩ = some (.int .u64 (x1 : Int)) ∧ w'.cell? ⟨w8.heap.size, 2, none⟩ = some (.int .u64 (x2 : Int)) ∧ w'.cell? ⟨w8.heap.size, 3, none⟩ = some (.int .u64 (x3 : Int))) := fun w' l => by
              obtain ⟨c0, c1, c2, c3⟩ := l.m.cells4
              obtain ⟨d0, d1, d2, d3⟩ := l.o.cells4
              obtain ⟨e0, e1, e2, e3⟩ := l.t.cells4
              obtain ⟨g0, g1, g2, g3⟩ := l.k.cells4
              exact ⟨c0, c1, c2, c3, d0, d1, d2, d3, e0, e1, e2, e3, g0, g1, g2, g3⟩
            have S0 := E4.out _ RL.out
            have CC1 := fun w => count4 EM.out HM.out w
            have CC2 := fun w => count4 EO.out HO.out w
            have CR1 := fun w => rank4 EM.out HM.out (b : Int) (by omega) w
            have CR2 := fun w => rank4 EO.out HO.out (b : Int) (by omega) w
            have CA1 := fun w hT hw => all4 EM.out HM.out w hT hw
            have CA2 := fun w hT hw => all4 EO.out HO.out w hT hw
            have hs := cnt_others m HM.out
            rw [cnt_len m HM.out, cnt_len _ HO.out] at hs
            have hr := rank_others m HM.out b (by omega)
            have HB1 := hide (elems_bytes m)
            have HB2 := hide (elems_bytes (others m))
            generalize elems m = E1 at *
            generalize elems (others m) = F1 at *
            generalize cnt (bl m (max (b : Int) 0)) = r1 at *
            generalize cnt (bl (others m) (max (b : Int) 0)) = r2 at *
            have hw1 : IntKind.i64.wrap ((E1.length : Int) + (F1.length : Int)) = 256 := by rw [IntKind.wrap_i64]; omega
            have hw2 : IntKind.i64.wrap ((r1 : Int) + (r2 : Int)) = (b : Int) := by rw [IntKind.wrap_i64]; omega
            have qb : ∀ w, (Op.equalIn 10000 24 (ag x0 x1 x2 x3) (ag x0 x1 x2 x3)).run Tryd.prog w = .ok true w := fun w => by
              have := eq4_run x0 x1 x2 x3 x0 x1 x2 x3 w
              simpa using this
            have qt : ∀ w, (Op.equalIn 10000 24 (ag p0 p1 p2 p3) (ag x0 x1 x2 x3)).run Tryd.prog w = .ok false w := fun w => by
              have := eqm_run [p0, p1, p2, p3] [x0, x1, x2, x3] rfl rfl w
              rwa [decide_eq_false HNE.out] at this
            have LR := hide RL.out.drew
            clear hs hr
            go_wp2
            go_region_held3 (fun w' => w'.cell? ⟨w.heap.size + 1, 0, none⟩ = some (.int .u64 (x0 : Int)) ∧ w'.cell? ⟨w.heap.size + 1, 1, none⟩ = some (.int .u64 (x1 : Int)) ∧ w'.cell? ⟨w.heap.size + 1, 2, none⟩ = some (.int .u64 (x2 : Int)) ∧ w'.cell? ⟨w.heap.size + 1, 3, none⟩ = some (.int .u64 (x3 : Int)) ∧ w'.cell? ⟨w.heap.size + 1 + 1, 0, none⟩ = some (.int .u64 (o0 : Int)) ∧ w'.cell? ⟨w.heap.size + 1 + 1, 1, none⟩ = some (.int .u64 (o1 : Int)) ∧ w'.cell? ⟨w.heap.size + 1 + 1, 2, none⟩ = some (.int .u64 (o2 : Int)) ∧ w'.cell? ⟨w.heap.size + 1 + 1, 3, none⟩ = some (.int .u64 (o3 : Int)) ∧ w'.cell? ⟨w6.heap.size, 0, none⟩ = some (.int .u64 (p0 : Int)) ∧ w'.cell? ⟨w6.heap.size, 1, none⟩ = some (.int .u64 (p1 : Int)) ∧ w'.cell? ⟨w6.heap.size, 2, none⟩ = some (.int .u64 (p2 : Int)) ∧ w'.cell? ⟨w6.heap.size, 3, none⟩ = some (.int .u64 (p3 : Int)) ∧ w'.cell? ⟨w8.heap.size, 0, none⟩ = some (.int .u64 (x0 : Int)) ∧ w'.cell? ⟨w8.heap.size, 1, none⟩ = some (.int .u64 (x1 : Int)) ∧ w'.cell? ⟨w8.heap.size, 2, none⟩ = some (.int .u64 (x2 : Int)) ∧ w'.cell? ⟨w8.heap.size, 3, none⟩ = some (.int .u64 (x3 : Int))) (first | exact S36 | exact S35 | exact S34 | exact S33 | exact S32 | exact S31 | exact S30 | exact S0)
              (first
              | (go_at_call_of 21 x0; refine (CC1 _).mono ?_; rintro e w30 ⟨rfl, f30⟩; have L30 := hide (LR.out.below f30); have S30 := E4.out _ L30.out; clear f30)
              | (go_at_call_of 21 o0; refine (CC2 _).mono ?_; rintro e w31 ⟨rfl, f31⟩; have L31 := hide (L30.out.below f31); have S31 := E4.out _ L31.out; clear f31)
              | (go_at_call_of 17 x0; refine (CR1 _).mono ?_; rintro e w32 ⟨rfl, f32⟩; have L32 := hide (L31.out.below f32); have S32 := E4.out _ L32.out; clear f32)
              | (go_at_call_of 17 o0; refine (CR2 _).mono ?_; rintro e w33 ⟨rfl, f33⟩; have L33 := hide (L32.out.below f33); have S33 := E4.out _ L33.out; clear f33)
              | (go_at_call_of 8 x0; refine (CA1 _ (HT.out.below L33.out.f hw) (Nat.lt_of_lt_of_le hw L33.out.f.size)).mono ?_; rintro e w34 ⟨v34, rfl, o34, f34⟩; obtain ⟨a34, k34, rfl, r34⟩ := owns_ints o34 HB1.out; have L34 := hide (L33.out.below f34); have S34 := E4.out _ L34.out; clear o34 r34; clear f34)
              | (go_at_call_of 8 o0; refine (CA2 _ (HT.out.below L34.out.f hw) (Nat.lt_of_lt_of_le hw L34.out.f.size)).mono ?_; rintro e w35 ⟨v35, rfl, o35, f35⟩; obtain ⟨a35, k35, rfl, r35⟩ := owns_ints o35 HB2.out; have L35 := hide (L34.out.below f35); have S35 := E4.out _ L35.out; clear o35 r35; clear f35)
              | (go_at_call 23; refine (awake_any _ (HT.out.below L35.out.f hw) (Nat.lt_of_lt_of_le hw L35.out.f.size)).mono ?_; rintro e w36 ⟨rfl, f36⟩; have L36 := hide (L35.out.below f36); have S36 := E4.out _ L36.out; clear f36))
            go_wp2
            go_ret
            exact ⟨rfl, L36.out.f⟩

end Go.Proofs.YtklakdhghmhapaaDoor
