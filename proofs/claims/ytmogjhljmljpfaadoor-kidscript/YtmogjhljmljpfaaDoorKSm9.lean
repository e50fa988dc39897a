/- The law's same: a node and the document's, at a byte. -/
import Derived.Test.YtmogjhljmljpfaaDoorRp9
namespace Go.Proofs.YtmogjhljmljpfaaDoor
open Go.RowKit Go.Sort
set_option linter.unusedVariables false
set_option linter.unusedSimpArgs false
set_option maxRecDepth 100000

section
variable {A B : Shape} {g r s : Nat} {f : Nat → Nat} {K : Nat → Prop} {w : World}
theorem b_kd (h : Both (Kd g s f) B K w) : ∃ K1, Kd g s f K1 w := let ⟨K1, _, a, _⟩ := h.left; ⟨K1, a⟩
theorem b_rs (h : Both A (Rs r s f) K w) : ∃ K1, Rs r s f K1 w := let ⟨K1, _, a, _⟩ := h.right; ⟨K1, a⟩
/-- Where a number lies as a byte. -/
theorem u8_nat (n : Int) : ∃ b : Nat, b < 256 ∧ IntKind.u8.wrap n = (b : Int) := ⟨(n % 256).toNat, by omega, by rw [IntKind.wrap_u8]; omega⟩

/-- Both nodes, and the bytes that were answered. -/
structure SmS (g r s : Nat) (f : Nat → Nat) (K : Nat → Prop) (w0 : World) (base : Nat) (a : Option Addr) (c : Nat) (w : World) : Prop where
  m : Both (Kd g s f) (Rs r s f) K w
  bl : Below w0.heap.size w0 w
  o : w.ownsRow base 5 1 (.slice a (bsOf f).length c) (bsOf f).length (u8s (ints (bsOf f)))
  h : w0.heap.size ≤ base
  hb : base ≤ w.heap.size
abbrev SmC (r s b : Nat) (f : Nat → Nat) (w : World) : Prop := w.cell? ⟨r, 256, none⟩ = some (.int .i64 (6 + (s : Int))) ∧ w.cell? ⟨r, b, none⟩ = some (.int .u32 (f b : Int))
theorem bs_bytes (f : Nat → Nat) : ∀ x ∈ bsOf f, x < 256 := fun x hx => List.mem_range.1 (List.mem_filter.1 hx).1
section
variable {w0 w' : World} {base c : Nat} {a : Option Addr}
theorem SmS.below (h : SmS g r s f K w0 base a c w) (b : Below w.heap.size w w') : SmS g r s f K w0 base a c w' :=
  ⟨(Both.lies _ _).below h.m b, h.bl.trans (b.mono h.bl.size), owns_same h.o (fun k hk => b.block k (h.o.lt k hk).2), h.h, Nat.le_trans h.hb b.size⟩
theorem SmS.still (h : SmS g r s f K w0 base a c w) (b : Still w w') : SmS g r s f K w0 base a c w' := by
  obtain ⟨d, rfl⟩ := b
  exact h.below ⟨rfl, rfl, rfl, Nat.le_refl _, fun _ _ => rfl⟩
theorem SmS.cells (h : SmS g r s f K w0 base a c w) (b : Nat) (hb : b < 256) : SmC r s b f w := by
  obtain ⟨KB, b1⟩ := b_rs h.m
  exact ⟨b1.kind, b1.cell b hb⟩
theorem SmS.kind (h : SmS g r s f K w0 base a c w) : Calls Tryd.prog 16 #[.pointer (some ⟨g, 0, none⟩)] w fun e w' => e = .returned (.int .i64 (6 + (s : Int))) ∧ SmS g r s f K w0 base a c w' := by
  obtain ⟨KA, a0⟩ := b_kd h.m
  exact (kind_any a0).mono fun e w' ⟨h1, h2⟩ => ⟨h1, h.still h2⟩
theorem SmS.len (h : SmS g r s f K w0 base a c w) : Calls Tryd.prog 17 #[.pointer (some ⟨g, 0, none⟩)] w fun e w' => e = .returned (.int .i64 (cntF f : Int)) ∧ SmS g r s f K w0 base a c w' := by
  obtain ⟨KA, a0⟩ := b_kd h.m
  exact (len_any a0).mono fun e w' ⟨h1, h2⟩ => ⟨h1, by rw [h2]; exact h⟩
theorem SmS.rlen (h : SmS g r s f K w0 base a c w) : Calls Tryd.prog 27 #[.pointer (some ⟨r, 0, none⟩)] w fun e w' => e = .returned (.int .i64 (cntF f : Int)) ∧ SmS g r s f K w0 base a c w' := by
  obtain ⟨KA, a0⟩ := b_rs h.m
  exact (rlen_any a0).mono fun e w' ⟨h1, h2⟩ => ⟨h1, by rw [h2]; exact h⟩
theorem SmS.rbytes (h : SmS g r s f K w0 base a c w) : Calls Tryd.prog 34 #[.pointer (some ⟨r, 0, none⟩)] w fun e w' => ∃ a8 c8, e = .returned (.slice a8 (bsOf f).length c8) ∧ Rd w' a8 (ints (bsOf f)) ∧ SmS g r s f K w0 base a c w' := by
  obtain ⟨KA, a0⟩ := b_rs h.m
  refine (rbytes9 a0).mono ?_
  rintro e w' ⟨v, rfl, o, f1⟩
  obtain ⟨a8, c8, rfl, r8⟩ := owns_ints o (bs_bytes f)
  exact ⟨a8, c8, rfl, r8, h.below f1⟩
theorem SmS.same (h : SmS g r s f K w0 base a c w) (a8 : Option Addr) (c8 : Nat) (h8 : Rd w a8 (ints (bsOf f))) : Calls Tryd.prog 22 #[.slice a (bsOf f).length c, .slice a8 (bsOf f).length c8] w fun e w' => e = .returned (.bool true) ∧ SmS g r s f K w0 base a c w' := by
  obtain ⟨a', c', e, r'⟩ := owns_ints h.o (bs_bytes f)
  simp only [Value.slice.injEq] at e
  obtain ⟨rfl, -, rfl⟩ := e
  exact (same4 a a8 (bsOf f) c c8 w r' h8).mono fun e w' ⟨h1, h2⟩ => ⟨h1, h.below h2⟩
theorem SmS.get (h : SmS g r s f K w0 base a c w) (b : Nat) (hb : b < 256) : Calls Tryd.prog 20 #[.pointer (some ⟨g, 0, none⟩), .int .u8 (b : Int)] w fun e w' => e = .returned (.int .u32 (f b : Int)) ∧ SmS g r s f K w0 base a c w' := by
  obtain ⟨KA, a0⟩ := b_kd h.m
  exact (get_any a0 b hb).mono fun e w' ⟨h1, h2⟩ => ⟨h1, h.below h2⟩
theorem SmS.over (h : SmS g r s f K w0 base a c w) : Calls Tryd.prog 35 #[.slice a (bsOf f).length c] w fun e w' => e = .returned (.tuple #[]) ∧ w.grownBy w' (Value.slice a (bsOf f).length c).ownBlock := by
  refine over_any _ _ base _ w h.o (fun u hu => ?_) ?_ ?_
  · simp only [u8s, List.mem_map] at hu
    obtain ⟨q, _, rfl⟩ := hu
    exact ⟨q, rfl⟩
  · rw [bs_len]; have := cntF_le f; omega
  · exact h.hb
end

set_option maxHeartbeats 3200000 in
theorem ksame_any (h : Both (Kd g s f) (Rs r s f) K w) (T : Tb w) (n : Int) (hn : -9223372036854775808 ≤ n ∧ n ≤ 9223372036854775807) (hK0 : K 0) (hK1 : K 1) :
    Calls Tryd.prog 14 #[.pointer (some ⟨g, 0, none⟩), .pointer (some ⟨r, 0, none⟩), .int .i64 n] w fun e w' => e = .returned (.bool true) ∧ Both (Kd g s f) (Rs r s f) K w' ∧ Below w.heap.size w w' := by
  have L := Both.lies (Kd g s f) (Rs r s f)
  have HL := hide L
  have M0 := hide h
  have HT := hide T
  have H2 := hide T.two
  clear h L T
  obtain ⟨b, hb, ewb⟩ := u8_nat n
  obtain ⟨nx, hnx⟩ : ∃ nx, nx = nxtF f n := ⟨_, rfl⟩
  obtain ⟨ax, hax⟩ : ∃ ax, ax = atF f nx := ⟨_, rfl⟩
  obtain ⟨pv, hpv⟩ : ∃ pv, pv = prvF f n := ⟨_, rfl⟩
  obtain ⟨av, hav⟩ : ∃ av, av = atF f pv := ⟨_, rfl⟩
  have HNX := hide hnx
  have HAX := hide hax
  have HPV := hide hpv
  have HAV := hide hav
  clear hnx hax hpv hav
  obtain ⟨KA, a0⟩ := b_kd M0.out
  have P := knext_any a0 HT.out n hn
  rw [← HNX.out, ← HAX.out] at P
  have HP := hide P
  clear a0 KA P
  go_enter Tryd.func14, Tryd.ntmps14
  go_wp2_with fail
  refine HP.out.mono ?_
  rintro e w1 ⟨rfl, f1⟩
  have M1 := hide (HL.out.below M0.out f1)
  have F1 := hide f1
  clear f1 HP
  obtain ⟨KB, b1⟩ := b_rs M1.out
  have P := rnext9 b1 n hn
  rw [← HNX.out, ← HAX.out] at P
  have HP := hide P
  clear b1 KB P
  go_wp2_with fail
  refine HP.out.mono ?_
  rintro e w2 ⟨rfl, st⟩
  have M2 := hide (HL.out.still M1.out st)
  have F2 : Hid (Below w.heap.size w w2) := by obtain ⟨d, rfl⟩ := st; exact F1.out.trans ⟨rfl, rfl, rfl, Nat.le_refl _, fun _ _ => rfl⟩
  clear st HP M1
  obtain ⟨KA, a0⟩ := b_kd M2.out
  have P := kprev_any a0 n hn
  rw [← HPV.out, ← HAV.out] at P
  have HP := hide P
  clear a0 KA P
  go_wp2_with fail
  refine HP.out.mono ?_
  rintro e w3 ⟨rfl, f3⟩
  have M3 := hide (HL.out.below M2.out f3)
  have F3 := hide (F2.out.trans (f3.mono F2.out.size))
  clear f3 HP M2
  obtain ⟨KB, b1⟩ := b_rs M3.out
  have P := rprev9 b1 n hn
  rw [← HPV.out, ← HAV.out] at P
  have HP := hide P
  clear b1 KB P
  go_wp2_with fail
  refine HP.out.mono ?_
  rintro e w4 ⟨rfl, st⟩
  have M4 := hide (HL.out.still M3.out st)
  have F4 : Hid (Below w.heap.size w w4) := by obtain ⟨d, rfl⟩ := st; exact F3.out.trans ⟨rfl, rfl, rfl, Nat.le_refl _, fun _ _ => rfl⟩
  clear st HP M3 HNX HAX HPV HAV
  obtain ⟨KA, a0⟩ := b_kd M4.out
  have P := hide (kbytes_any a0 (HT.out.below F4.out H2.out))
  clear a0 KA
  go_wp2_with fail
  refine P.out.mono ?_
  rintro e w5 ⟨v5, rfl, o5, f5⟩
  obtain ⟨a5, c5, rfl⟩ := owns_slice' o5
  have HR : Hid (∀ k, (Value.slice a5 (bsOf f).length c5).ownBlock = some k → K k ∨ w4.heap.size ≤ k ∧ k < w5.heap.size) := fun k hk => .inr (o5.lt k hk)
  have S5 : Hid (SmS g r s f (fun k => K k ∨ w4.heap.size ≤ k ∧ k < w5.heap.size) w w4.heap.size a5 c5 w5) := ⟨HL.out.more M4.out f5, F4.out.trans (f5.mono F4.out.size), o5, F4.out.size, f5.size⟩
  clear o5 f5 M4 P F1 F2 F3
  go_wp2_with fail
  have S5d := hide (S5.out.still (w' := w5.drew) ⟨1, rfl⟩)
  have e5 := S5d.out.cells b hb
  have hbi : (b : Int) < 256 := by omega
  go_region_held3 (fun w' => w'.cell? ⟨r, 256, none⟩ = some (.int .i64 (6 + (s : Int))) ∧ w'.cell? ⟨r, b, none⟩ = some (.int .u32 (f b : Int))) (first | exact e10 | exact e9 | exact e8 | exact e7 | exact e6 | exact e6b | exact e5)
    (first
    | (go_at_call 16; refine S5d.out.kind.mono ?_; rintro e w6 ⟨rfl, s6⟩; have e6 := s6.cells b hb; have S6 := hide s6; clear s6)
    | (go_at_call 17; refine S6.out.len.mono ?_; rintro e w7 ⟨rfl, s6⟩; have e6b := s6.cells b hb; have S7 := hide s6; clear s6)
    | (go_at_call 27; refine S7.out.rlen.mono ?_; rintro e w8 ⟨rfl, s6⟩; have e7 := s6.cells b hb; have S8 := hide s6; clear s6)
    | (go_at_call 34; refine S8.out.rbytes.mono ?_; rintro e w9 ⟨a8, c8, rfl, r8, s6⟩; have e8 := s6.cells b hb; have S9 := hide s6; have R8 := hide r8; clear s6 r8)
    | (go_at_call 22; refine (S9.out.same a8 c8 R8.out).mono ?_; rintro e w10 ⟨rfl, s6⟩; have e9 := s6.cells b hb; have S10 := hide s6; clear s6)
    | (go_at_call 20; refine (S10.out.get b hb).mono ?_; rintro e w11 ⟨rfl, s6⟩; have e10 := s6.cells b hb; have S11 := hide s6; clear s6))
  all_goals (
    have HO := hide S11.out.over
    go_wp2_with (go_at_call 35; refine HO.out.mono ?_; rintro e w12 ⟨rfl, g12⟩; have G12 := hide g12; clear g12)
    go_ret
    refine ⟨rfl, (HL.out).weaken ((Both.lies _ _).grown S11.out.m G12.out HR.out) (fun k hk => .inl hk), ?_⟩
    have G := G12.out
    have B := S11.out.bl
    exact B.grown G B.size (fun k hk => Nat.le_trans S11.out.h (S11.out.o.lt k hk).1))
end
end Go.Proofs.YtmogjhljmljpfaaDoor
