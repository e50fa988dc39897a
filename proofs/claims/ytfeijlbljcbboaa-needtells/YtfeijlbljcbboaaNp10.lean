/- NeedParts. -/
import Derived.Test.YtfeijlbljcbboaaNs10
import Derived.Deep.RegionLaw
import Derived.Deep.DeepCutAuto
import Derived.Lib.QuietBelow
namespace Go.Proofs.Ytfeijlbljcbboaa
set_option maxRecDepth 20000
open Go.RowKit Go.Sort
set_option linter.unusedVariables false
set_option linter.unusedSimpArgs false

theorem step_append_run {P : Program} {w : World} {ops : Array Oper} {o : Oper} {a : Act} {K : Act → World → Prop} {Q : Exit → Act → World → Prop} {E : Prop} (hgd : Region.wanted o (yielded ops a.tmps) = true) (s x : Operand) (t tx : TypeId)
    (ho : o.op = .call { callee := .builtin .append, args := #[s, x], argTypes := #[t, tx] }) (v x' v' : Value) (w' : World) (hs : a.eval s = v) (hx : a.eval x = x')
    (hr : (Builtin.append_ #[t, tx] o.type #[v, x']).run P w = .ok v' w') (h : K (a.put o.dst v') w') : if Region.wanted o (yielded ops a.tmps) = true then Oper.wp P o a w K Q else E := by
  rw [if_pos hgd]
  unfold Oper.wp execOp
  simp only [ho, resolve, invoke, builtin, Sem.run_bind, Sem.run_pure, Result.andThen_ok, List.map_toArray, List.map_cons, List.map_nil, hs, hx, hr]
  exact h
/-- How a slice lies: without room, or at a plain place. -/
def Sl (a : Option Addr) (len cap : Nat) : Prop := (len = 0 ∧ cap = 0) ∨ ∃ b off, a = some ⟨b, off, none⟩ ∧ len ≤ cap
theorem sumF_parts (tag : Int) (xs : List Int) (k : Nat) : sumF tag (xs.take k) + sumF tag (xs.drop k) = sumF tag xs := by
  rw [← sumF_append, List.take_append_drop]
theorem sumF_turned (tag : Int) (xs : List Int) (k : Nat) : sumF tag (xs.drop k ++ xs.take k) = sumF tag xs := by
  rw [sumF_append, Nat.add_comm, sumF_parts]
/-- append of several. -/
theorem append_all (w : World) (B : Nat) (v : Value) (xs ys : List Int) (a : Option Addr) (c : Nat) (ow : w.ownsRow B 3 1 v xs.length (i64s xs)) (hl : xs.length ≤ 1048576) (hb : ∀ z ∈ xs, -9223372036854775808 ≤ z ∧ z ≤ 9223372036854775807) (h : Rn w a ys) (hy : ys.length ≤ 1000000) (hB : B ≤ w.heap.size) :
    ∃ a' cap w', (Builtin.append_ #[22, 22] 22 #[v, .slice a ys.length c]).run Try.prog w = .ok (.slice a' (xs.length + ys.length) cap) w' ∧
      Rn w' a' (xs ++ ys) ∧ Below B w w' := by
  obtain ⟨i, i1, i2, i3, i4⟩ := info_i64
  obtain ⟨v', w', r, o, gr, hv, _⟩ := run_append_src (P := Try.prog) (w := w) B 22 22 22 3 i _ 1 8 Try.underlying22 i1 i2 i3 i4 rfl (by omega) v _ _ ow _ _ _ (h.src Try.underlying22 (by unfold maxLen; omega) c) (by unfold maxLen; omega) (by omega) hB
  have o' : w'.ownsRow B 3 1 v' (xs.length + ys.length) (i64s (xs ++ ys)) := by simpa [i64s] using o
  obtain ⟨a', cap, rfl, h, _⟩ := owns_rn o' (by
    intro z hz
    rcases List.mem_append.1 hz with hh | hh
    · exact hb z hh
    · exact h.1 z hh)
  refine ⟨a', cap, w', by simpa using r, h, ?_⟩
  exact ((Kp.refl (fun k => k < B) w).grown gr (fun k hk hB => by have := (ow.lt k hk).1; omega)).below hB (fun _ hk => hk)

set_option maxHeartbeats 3200000 in
theorem parts_any (tag : Int) (a : Option Addr) (xs : List Int) (c : Nat) (cut : Int) (w : World) (h : Rn w a xs) (hs : Sl a xs.length c) (hl : -9223372036854775808 ≤ cut ∧ cut ≤ 9223372036854775807) :
    Calls Try.prog 4 #[.int .i64 tag, .slice a xs.length c, .int .i64 cut] w fun e w' => e = .returned (.bool true) ∧ Below w.heap.size w w' := by
  have HA := hide h
  have HS := hide hs
  clear h hs
  by_cases hla : 30 < xs.length
  · have hlai : (30 : Int) < (xs.length : Int) := by omega
    go_enter Try.func4, Try.ntmps4
    go_wp2_with (go_at_call 5; refine (awake_any _).mono ?_; rintro e w' ⟨rfl, hw⟩)
    go_ret
    exact ⟨rfl, hw⟩
  have hla' : ¬ (30 < (xs.length : Int)) := by omega
  have hlr := lowK_range cut ((xs.length + 1 : Nat) : Int) (by omega)
  have L := low_any cut ((xs.length + 1 : Nat) : Int) hl.1 hl.2 (by omega) (by omega)
  obtain ⟨k, hk⟩ : ∃ k : Nat, lowK cut ((xs.length + 1 : Nat) : Int) = (k : Int) := ⟨_, (Int.toNat_of_nonneg hlr.1).symm⟩
  rw [hk] at hlr L
  have hkl : k ≤ xs.length := by omega
  rw [Int.natCast_succ] at L
  have HL := hide L
  clear L hlr hk hl
  have TAIL : Hid (∀ (a1 a2 : Option Addr) (c1 c2 : Nat), Rn w a1 (xs.drop k) → Rn w a2 (xs.take k) → ∃ a3 c3 w1 va w2, (Builtin.append_ #[22, 22] 22 #[.slice none 0 0, .slice a1 (xs.length - k) c1]).run Try.prog w.drew = .ok va w1 ∧
      (Builtin.append_ #[22, 22] 22 #[va, .slice a2 k c2]).run Try.prog w1 = .ok (.slice a3 xs.length c3) w2 ∧ Below w.heap.size w w2 ∧ Rn w2 a3 (xs.drop k ++ xs.take k) ∧ Rn w2 a1 (xs.drop k) ∧ Rn w2 a2 (xs.take k)) := by
    intro a1 a2 c1 c2 h1 h2
    have e1 : (xs.drop k).length = xs.length - k := by simp
    have e2 : (xs.take k).length = k := by simp; omega
    obtain ⟨va, w1, r1, o1, f1⟩ := append_nil w.drew a1 _ c1 h1.drew (by omega)
    obtain ⟨a3, c3, w2, r2, o2, f2⟩ := append_all w1 w.heap.size va _ (xs.take k) a2 c2 o1 (by omega) h1.1 (h2.drew.below f1 (Nat.le_refl _)) (by omega) f1.size
    rw [e1] at r1
    rw [e1, e2, show xs.length - k + k = xs.length by omega] at r2
    have f' := f1.trans f2
    have f : Below w.heap.size w w2 := ⟨f'.os, f'.tape, f'.output, f'.size, f'.block⟩
    exact ⟨a3, c3, w1, va, w2, r1, r2, f, o2, h1.below f (Nat.le_refl _), h2.below f (Nat.le_refl _)⟩
  have CASES : ∃ (a1 : Option Addr) (c1 : Nat), Rn w a1 (xs.drop k) ∧ ((a1 = a ∧ c1 = 0 ∧ c = 0 ∧ xs.length = 0 ∧ k = 0) ∨ ∃ b off, a = some ⟨b, off, none⟩ ∧ xs.length ≤ c ∧ ((k = c ∧ a1 = some ⟨b, off, none⟩ ∧ c1 = 0) ∨ (k < c ∧ a1 = some ⟨b, off + k, none⟩ ∧ c1 = c - k))) := by
    rcases HS.out with ⟨h0, h1⟩ | ⟨b, off, h0, h1⟩
    · have := List.eq_nil_of_length_eq_zero h0
      exact ⟨a, 0, by rw [this]; exact ⟨by simp, .inl (by simp)⟩, .inl ⟨rfl, rfl, h1, h0, by omega⟩⟩
    · by_cases hc : k = c
      · have : xs.drop k = [] := by simp; omega
        exact ⟨some ⟨b, off, none⟩, 0, by rw [this]; exact ⟨by simp, .inl rfl⟩, .inr ⟨b, off, h0, h1, .inl ⟨hc, rfl, rfl⟩⟩⟩
      · have := HA.out
        rw [h0] at this
        exact ⟨some ⟨b, off + k, none⟩, c - k, this.drop k, .inr ⟨b, off, h0, h1, .inr ⟨by omega, rfl, rfl⟩⟩⟩
  obtain ⟨a1, c1, hr1, hcase⟩ := CASES
  obtain ⟨a3, c3, w1, va, w2, r1, r2, f2, h3, h1, h2⟩ := TAIL.out a1 a c1 c hr1 (HA.out.take k)
  have R1 := hide r1
  have R2 := hide r2
  have F2 := hide f2
  have H1 := hide h1
  have H2 := hide h2
  have H3 := hide h3
  have e1 : (xs.drop k).length = xs.length - k := by simp
  have e2 : (xs.take k).length = k := by simp; omega
  have e3 : (xs.drop k ++ xs.take k).length = xs.length := by simp; omega
  have C1 : Hid (∀ W, Below w2.heap.size w2 W → Calls Try.prog 9 #[.int .i64 tag, .slice a xs.length c] W fun e w' => e = .returned (.int .i64 (sumF tag xs)) ∧ w' = W) := fun W hW => build_same tag a xs c W ((HA.out.below f2 (Nat.le_refl _)).below hW (Nat.le_refl _)) (by omega)
  have C2 : Hid (∀ W, Below w2.heap.size w2 W → Calls Try.prog 9 #[.int .i64 tag, .slice a k c] W fun e w' => e = .returned (.int .i64 (sumF tag (xs.take k))) ∧ w' = W) := fun W hW => by
    have := build_same tag a (xs.take k) c W (h2.below hW (Nat.le_refl _)) (by omega)
    rwa [e2] at this
  have C3 : Hid (∀ W, Below w2.heap.size w2 W → Calls Try.prog 9 #[.int .i64 tag, .slice a1 (xs.length - k) c1] W fun e w' => e = .returned (.int .i64 (sumF tag (xs.drop k))) ∧ w' = W) := fun W hW => by
    have := build_same tag a1 (xs.drop k) c1 W (h1.below hW (Nat.le_refl _)) (by omega)
    rwa [e1] at this
  have C4 : Hid (∀ W, Below w2.heap.size w2 W → Calls Try.prog 9 #[.int .i64 tag, .slice a3 xs.length c3] W fun e w' => e = .returned (.int .i64 (sumF tag xs)) ∧ w' = W) := fun W hW => by
    have := build_same tag a3 _ c3 W (h3.below hW (Nat.le_refl _)) (by omega)
    rwa [e3, sumF_turned] at this
  have A2 : Hid (Rn w2 a xs) := HA.out.below f2 (Nat.le_refl _)
  have hsum := sumF_parts tag xs k
  have hbound : sumF tag xs ≤ 131082 * 30 := by
    have := sumF_le tag xs
    omega
  clear e1 e2 e3 H1 H2 H3 HS HA TAIL hr1 r1 r2 f2 h1 h2 h3
  go_enter Try.func4, Try.ntmps4
  rcases hcase with ⟨rfl, rfl, rfl, hx0, rfl⟩ | ⟨b, off, rfl, hcx, ⟨hkc, rfl, rfl⟩ | ⟨hkc, rfl, rfl⟩⟩
  · obtain rfl : xs = [] := List.eq_nil_of_length_eq_zero hx0
    have HL1 : Hid (∀ w, Calls Try.prog 7 #[.int .i64 cut, .int .i64 1] w fun e w' => e = .returned (.int .i64 0) ∧ w' = w) := HL
    clear HL hx0
    simp only [List.length_nil, Nat.sub_self, List.take_nil, List.drop_nil, sumF] at R1 R2 C1 C2 C3 C4 hsum hbound ⊢
    rcases a1 with _ | ad
    all_goals
      go_wp2_with fail
      refine (HL1.out _).mono ?_
      rintro e w5 ⟨rfl, rfl⟩
      have r1 := R1.out
      have r2 := R2.out
      clear R1 R2 hsum hbound
      go_wp2_with fail
      go_region_law (first | (refine step_append_run rfl _ _ _ _ rfl _ _ _ _ rfl rfl r1 ?_; clear r1) | (refine step_append_run rfl _ _ _ _ rfl _ _ _ _ rfl rfl r2 ?_))
      clear r2
      have D1' : Hid (∀ W, Below w2.heap.size w2 W → Calls Try.prog 9 #[.int .i64 tag, .slice _ 0 0] W fun e w' => e = .returned (.int .i64 0) ∧ w' = W) := C1
      have D4' : Hid (∀ W, Below w2.heap.size w2 W → Calls Try.prog 9 #[.int .i64 tag, .slice a3 0 c3] W fun e w' => e = .returned (.int .i64 0) ∧ w' = W) := C4
      clear C1 C2 C3 C4
      go_wp2_with fail
      go_loopw [8, 9] (fun va vi wr => va = .int .i64 0 ∧ vi = .int .i64 0 ∧ wr = w2) (fun _ vi _ => 0)
      case atStart => exact ⟨rfl, rfl, rfl⟩
      case round =>
        obtain ⟨rfl, rfl, rfl⟩ := hrel
        go_wp2_with fail
        refine (D1'.out _ (Below.refl _ _)).mono ?_
        rintro e wr ⟨rfl, rfl⟩
        go_wp2_with fail
        have Q : ∀ (f : FuncId) (args : Array Value) (v : Value), (∀ W, Below wr.heap.size wr W → Calls Try.prog f args W fun e w' => e = .returned v ∧ w' = W) → ∀ d os, Calls Try.prog f args (grow (redrawn wr d) os) fun e w'' => e = .returned v ∧ ∃ p : Regrown, w'' = grow (redrawn wr p.d) p.os := fun f args v h d os =>
          Calls.regrown_of ((h _ (below_regrown wr d os)).mono fun e w' ⟨he, hw⟩ => ⟨he, hw ▸ Below.refl _ _⟩)
        have D2 := Q _ _ _ D1'.out
        have D4 := Q _ _ _ D4'.out
        have D5 : ∀ d os, Calls Try.prog 5 #[] (grow (redrawn wr d) os) fun e w'' => e = .returned (.bool true) ∧ ∃ p : Regrown, w'' = grow (redrawn wr p.d) p.os := fun d os => Calls.regrown_of (awake_any _)
        clear Q D1' D4'
        refine wp_region_quiet_below (by kernel_rfl) (by kernel_rfl) ?_
        repeat (quiet_step (first | (go_at_call 9; with_reducible exact D2 _ _) | (go_at_call 9; with_reducible exact D4 _ _) | (go_at_call 5; exact D5 _ _)))
        refine wpQuiet_nil ?_
        intro _ hw'
        obtain ⟨⟨dq, osq⟩, hw''⟩ := hw'
        subst hw''
        go_wp2
        go_ret
        exact ⟨rfl, F2.out.trans ((below_regrown wr dq osq).mono F2.out.size)⟩
  · obtain rfl : c = k := hkc.symm
    obtain rfl : c = xs.length := by omega
    simp only [Nat.sub_self] at R1 C3
    have q2 : (xs.length : Int) ≤ (xs.length : Int) := by omega
    go_wp2_with fail
    refine (HL.out _).mono ?_
    rintro e w5 ⟨rfl, rfl⟩
    have r1 := R1.out
    have r2 := R2.out
    have HSU := hide hsum
    have HBO := hide hbound
    clear hsum hbound R1 R2
    go_wp2_with fail
    go_region_law (first | (refine step_append_run rfl _ _ _ _ rfl _ _ _ _ rfl rfl r1 ?_; clear r1) | (refine step_append_run rfl _ _ _ _ rfl _ _ _ _ rfl rfl r2 ?_))
    clear r2
    have hbound := HBO.out
    go_wp2_with fail
    go_loopw [8, 9] (fun va vi wr => ∃ j : Nat, va = .int .i64 (sumF tag (xs.take j)) ∧ vi = .int .i64 j ∧ j ≤ xs.length ∧ wr = w2) (fun _ vi _ => xs.length - (intOf vi).toNat)
    case atStart => exact ⟨0, by simp [sumF], rfl, by omega, rfl⟩
    case round =>
      obtain ⟨j, rfl, rfl, hj, rfl⟩ := hrel
      by_cases h1 : j < xs.length
      · have hpl := putF_le tag (xs.getD j 0)
        have hsu := sumF_take tag xs j h1
        have hle2 : sumF tag (xs.take j) ≤ 131082 * 1000 := by
          have hle := sumF_le tag (xs.take j)
          have : (xs.take j).length ≤ 1000 := by simp; omega
          omega
        have HSJ := hide hsu
        have P := put_any tag (xs.getD j 0)
        obtain ⟨b', off', hax, hc⟩ : ∃ b' off', (some (⟨b, off, none⟩ : Addr)) = some ⟨b', off', none⟩ ∧ ∀ i, i < xs.length → wr.cell? ⟨b', off' + i, none⟩ = some (.int .i64 (xs.getD i 0)) := by
          rcases A2.out.2 with h0 | h0
          · rw [h0] at h1; simp at h1
          · exact h0
        have c0 := hc j h1
        clear hc
        obtain ⟨rfl, rfl⟩ : b = b' ∧ off = off' := by simpa using hax
        clear hsu
        generalize xs.getD j 0 = z at *
        generalize hp : putF tag z = pz at *
        generalize hq : sumF tag (xs.take j) = qz at *
        have HP := hide P
        have H0 := hide hp
        have H1 := hide hq
        clear P hp hq hbound
        go_wp2_with fail
        refine (HP.out _).mono ?_
        rintro e w7 ⟨rfl, rfl⟩
        go_wp2
        go_roundw
        case measure => simp only [intOf]; omega
        case rel => exact ⟨j + 1, by rw [HSJ.out]; congr 1, by go_num, by omega, trivial⟩
      · obtain rfl : j = xs.length := by omega
        have hs2 := HSU.out
        have c1' := C1
        rw [show sumF tag (xs.take xs.length) = sumF tag xs by rw [List.take_length]] at hs2 C2 ⊢
        generalize sumF tag xs = qz at *
        generalize sumF tag (xs.drop xs.length) = qb at *
        have hab : qz + qb = qz := hs2
        have hqb : qb ≤ 131082 * 30 := by omega
        have HAB := hide hab
        clear hs2 hab HSU HBO
        go_wp2_with fail
        refine (C1.out _ (Below.refl _ _)).mono ?_
        rintro e wr ⟨rfl, rfl⟩
        go_wp2_with fail
        have Q : ∀ (f : FuncId) (args : Array Value) (v : Value), (∀ W, Below wr.heap.size wr W → Calls Try.prog f args W fun e w' => e = .returned v ∧ w' = W) → ∀ d os, Calls Try.prog f args (grow (redrawn wr d) os) fun e w'' => e = .returned v ∧ ∃ p : Regrown, w'' = grow (redrawn wr p.d) p.os := fun f args v h d os =>
          Calls.regrown_of ((h _ (below_regrown wr d os)).mono fun e w' ⟨he, hw⟩ => ⟨he, hw ▸ Below.refl _ _⟩)
        have D2 := Q _ _ _ C2.out
        have D3 := Q _ _ _ C3.out
        have D4 := Q _ _ _ C4.out
        have D5 : ∀ d os, Calls Try.prog 5 #[] (grow (redrawn wr d) os) fun e w'' => e = .returned (.bool true) ∧ ∃ p : Regrown, w'' = grow (redrawn wr p.d) p.os := fun d os => Calls.regrown_of (awake_any _)
        have hq1 : IntKind.i64.wrap ((qz : Int) + (qb : Int)) = (qz : Int) := by have := HAB.out; rw [IntKind.wrap_i64]; omega
        clear Q C1 c1' C2 C3 C4
        refine wp_region_quiet_below (by kernel_rfl) (by kernel_rfl) ?_
        repeat (quiet_step (first | (go_at_call 9; with_reducible exact D2 _ _) | (go_at_call 9; with_reducible exact D3 _ _) | (go_at_call 9; with_reducible exact D4 _ _) | (go_at_call 5; exact D5 _ _)))
        refine wpQuiet_nil ?_
        intro _ hw'
        obtain ⟨⟨dq, osq⟩, hw''⟩ := hw'
        subst hw''
        go_wp2
        go_ret
        exact ⟨rfl, F2.out.trans ((below_regrown wr dq osq).mono F2.out.size)⟩
  · have q1 : k ≤ c := by omega
    have q2 : (k : Int) ≤ (xs.length : Int) := by omega
    have q3 : (k : Int) ≤ (c : Int) := by omega
    have q4 : (xs.length : Int) ≤ (c : Int) := by omega
    have q5 : ¬ (c = k) := by omega
    go_wp2_with fail
    refine (HL.out _).mono ?_
    rintro e w5 ⟨rfl, rfl⟩
    have r1 := R1.out
    have r2 := R2.out
    have HSU := hide hsum
    have HBO := hide hbound
    clear hsum hbound R1 R2
    go_wp2_with fail
    go_region_law (first | (refine step_append_run rfl _ _ _ _ rfl _ _ _ _ rfl rfl r1 ?_; clear r1) | (refine step_append_run rfl _ _ _ _ rfl _ _ _ _ rfl rfl r2 ?_))
    clear r2
    have hbound := HBO.out
    go_wp2_with fail
    go_loopw [8, 9] (fun va vi wr => ∃ j : Nat, va = .int .i64 (sumF tag (xs.take j)) ∧ vi = .int .i64 j ∧ j ≤ xs.length ∧ wr = w2) (fun _ vi _ => xs.length - (intOf vi).toNat)
    case atStart => exact ⟨0, by simp [sumF], rfl, by omega, rfl⟩
    case round =>
      obtain ⟨j, rfl, rfl, hj, rfl⟩ := hrel
      by_cases h1 : j < xs.length
      · have hpl := putF_le tag (xs.getD j 0)
        have hsu := sumF_take tag xs j h1
        have hle2 : sumF tag (xs.take j) ≤ 131082 * 1000 := by
          have hle := sumF_le tag (xs.take j)
          have : (xs.take j).length ≤ 1000 := by simp; omega
          omega
        have HSJ := hide hsu
        have P := put_any tag (xs.getD j 0)
        obtain ⟨b', off', hax, hc⟩ : ∃ b' off', (some (⟨b, off, none⟩ : Addr)) = some ⟨b', off', none⟩ ∧ ∀ i, i < xs.length → wr.cell? ⟨b', off' + i, none⟩ = some (.int .i64 (xs.getD i 0)) := by
          rcases A2.out.2 with h0 | h0
          · rw [h0] at h1; simp at h1
          · exact h0
        have c0 := hc j h1
        clear hc
        obtain ⟨rfl, rfl⟩ : b = b' ∧ off = off' := by simpa using hax
        clear hsu
        generalize xs.getD j 0 = z at *
        generalize hp : putF tag z = pz at *
        generalize hq : sumF tag (xs.take j) = qz at *
        have HP := hide P
        have H0 := hide hp
        have H1 := hide hq
        clear P hp hq hbound
        go_wp2_with fail
        refine (HP.out _).mono ?_
        rintro e w7 ⟨rfl, rfl⟩
        go_wp2
        go_roundw
        case measure => simp only [intOf]; omega
        case rel => exact ⟨j + 1, by rw [HSJ.out]; congr 1, by go_num, by omega, trivial⟩
      · obtain rfl : j = xs.length := by omega
        rw [List.take_length]
        have hs2 := HSU.out
        have c1' := C1
        generalize sumF tag xs = qz at *
        generalize sumF tag (xs.take k) = qa at *
        generalize sumF tag (xs.drop k) = qb at *
        have hab : qa + qb = qz := hs2
        have hqa : qa ≤ 131082 * 30 := by omega
        have hqb : qb ≤ 131082 * 30 := by omega
        have HAB := hide hab
        clear hs2 hab HSU HBO
        go_wp2_with fail
        refine (C1.out _ (Below.refl _ _)).mono ?_
        rintro e wr ⟨rfl, rfl⟩
        go_wp2_with fail
        have Q : ∀ (f : FuncId) (args : Array Value) (v : Value), (∀ W, Below wr.heap.size wr W → Calls Try.prog f args W fun e w' => e = .returned v ∧ w' = W) → ∀ d os, Calls Try.prog f args (grow (redrawn wr d) os) fun e w'' => e = .returned v ∧ ∃ p : Regrown, w'' = grow (redrawn wr p.d) p.os := fun f args v h d os =>
          Calls.regrown_of ((h _ (below_regrown wr d os)).mono fun e w' ⟨he, hw⟩ => ⟨he, hw ▸ Below.refl _ _⟩)
        have D2 := Q _ _ _ C2.out
        have D3 := Q _ _ _ C3.out
        have D4 := Q _ _ _ C4.out
        have D5 : ∀ d os, Calls Try.prog 5 #[] (grow (redrawn wr d) os) fun e w'' => e = .returned (.bool true) ∧ ∃ p : Regrown, w'' = grow (redrawn wr p.d) p.os := fun d os => Calls.regrown_of (awake_any _)
        have hq1 : IntKind.i64.wrap ((qa : Int) + (qb : Int)) = (qz : Int) := by have := HAB.out; rw [IntKind.wrap_i64]; omega
        clear Q C1 c1' C2 C3 C4
        refine wp_region_quiet_below (by kernel_rfl) (by kernel_rfl) ?_
        repeat (quiet_step (first | (go_at_call 9; with_reducible exact D2 _ _) | (go_at_call 9; with_reducible exact D3 _ _) | (go_at_call 9; with_reducible exact D4 _ _) | (go_at_call 5; exact D5 _ _)))
        refine wpQuiet_nil ?_
        intro _ hw'
        obtain ⟨⟨dq, osq⟩, hw''⟩ := hw'
        subst hw''
        go_wp2
        go_ret
        exact ⟨rfl, F2.out.trans ((below_regrown wr dq osq).mono F2.out.size)⟩
end Go.Proofs.Ytfeijlbljcbboaa
