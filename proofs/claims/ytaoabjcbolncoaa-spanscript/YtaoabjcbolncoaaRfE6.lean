/- The document's pool: Put of a new handle. -/
import Derived.Test.YtaoabjcbolncoaaRfD6
import Derived.Test.YtaoabjcbolncoaaOrdF
namespace Go.Proofs.Ytaoabjcbolncoaa
open Go.RowKit
set_option linter.unusedVariables false
set_option linter.unusedSimpArgs false

set_option maxHeartbeats 12800000 in
theorem rput_walk_new {w : World} {g rl L cap : Nat} {a ab : Option Addr} {cab : Nat} {most u u2 : Int} {vs vt : Value}
    (x3 : w.cell? ⟨g, 3, none⟩ = some (.int .i64 most)) (x4 : w.cell? ⟨g, 4, none⟩ = some (.int .i64 u)) (x4' : w.frozen? ⟨g, 4, none⟩ = false)
    (hd : wrap64 (most - u) = most - u) (hw : (L : Int) ≤ most - u)
    (hud : u + (L : Int) = u2) (e1 : wrap64 u2 = u2) (e2 : IntKind.i64.wrap u2 = u2) (hrl : rl ≤ 2147483648)
    {P : World → Prop} (R : ∀ W, Still w W → ∃ av capv w', (Builtin.append_ #[29, 29] 29 #[.slice none 0 0, .slice a L cap]).run Try.prog (W.setCell ⟨g, 4, none⟩ (.int .i64 u2)) = .ok (.slice av L capv) w' ∧
      w'.cell? ⟨g, 2, none⟩ = some (.slice ab 0 cab) ∧ w'.cell? ⟨g, 0, none⟩ = some vs ∧ w'.cell? ⟨g, 1, none⟩ = some vt ∧
      ∀ W1 p1, Below w'.heap.size w' W1 → Blk W1 p1 29 [.slice av L capv] → w'.heap.size ≤ p1 → After1 P g vs vt (.slice av L capv) rl w' W1 p1) :
    Calls Try.prog 13 #[.pointer (some ⟨g, 0, none⟩), .slice a L cap] w fun e w' => e = .returned (.tuple #[.int .u32 (rl : Int), .int .i64 0]) ∧ P w' := by
  have hw' : ¬ (most - u < (L : Int)) := by omega
  have HR := hide R
  clear R
  go_enter Try.func13, Try.ntmps13
  go_wp2_with fail
  go_quiet (fail)
  obtain ⟨av, capv, w', r, y2, y0, y1, H⟩ := HR.out _ ⟨nq, rfl⟩
  have HH := hide H
  clear H
  go_upto_region 6 with (at_builtin; refine wpList_append_run rfl _ _ _ _ rfl _ _ _ _ rfl rfl r ?_)
  clear hud e1 e2 hd hw hw' x3 x4 x4' HR r
  -- the three orders in which both are laid
  have Fa : Below w'.heap.size w' (w'.alloc (.cells #[.slice av L capv] 29)).drew := Below.drew ((Below.refl _ _).alloc (Nat.le_refl _) _)
  have Fb : Below w'.heap.size w' ((w'.alloc (.cells #[.bool true] 4)).alloc (.cells #[.slice av L capv] 29)).drew := Below.drew (((Below.refl _ _).alloc (Nat.le_refl _) _).alloc (by simp) _)
  have Fc : Below w'.heap.size w' ((w'.alloc (.cells #[.slice av L capv] 29)).alloc (.cells #[.bool true] 4)).drew := Below.drew (((Below.refl _ _).alloc (Nat.le_refl _) _).alloc (by simp) _)
  have Ba : Blk (w'.alloc (.cells #[.slice av L capv] 29)).drew w'.heap.size 29 [.slice av L capv] := Blk.new w' _ _ _ rfl
  have Bb : Blk ((w'.alloc (.cells #[.bool true] 4)).alloc (.cells #[.slice av L capv] 29)).drew (w'.heap.size + 1) 29 [.slice av L capv] := by
    have := Blk.new (w'.alloc (.cells #[.bool true] 4)) 29 [.slice av L capv] _ rfl
    simp only [World.size_alloc] at this
    exact this
  have Bc : Blk ((w'.alloc (.cells #[.slice av L capv] 29)).alloc (.cells #[.bool true] 4)).drew w'.heap.size 29 [.slice av L capv] := (Blk.new w' 29 [.slice av L capv] _ rfl).alloc _
  have Tb : Blk ((w'.alloc (.cells #[.bool true] 4)).alloc (.cells #[.slice av L capv] 29)).drew w'.heap.size 4 [.bool true] := (Blk.new w' 4 [.bool true] _ rfl).alloc _
  have Tc : Blk ((w'.alloc (.cells #[.slice av L capv] 29)).alloc (.cells #[.bool true] 4)).drew (w'.heap.size + 1) 4 [.bool true] := by
    have := Blk.new (w'.alloc (.cells #[.slice av L capv] 29)) 4 [.bool true] _ rfl
    simp only [World.size_alloc] at this
    exact this
  obtain ⟨av1a, c1a, w1a, r1a, x1a, z1a, s1a, -, h2a⟩ := HH.out _ _ Fa Ba (Nat.le_refl _)
  obtain ⟨av1b, c1b, w1b, r1b, x1b, z1b, -, t1b, h2b⟩ := HH.out _ _ Fb Bb (by omega)
  obtain ⟨av1c, c1c, w1c, r1c, x1c, z1c, -, t1c, h2c⟩ := HH.out _ _ Fc Bc (Nat.le_refl _)
  have al : ∀ (W : World) (o : Obj) (p : Addr) (v : Value), W.cell? p = some v → (W.alloc o).cell? p = some v := fun W o p v h => by
    rw [World.cell?_of_block (w := W) (w' := W.alloc o) (a := p) (Below.heap_alloc W o _ (World.block_lt_of_cell? W _ h))]
    exact h
  have q1 := al _ (.cells #[.bool true] 4) _ _ z1a
  have q0 := al _ (.cells #[.bool true] 4) _ _ x1a
  have q2 := al _ (.cells #[.bool true] 4) _ _ y0
  have q3 := al _ (.cells #[.bool true] 4) _ _ y1
  have q4 := al _ (.cells #[.slice av L capv] 29) _ _ y0
  have q5 := al _ (.cells #[.slice av L capv] 29) _ _ y1
  have q6 := al _ (.cells #[.bool true] 4) _ _ q4
  have q7 := al _ (.cells #[.bool true] 4) _ _ q5
  have q8 := al _ (.cells #[.slice av L capv] 29) _ _ q2
  have q9 := al _ (.cells #[.slice av L capv] 29) _ _ q3
  obtain ⟨av2b, c2b, w2b, r2b, i2b, j2b, k2b, l2b, hPb⟩ := h2b w1b _ (Below.refl _ _) (t1b _ Tb) (Nat.le_refl _)
  obtain ⟨av2c, c2c, w2c, r2c, i2c, j2c, k2c, l2c, hPc⟩ := h2c w1c _ (Below.refl _ _) (t1c _ Tc) (by omega)
  obtain ⟨av2a, c2a, w2a, r2a, i2a, j2a, k2a, l2a, hPa⟩ := h2a (w1a.alloc (.cells #[.bool true] 4)) w1a.heap.size ((Below.refl _ _).alloc (Nat.le_refl _) _) (Blk.new w1a _ _ _ rfl) (Nat.le_trans Fa.size s1a)
  have HPa := hide hPa
  have HPb := hide hPb
  have HPc := hide hPc
  clear hPa hPb hPc h2a h2b h2c t1b t1c Fa Fb Fc Ba Bb Bc Tb Tc HH s1a al
  have rw1 : IntKind.i64.wrap ((rl + 1 : Nat) - 1 : Int) = (rl : Int) := by rw [IntKind.wrap_i64]; omega
  have rw2 : IntKind.u32.wrap (rl : Int) = (rl : Int) := by rw [IntKind.wrap_u32]; omega
  go_upto_region 11 with fail
  have S0 : (fun W : World => W.cell? ⟨g, 0, none⟩ = some vs ∧ W.cell? ⟨g, 1, none⟩ = some vt) w'.drew := ⟨y0, y1⟩
  refine regionF (S := fun W : World => W.cell? ⟨g, 0, none⟩ = some vs ∧ W.cell? ⟨g, 1, none⟩ = some vt) (F := 17) (by kernel_rfl) ?_
  refine takeY (i := 0) (v := ?v0) rfl (by decide) (by kernel_rfl) (by kernel_rfl) (by kernel_rfl) (fun _ _ _ h => h) (Or.inl ⟨by rfl, ?hy0⟩) (fun _ => S0) ?rest0
  case hy0 => (intro w _; go_simp; first | done | with_reducible rfl)
  try simp only [Act.put, List.setIfInBounds_toArray, List.set_cons_zero, List.set_cons_succ]
  refine takeY (i := 1) (v := ?v1) rfl (by decide) (by kernel_rfl) (by kernel_rfl) (by kernel_rfl) (fun _ _ _ h => h) (Or.inl ⟨by rfl, ?hy1⟩) (fun _ => S0) ?rest1
  case hy1 => (intro w _; go_simp; first | done | with_reducible rfl)
  try simp only [Act.put, List.setIfInBounds_toArray, List.set_cons_zero, List.set_cons_succ]
  refine takeY (i := 2) (v := ?v2) rfl (by decide) (by kernel_rfl) (by kernel_rfl) (by kernel_rfl) (fun _ _ _ h => h) (Or.inl ⟨by rfl, ?hy2⟩) (fun _ => S0) ?rest2
  case hy2 => (intro w _; go_simp; first | done | with_reducible rfl)
  try simp only [Act.put, List.setIfInBounds_toArray, List.set_cons_zero, List.set_cons_succ]
  refine takeY (i := 3) (v := ?v3) rfl (by decide) (by kernel_rfl) (by kernel_rfl) (by kernel_rfl) (fun _ _ _ h => h) (Or.inl ⟨by rfl, ?hy3⟩) (fun _ => S0) ?rest3
  case hy3 => (intro w _; go_simp; first | done | with_reducible rfl)
  try simp only [Act.put, List.setIfInBounds_toArray, List.set_cons_zero, List.set_cons_succ]
  refine takeY (i := 4) (v := ?v4) rfl (by decide) (by kernel_rfl) (by kernel_rfl) (by kernel_rfl) (fun _ _ _ h => h) (Or.inl ⟨by rfl, ?hy4⟩) (fun _ => S0) ?rest4
  case hy4 => (intro w _; go_simp; first | done | with_reducible rfl)
  try simp only [Act.put, List.setIfInBounds_toArray, List.set_cons_zero, List.set_cons_succ]
  refine takeF (i := 5) (v := ?v5) rfl rfl (by kernel_rfl) (by decide) (by kernel_rfl) (by kernel_rfl) (by kernel_rfl) (by kernel_rfl) (fun _ _ _ h => h) (Or.inl ⟨by rfl, ?hy5⟩) S0 ?rest5
  case hy5 => (intro w hSw; obtain ⟨k0, k1⟩ := hSw; go_simp; first | done | with_reducible rfl)
  try simp only [Act.put, List.setIfInBounds_toArray, List.set_cons_zero, List.set_cons_succ]
  refine takeY (i := 6) (v := ?v6) rfl (by decide) (by kernel_rfl) (by kernel_rfl) (by kernel_rfl) (fun _ _ _ h => h) (Or.inl ⟨by rfl, ?hy6⟩) (fun _ => S0) ?rest6
  case hy6 => (intro w _; go_simp; first | done | with_reducible rfl)
  try simp only [Act.put, List.setIfInBounds_toArray, List.set_cons_zero, List.set_cons_succ]
  refine takeY (i := 9) (v := ?v9) rfl (by decide) (by kernel_rfl) (by kernel_rfl) (by kernel_rfl) (fun _ _ _ h => h) (Or.inl ⟨by rfl, ?hy9⟩) (fun _ => S0) ?rest9
  case hy9 => (intro w _; go_simp; first | done | with_reducible rfl)
  try simp only [Act.put, List.setIfInBounds_toArray, List.set_cons_zero, List.set_cons_succ]
  refine takeY (i := 10) (v := ?v10) rfl (by decide) (by kernel_rfl) (by kernel_rfl) (by kernel_rfl) (fun _ _ _ h => h) (Or.inl ⟨by rfl, ?hy10⟩) (fun _ => S0) ?rest10
  case hy10 => (intro w _; go_simp; first | done | with_reducible rfl)
  try simp only [Act.put, List.setIfInBounds_toArray, List.set_cons_zero, List.set_cons_succ]
  refine takeY (i := 11) (v := ?v11) rfl (by decide) (by kernel_rfl) (by kernel_rfl) (by kernel_rfl) (fun _ _ _ h => h) (Or.inl ⟨by rfl, ?hy11⟩) (fun _ => S0) ?rest11
  case hy11 => (intro w _; go_simp; first | done | with_reducible rfl)
  try simp only [Act.put, List.setIfInBounds_toArray, List.set_cons_zero, List.set_cons_succ]
  refine takeF (i := 12) (v := ?v12) rfl rfl (by kernel_rfl) (by decide) (by kernel_rfl) (by kernel_rfl) (by kernel_rfl) (by kernel_rfl) (fun _ _ _ h => h) (Or.inl ⟨by rfl, ?hy12⟩) S0 ?rest12
  case hy12 => (intro w hSw; obtain ⟨k0, k1⟩ := hSw; go_simp; first | done | with_reducible rfl)
  try simp only [Act.put, List.setIfInBounds_toArray, List.set_cons_zero, List.set_cons_succ]
  refine readyF (rs := [7, 13]) (by kernel_rfl) (by simp) (AllF.cons rfl (fun K hK => ?_) (AllF.cons rfl (fun K hK => ?_) AllF.nil))
  · go_simp
    refine hK.out _ _ (fun _ => ⟨q4, q5⟩) ?_
    clear hK K
    try simp only [Act.put, List.setIfInBounds_toArray, List.set_cons_zero, List.set_cons_succ]
    refine readyF (rs := [8, 13]) (by kernel_rfl) (by simp) (AllF.cons rfl (fun K hK => ?_) (AllF.cons rfl (fun K hK => ?_) AllF.nil))
    · refine step_append_run rfl _ _ _ _ rfl _ _ _ _ rfl rfl r1a ?_
      refine hK.out _ _ (fun _ => ⟨x1a, z1a⟩) ?_
      clear hK K
      try simp only [Act.put, List.setIfInBounds_toArray, List.set_cons_zero, List.set_cons_succ]
      refine readyF (rs := [13]) (by kernel_rfl) (by simp) (AllF.cons rfl (fun K hK => ?_) AllF.nil)
      go_simp
      refine hK.out _ _ (fun _ => ⟨q0, q1⟩) ?_
      clear hK K
      try simp only [Act.put, List.setIfInBounds_toArray, List.set_cons_zero, List.set_cons_succ]
      refine readyF (rs := [14]) (by kernel_rfl) (by simp) (AllF.cons rfl (fun K hK => ?_) AllF.nil)
      refine step_append_run rfl _ _ _ _ rfl _ _ _ _ rfl rfl r2a ?_
      refine hK.out _ _ (fun _ => ⟨i2a, k2a⟩) ?_
      clear hK K
      try simp only [Act.put, List.setIfInBounds_toArray, List.set_cons_zero, List.set_cons_succ]
      refine takeY (i := 15) (v := ?v15a) rfl (by decide) (by kernel_rfl) (by kernel_rfl) (by kernel_rfl) (fun _ _ _ h => h) (Or.inl ⟨by rfl, ?hy15a⟩) (fun _ => ⟨i2a, k2a⟩) ?rest15a
      case hy15a => (intro w _; go_simp; first | done | with_reducible rfl)
      try simp only [Act.put, List.setIfInBounds_toArray, List.set_cons_zero, List.set_cons_succ]
      refine takeY (i := 16) (v := ?v16a) rfl (by decide) (by kernel_rfl) (by kernel_rfl) (by kernel_rfl) (fun _ _ _ h => h) (Or.inl ⟨by rfl, ?hy16a⟩) (fun _ => ⟨i2a, k2a⟩) ?rest16a
      case hy16a => (intro w _; go_simp; first | done | with_reducible rfl)
      try simp only [Act.put, List.setIfInBounds_toArray, List.set_cons_zero, List.set_cons_succ]
      refine readyF (rs := [17]) (by kernel_rfl) (by simp) (AllF.cons rfl (fun K hK => ?_) AllF.nil)
      go_simp
      refine hK.out _ _ (fun h => absurd h (by simp)) ?_
      clear hK K
      try simp only [Act.put, List.setIfInBounds_toArray, List.set_cons_zero, List.set_cons_succ]
      refine takeY (i := 18) (v := ?v18a) rfl (by decide) (by kernel_rfl) (by kernel_rfl) (by kernel_rfl) (fun _ _ _ h => h) (Or.inl ⟨by rfl, ?hy18a⟩) (fun h => absurd h (by simp)) ?rest18a
      case hy18a => (intro w _; go_simp; first | done | with_reducible rfl)
      try simp only [Act.put, List.setIfInBounds_toArray, List.set_cons_zero, List.set_cons_succ]
      refine takeY (i := 19) (v := ?v19a) rfl (by decide) (by kernel_rfl) (by kernel_rfl) (by kernel_rfl) (fun _ _ _ h => h) (Or.inl ⟨by rfl, ?hy19a⟩) (fun h => absurd h (by simp)) ?rest19a
      case hy19a => (intro w _; go_simp; first | done | with_reducible rfl)
      try simp only [Act.put, List.setIfInBounds_toArray, List.set_cons_zero, List.set_cons_succ]
      refine readyF (rs := [20]) (by kernel_rfl) (by simp) (AllF.cons rfl (fun K hK => ?_) AllF.nil)
      go_simp
      refine hK.out _ _ (fun h => absurd h (by simp)) ?_
      clear hK K
      try simp only [Act.put, List.setIfInBounds_toArray, List.set_cons_zero, List.set_cons_succ]
      refine doneF (by kernel_rfl) ?_ _
      go_wp2_with fail
      go_ret2
      exact ⟨rfl, HPa.out _ ⟨0, rfl⟩⟩
    · go_simp
      refine hK.out _ _ (fun _ => ⟨q6, q7⟩) ?_
      clear hK K
      try simp only [Act.put, List.setIfInBounds_toArray, List.set_cons_zero, List.set_cons_succ]
      refine readyF (rs := [8]) (by kernel_rfl) (by simp) (AllF.cons rfl (fun K hK => ?_) AllF.nil)
      refine step_append_run rfl _ _ _ _ rfl _ _ _ _ rfl rfl r1c ?_
      refine hK.out _ _ (fun _ => ⟨x1c, z1c⟩) ?_
      clear hK K
      try simp only [Act.put, List.setIfInBounds_toArray, List.set_cons_zero, List.set_cons_succ]
      refine readyF (rs := [14]) (by kernel_rfl) (by simp) (AllF.cons rfl (fun K hK => ?_) AllF.nil)
      refine step_append_run rfl _ _ _ _ rfl _ _ _ _ rfl rfl r2c ?_
      refine hK.out _ _ (fun _ => ⟨i2c, k2c⟩) ?_
      clear hK K
      try simp only [Act.put, List.setIfInBounds_toArray, List.set_cons_zero, List.set_cons_succ]
      refine takeY (i := 15) (v := ?v15c) rfl (by decide) (by kernel_rfl) (by kernel_rfl) (by kernel_rfl) (fun _ _ _ h => h) (Or.inl ⟨by rfl, ?hy15c⟩) (fun _ => ⟨i2c, k2c⟩) ?rest15c
      case hy15c => (intro w _; go_simp; first | done | with_reducible rfl)
      try simp only [Act.put, List.setIfInBounds_toArray, List.set_cons_zero, List.set_cons_succ]
      refine takeY (i := 16) (v := ?v16c) rfl (by decide) (by kernel_rfl) (by kernel_rfl) (by kernel_rfl) (fun _ _ _ h => h) (Or.inl ⟨by rfl, ?hy16c⟩) (fun _ => ⟨i2c, k2c⟩) ?rest16c
      case hy16c => (intro w _; go_simp; first | done | with_reducible rfl)
      try simp only [Act.put, List.setIfInBounds_toArray, List.set_cons_zero, List.set_cons_succ]
      refine readyF (rs := [17]) (by kernel_rfl) (by simp) (AllF.cons rfl (fun K hK => ?_) AllF.nil)
      go_simp
      refine hK.out _ _ (fun h => absurd h (by simp)) ?_
      clear hK K
      try simp only [Act.put, List.setIfInBounds_toArray, List.set_cons_zero, List.set_cons_succ]
      refine takeY (i := 18) (v := ?v18c) rfl (by decide) (by kernel_rfl) (by kernel_rfl) (by kernel_rfl) (fun _ _ _ h => h) (Or.inl ⟨by rfl, ?hy18c⟩) (fun h => absurd h (by simp)) ?rest18c
      case hy18c => (intro w _; go_simp; first | done | with_reducible rfl)
      try simp only [Act.put, List.setIfInBounds_toArray, List.set_cons_zero, List.set_cons_succ]
      refine takeY (i := 19) (v := ?v19c) rfl (by decide) (by kernel_rfl) (by kernel_rfl) (by kernel_rfl) (fun _ _ _ h => h) (Or.inl ⟨by rfl, ?hy19c⟩) (fun h => absurd h (by simp)) ?rest19c
      case hy19c => (intro w _; go_simp; first | done | with_reducible rfl)
      try simp only [Act.put, List.setIfInBounds_toArray, List.set_cons_zero, List.set_cons_succ]
      refine readyF (rs := [20]) (by kernel_rfl) (by simp) (AllF.cons rfl (fun K hK => ?_) AllF.nil)
      go_simp
      refine hK.out _ _ (fun h => absurd h (by simp)) ?_
      clear hK K
      try simp only [Act.put, List.setIfInBounds_toArray, List.set_cons_zero, List.set_cons_succ]
      refine doneF (by kernel_rfl) ?_ _
      go_wp2_with fail
      go_ret2
      exact ⟨rfl, HPc.out _ ⟨0, rfl⟩⟩
  · go_simp
    refine hK.out _ _ (fun _ => ⟨q2, q3⟩) ?_
    clear hK K
    try simp only [Act.put, List.setIfInBounds_toArray, List.set_cons_zero, List.set_cons_succ]
    refine readyF (rs := [7]) (by kernel_rfl) (by simp) (AllF.cons rfl (fun K hK => ?_) AllF.nil)
    go_simp
    refine hK.out _ _ (fun _ => ⟨q8, q9⟩) ?_
    clear hK K
    try simp only [Act.put, List.setIfInBounds_toArray, List.set_cons_zero, List.set_cons_succ]
    refine readyF (rs := [8]) (by kernel_rfl) (by simp) (AllF.cons rfl (fun K hK => ?_) AllF.nil)
    refine step_append_run rfl _ _ _ _ rfl _ _ _ _ rfl rfl r1b ?_
    refine hK.out _ _ (fun _ => ⟨x1b, z1b⟩) ?_
    clear hK K
    try simp only [Act.put, List.setIfInBounds_toArray, List.set_cons_zero, List.set_cons_succ]
    refine readyF (rs := [14]) (by kernel_rfl) (by simp) (AllF.cons rfl (fun K hK => ?_) AllF.nil)
    refine step_append_run rfl _ _ _ _ rfl _ _ _ _ rfl rfl r2b ?_
    refine hK.out _ _ (fun _ => ⟨i2b, k2b⟩) ?_
    clear hK K
    try simp only [Act.put, List.setIfInBounds_toArray, List.set_cons_zero, List.set_cons_succ]
    refine takeY (i := 15) (v := ?v15b) rfl (by decide) (by kernel_rfl) (by kernel_rfl) (by kernel_rfl) (fun _ _ _ h => h) (Or.inl ⟨by rfl, ?hy15b⟩) (fun _ => ⟨i2b, k2b⟩) ?rest15b
    case hy15b => (intro w _; go_simp; first | done | with_reducible rfl)
    try simp only [Act.put, List.setIfInBounds_toArray, List.set_cons_zero, List.set_cons_succ]
    refine takeY (i := 16) (v := ?v16b) rfl (by decide) (by kernel_rfl) (by kernel_rfl) (by kernel_rfl) (fun _ _ _ h => h) (Or.inl ⟨by rfl, ?hy16b⟩) (fun _ => ⟨i2b, k2b⟩) ?rest16b
    case hy16b => (intro w _; go_simp; first | done | with_reducible rfl)
    try simp only [Act.put, List.setIfInBounds_toArray, List.set_cons_zero, List.set_cons_succ]
    refine readyF (rs := [17]) (by kernel_rfl) (by simp) (AllF.cons rfl (fun K hK => ?_) AllF.nil)
    go_simp
    refine hK.out _ _ (fun h => absurd h (by simp)) ?_
    clear hK K
    try simp only [Act.put, List.setIfInBounds_toArray, List.set_cons_zero, List.set_cons_succ]
    refine takeY (i := 18) (v := ?v18b) rfl (by decide) (by kernel_rfl) (by kernel_rfl) (by kernel_rfl) (fun _ _ _ h => h) (Or.inl ⟨by rfl, ?hy18b⟩) (fun h => absurd h (by simp)) ?rest18b
    case hy18b => (intro w _; go_simp; first | done | with_reducible rfl)
    try simp only [Act.put, List.setIfInBounds_toArray, List.set_cons_zero, List.set_cons_succ]
    refine takeY (i := 19) (v := ?v19b) rfl (by decide) (by kernel_rfl) (by kernel_rfl) (by kernel_rfl) (fun _ _ _ h => h) (Or.inl ⟨by rfl, ?hy19b⟩) (fun h => absurd h (by simp)) ?rest19b
    case hy19b => (intro w _; go_simp; first | done | with_reducible rfl)
    try simp only [Act.put, List.setIfInBounds_toArray, List.set_cons_zero, List.set_cons_succ]
    refine readyF (rs := [20]) (by kernel_rfl) (by simp) (AllF.cons rfl (fun K hK => ?_) AllF.nil)
    go_simp
    refine hK.out _ _ (fun h => absurd h (by simp)) ?_
    clear hK K
    try simp only [Act.put, List.setIfInBounds_toArray, List.set_cons_zero, List.set_cons_succ]
    refine doneF (by kernel_rfl) ?_ _
    go_wp2_with fail
    go_ret2
    exact ⟨rfl, HPb.out _ ⟨0, rfl⟩⟩
end Go.Proofs.Ytaoabjcbolncoaa
