/- slices.Insert of one number, wherever; slices.Delete of one. -/
import Derived.Test.YtmogjhljmljpfaaDoorIn9
namespace Go.Proofs.YtmogjhljmljpfaaDoor
set_option maxRecDepth 20000
open Go.RowKit
set_option linter.unusedVariables false

theorem step_append_run {P : Program} {w : World} {ops : Array Oper} {o : Oper} {a : Act} {K : Act → World → Prop} {Q : Exit → Act → World → Prop} {E : Prop} (hgd : Region.wanted o (yielded ops a.tmps) = true) (s x : Operand) (t tx : TypeId)
    (ho : o.op = .call { callee := .builtin .append, args := #[s, x], argTypes := #[t, tx] }) (v x' v' : Value) (w' : World) (hs : a.eval s = v) (hx : a.eval x = x')
    (hr : (Builtin.append_ #[t, tx] o.type #[v, x']).run P w = .ok v' w') (h : K (a.put o.dst v') w') : if Region.wanted o (yielded ops a.tmps) = true then Oper.wp P o a w K Q else E := by
  rw [if_pos hgd]
  unfold Oper.wp execOp
  simp only [ho, resolve, invoke, builtin, Sem.run_bind, Sem.run_pure, Result.andThen_ok, List.map_toArray, List.map_cons, List.map_nil, hs, hx, hr]
  exact h

set_option maxHeartbeats 4000000 in
theorem insert_grow (w : World) (b c : Nat) (rest : List Value) (A B : List Nat) (x : Nat) (vb : Nat) (h : Blk w b 31 (u32s A ++ u32s B ++ rest)) (hv : Blk w vb 31 [.int .u32 (x : Int)]) (hB : 0 < B.length) (hc : c < A.length + B.length + 1) (hnc : A.length + B.length ≤ c) (hn : A.length + B.length < 1000000) :
    Calls Tryd.prog 25 #[.slice (some ⟨b, 0, none⟩) (A.length + B.length) c, .int .i64 (A.length : Nat), .slice (some ⟨vb, 0, none⟩) 1 1] w fun r w' => ∃ v', r = .returned v' ∧ w'.ownsRow w.heap.size 31 1 v' (A.length + B.length + 1) (u32s (A ++ x :: B)) ∧ Below w.heap.size w w' := by
  have la : (u32s A).length = A.length := u32s_length A
  have lb : (u32s B).length = B.length := u32s_length B
  obtain ⟨c', w2, zs, tail, r2, c1, c2, zl, tl, b2, f2, s2⟩ := append_zeros_u32 w b A.length c (u32s A) la (fun j u hu => by
    have hjl := (List.getElem?_eq_some_iff.1 hu).1
    rw [h.cell, List.append_assoc, List.getElem?_append_left hjl]; exact hu) (B.length + 1) ((A.length : Int) + (B.length : Int) + 1 - (A.length : Int)) (by omega) (by omega) (by omega) (by omega)
  have hv2 := hv.below f2 hv.lt
  have h2 := h.below f2 h.lt
  obtain ⟨z0, zs', rfl⟩ : ∃ z0 zs', zs = z0 :: zs' := by
    cases zs with
    | nil => simp at zl
    | cons z zs => exact ⟨z, zs, rfl⟩
  have zl' : zs'.length = B.length := by simpa using zl
  have hcl : (u32s A ++ z0 :: zs' ++ tail).length = c' := by
    simp only [List.length_append, la, zl, tl]
    omega
  rw [show A.length + (B.length + 1) = A.length + B.length + 1 by omega] at r2 c1
  obtain ⟨w3, r3, b3, g3, s3⟩ := copy_u32 w2 3 w.heap.size _ b2 A.length (B.length + 1) (c' - A.length) ⟨vb, 0, none⟩ 1 1 [.int .u32 (x : Int)] 1 (by show min _ _ = _; omega) rfl
    (fun j v hj => by rw [Addr.add_lit, Nat.zero_add, hv2.cell]; exact hj) (by rw [hcl]; have : [Value.int .u32 (x : Int)].length = 1 := rfl; omega) (fun u hu => by simp at hu; rcases hu with rfl; rfl)
  have e0 : [Value.int .u32 (x : Int)].length = 1 := rfl
  have e3 : (u32s A ++ z0 :: zs' ++ tail).take A.length ++ [Value.int .u32 (x : Int)] ++ (u32s A ++ z0 :: zs' ++ tail).drop (A.length + 1) = (u32s A ++ [Value.int .u32 (x : Int)]) ++ (zs' ++ tail) := by
    have t1 : (u32s A ++ z0 :: zs' ++ tail).take A.length = u32s A := by
      rw [List.append_assoc]; exact take_app _ _ _ la.symm
    have t2 : (u32s A ++ z0 :: zs' ++ tail).drop (A.length + 1) = zs' ++ tail := by
      rw [show u32s A ++ z0 :: zs' ++ tail = (u32s A ++ [z0]) ++ (zs' ++ tail) by simp]
      exact drop_app _ _ _ (by simp [la])
    rw [t1, t2]
  rw [e0, e3] at b3
  have hd3 : Blk w3.drew w.heap.size 31 ((u32s A ++ [Value.int .u32 (x : Int)]) ++ (zs' ++ tail)) := b3
  have h3 : Blk w3.drew b 31 (u32s A ++ u32s B ++ rest) := (g3.block b h2.lt (by have := h.lt; simp; omega)).trans h2
  have lte : (u32s A ++ [Value.int .u32 (x : Int)]).length = A.length + 1 := by simp [la]
  obtain ⟨w4, r4, b4, g4, s4⟩ := copy_u32 w3.drew 3 w.heap.size _ hd3 (A.length + 1) B.length (c' - (A.length + 1)) ⟨b, A.length, none⟩ B.length (c - A.length) (u32s B) B.length (by show min _ _ = _; omega) lb
    (fun j v hj => by
      have hjl := (List.getElem?_eq_some_iff.1 hj).1
      rw [Addr.add_lit, h3.cell, List.append_assoc, List.getElem?_append_right (by omega), la, Nat.add_sub_cancel_left, List.getElem?_append_left hjl]
      exact hj) (by simp only [List.length_append, la, lb, zl', List.length_cons, List.length_nil]; omega) (u32s_one _)
  have e4 : ((u32s A ++ [Value.int .u32 (x : Int)]) ++ (zs' ++ tail)).take (A.length + 1) ++ u32s B ++ ((u32s A ++ [Value.int .u32 (x : Int)]) ++ (zs' ++ tail)).drop (A.length + 1 + (u32s B).length) = u32s (A ++ x :: B) ++ tail := by
    have t2 : ((u32s A ++ [Value.int .u32 (x : Int)]) ++ (zs' ++ tail)).drop (A.length + 1 + (u32s B).length) = tail := by
      rw [← List.append_assoc]
      exact drop_app _ _ _ (by rw [List.length_append, lte, lb, zl'])
    rw [take_app _ _ _ lte.symm, t2, u32s_append, u32s_cons]
    simp
  rw [e4] at b4
  have O4 : Hid (w4.ownsRow w.heap.size 31 1 (.slice (some ⟨w.heap.size, 0, none⟩) (A.length + B.length + 1) c') (A.length + B.length + 1) (u32s (A ++ x :: B))) := by
    have lf : (u32s (A ++ x :: B)).length = (A.length + B.length + 1) * 1 := by rw [u32s_length]; simp; omega
    refine ⟨lf, .inr ⟨w.heap.size, c', _, rfl, Nat.le_refl _, b4, c1, c2, ?_, ?_⟩⟩
    · rw [List.size_toArray, List.length_append, lf, tl]; omega
    · rw [List.toList_toArray, ← lf]; exact List.take_left
  have F4 : Hid (Below w.heap.size w w4) := by
    have f3 := f2.grown g3 (by omega) (fun k hk => by cases hk; exact Nat.le_refl _)
    have f3' : Below w.heap.size w w3.drew := ⟨f3.os, f3.tape, f3.output, f3.size, f3.block⟩
    exact f3'.grown g4 (by have := f3'.size; omega) (fun k hk => by cases hk; exact Nat.le_refl _)
  have hcc : c' ≤ 9223372036854775807 := by unfold maxLen at c2; omega
  clear la lb zl tl b2 f2 s2 hv2 h2 hcl b3 g3 s3 e3 hd3 h3 lte b4 g4 s4 e4 h hv c2 e0 zl'
  generalize A.length = i at *
  generalize B.length = m at *
  have hw1 : IntKind.i64.wrap ((i : Int) + 1) = (i : Int) + 1 := by rw [IntKind.wrap_i64]; omega
  have hw2 : IntKind.i64.wrap ((i : Int) + (m : Int) + 1) = (i : Int) + (m : Int) + 1 := by rw [IntKind.wrap_i64]; omega
  have hw3 : IntKind.i64.wrap ((i : Int) + (m : Int) + 1 - (i : Int)) = (i : Int) + (m : Int) + 1 - (i : Int) := by rw [IntKind.wrap_i64]; omega
  have hb1 : (0 : Int) ≤ (i : Int) + 1 := by omega
  have htn : ((i : Int) + 1).toNat = i + 1 := by omega
  have hb2 : ¬ (c' = i + 1) := by omega
  have hb4 : ¬ (c = i) := by omega
  have hb5 : ¬ (c' = i) := by omega
  have hin : i ≤ i + m := by omega
  have hz2 : ¬ ((i : Int) = (i : Int) + (m : Int)) := by omega
  have hz3 : i + m - i = m := by omega
  have hz4 : i + m + 1 - i = m + 1 := by omega
  have hz5 : i + m + 1 - (i + 1) = m := by omega
  go_enter Tryd.func25, Tryd.ntmps25
  go_wp2_with (at_builtin; refine wpList_append_run rfl _ _ _ _ rfl _ _ _ _ rfl rfl r2 ?_)
  go_region
  go_wp2
  go_ret
  exact ⟨_, rfl, O4.out, F4.out⟩

theorem owns_base {w : World} {base base' : Nat} {e : TypeId} {size : Nat} {v : Value} {n : Nat} {xs : List Value} (h : w.ownsRow base e size v n xs) (hb : base' ≤ base) : w.ownsRow base' e size v n xs := by
  refine ⟨h.1, ?_⟩
  rcases h.2 with hn | ⟨g, cap, cur, h1, h2, h3⟩
  · exact .inl hn
  · exact .inr ⟨g, cap, cur, h1, by omega, h3⟩

/-- Insert of one number, wherever. -/
theorem insert_any (w : World) (v : Value) (A B : List Nat) (x : Nat) (vb : Nat) (h : w.ownsRow 0 31 1 v (A.length + B.length) (u32s (A ++ B))) (hv : Blk w vb 31 [.int .u32 (x : Int)]) (hne : v.ownBlock ≠ some vb) (hn : A.length + B.length < 1000000) :
    Calls Tryd.prog 25 #[v, .int .i64 (A.length : Nat), .slice (some ⟨vb, 0, none⟩) 1 1] w fun r w' => ∃ a c, r = .returned (.slice a (A.length + B.length + 1) c) ∧ w'.ownsRow 0 31 1 (.slice a (A.length + B.length + 1) c) (A.length + B.length + 1) (u32s (A ++ x :: B)) ∧ w.grownBy w' v.ownBlock ∧ ((Value.slice a (A.length + B.length + 1) c).ownBlock = v.ownBlock ∨ ∃ k, (Value.slice a (A.length + B.length + 1) c).ownBlock = some k ∧ w.heap.size ≤ k) := by
  by_cases hB : 0 < B.length
  · rcases h.2 with ⟨_, h0⟩ | ⟨b, c, cur, rfl, _, hg, h1, h2, h3, h4⟩
    · omega
    · have lab : (u32s (A ++ B)).length = A.length + B.length := by rw [u32s_length]; simp
      have hb : Blk w b 31 (u32s A ++ u32s B ++ cur.toList.drop (A.length + B.length)) := by
        unfold Blk
        have : u32s A ++ u32s B = cur.toList.take (A.length + B.length) := by rw [← u32s_append, ← h4]; simp
        rw [this, List.take_append_drop]; exact hg
      have hr : A.length + B.length + (cur.toList.drop (A.length + B.length)).length = c := by
        have : cur.toList.length = c := by rw [Array.length_toList, h3]; omega
        simp only [List.length_drop, this]; omega
      have hvb : vb ≠ b := fun e => hne (by rw [e]; rfl)
      by_cases hc : A.length + B.length + 1 ≤ c
      · refine (insert_room w b c _ A B x vb hb hr hv hvb hB hc h2 hn).mono ?_
        rintro r w' ⟨rfl, b2, g2⟩
        have lf : (u32s (A ++ x :: B)).length = (A.length + B.length + 1) * 1 := by rw [u32s_length]; simp; omega
        refine ⟨_, _, rfl, ⟨lf, .inr ⟨b, c, _, rfl, by omega, b2, hc, h2, ?_, ?_⟩⟩, g2, .inl rfl⟩
        · rw [List.size_toArray, List.length_append, lf, List.length_drop]; omega
        · rw [List.toList_toArray, ← lf]; exact List.take_left
      · refine (insert_grow w b c _ A B x vb hb hv hB (by omega) h1 hn).mono ?_
        rintro r w' ⟨v', rfl, o, f⟩
        obtain ⟨g', cap, rfl⟩ := owns_slice o (by omega)
        exact ⟨_, _, rfl, owns_base o (by omega), ⟨f.os, f.tape, f.output, f.size, fun k hk _ => f.block k hk⟩, .inr ⟨g', rfl, (o.lt g' rfl).1⟩⟩
  · obtain rfl : B = [] := List.eq_nil_of_length_eq_zero (by omega)
    simp only [List.append_nil, List.length_nil, Nat.add_zero] at h ⊢
    refine (insert_end w 0 v A x vb h hv (by simpa using hn) (by omega)).mono ?_
    rintro r w' ⟨v', rfl, o, g, ho⟩
    obtain ⟨g', cap, rfl⟩ := owns_slice o (by omega)
    refine ⟨_, _, rfl, o, g, ?_⟩
    rcases ho with ho | ho
    · exact .inl ho
    · exact .inr ⟨_, ho, Nat.le_refl _⟩

set_option maxHeartbeats 4000000 in
/-- Delete of the number behind A. -/
theorem delete_any (w : World) (b c : Nat) (rest : List Value) (A B : List Nat) (x : Nat) (h : Blk w b 31 (u32s (A ++ x :: B) ++ rest)) (hr : A.length + B.length + 1 + rest.length = c) (hcm : c ≤ maxLen) (hn : A.length + B.length ≤ 1000000) :
    Calls Tryd.prog 29 #[.slice (some ⟨b, 0, none⟩) (A.length + B.length + 1) c, .int .i64 (A.length : Nat), .int .i64 ((A.length : Int) + 1)] w fun r w' => r = .returned (.slice (some ⟨b, 0, none⟩) (A.length + B.length) c) ∧ Blk w' b 31 (u32s (A ++ B) ++ (.int .u32 0 :: rest)) ∧ w.grownBy w' (some b) := by
  unfold maxLen at hcm
  have la : (u32s A).length = A.length := u32s_length A
  have lb : (u32s B).length = B.length := u32s_length B
  have hcl : (u32s (A ++ x :: B) ++ rest).length = c := by simp [u32s_length]; omega
  have hd : Blk w.drew b 31 (u32s (A ++ x :: B) ++ rest) := h
  have hsrc : ∀ a' c2, (A.length + 1 = c ∧ a' = ⟨b, 0, none⟩ ∨ a' = ⟨b, A.length + 1, none⟩) → Src Tryd.prog 1 49 (.slice (some a') B.length c2) B.length (u32s B) w.drew := by
    intro a' c2 ha
    refine Src.ofSlice _ Tryd.underlying49 _ _ _ _ (by rw [lb]; omega) (fun j v hj => ?_) (u32s_one _)
    have hjl := (List.getElem?_eq_some_iff.1 hj).1
    rcases ha with ⟨ha, _⟩ | ha
    · omega
    · have e : u32s (A ++ x :: B) ++ rest = (u32s A ++ [.int .u32 (x : Int)]) ++ (u32s B ++ rest) := by rw [u32s_append, u32s_cons]; simp
      have l1 : (u32s A ++ [Value.int .u32 (x : Int)]).length = A.length + 1 := by simp [la]
      rw [ha, Addr.add_lit, hd.cell, e, List.getElem?_append_right (by omega), l1, Nat.add_sub_cancel_left, List.getElem?_append_left hjl]
      exact hj
  have hmk : ∀ a' c2 n3, n3 = B.length → (A.length + 1 = c ∧ a' = ⟨b, 0, none⟩ ∨ a' = ⟨b, A.length + 1, none⟩) → ∃ w1 w2, (Builtin.append_ #[49, 49] 49 #[.slice (some ⟨b, 0, none⟩) A.length c, .slice (some a') n3 c2]).run Tryd.prog w.drew = .ok (.slice (some ⟨b, 0, none⟩) (A.length + B.length) c) w1 ∧
      (Builtin.clear_ #[49] 0 #[.slice (some ⟨b, A.length + B.length, none⟩) 1 (c - (A.length + B.length))]).run Tryd.prog w1 = .ok (.tuple #[]) w2 ∧ Blk w2 b 31 (u32s (A ++ B) ++ (.int .u32 0 :: rest)) ∧ w.grownBy w2 (some b) := by
    intro a' c2 n3 h3 ha
    subst h3
    obtain ⟨w1, r1, b1, g1, s1⟩ := append_room_u32 w.drew 49 49 b A.length c _ hd hcl _ _ _ (hsrc a' c2 ha) (by omega)
    have t1 : (u32s (A ++ x :: B) ++ rest).take A.length = u32s A := by rw [u32s_append, List.append_assoc]; exact take_app _ _ _ la.symm
    have hx : ∃ y, (u32s (A ++ x :: B) ++ rest).drop (A.length + (u32s B).length) = y :: rest := by
      have l2 : (u32s (A ++ x :: B)).length = A.length + B.length + 1 := by rw [u32s_length]; simp; omega
      have : (u32s (A ++ x :: B) ++ rest).drop (A.length + (u32s B).length) = (u32s (A ++ x :: B)).drop (A.length + (u32s B).length) ++ rest := List.drop_append_of_le_length (by rw [lb]; omega)
      rw [this]
      have l3 : ((u32s (A ++ x :: B)).drop (A.length + (u32s B).length)).length = 1 := by rw [List.length_drop, lb, l2]; omega
      match hq : (u32s (A ++ x :: B)).drop (A.length + (u32s B).length), l3 with
      | [y], _ => exact ⟨y, rfl⟩
    obtain ⟨y, hx⟩ := hx
    rw [t1, hx] at b1
    have lab : (u32s A ++ u32s B).length = A.length + B.length := by simp [la, lb]
    obtain ⟨w2, r2, b2, g2, s2⟩ := clear_u32 w1 0 b _ b1 (A.length + B.length) (c - (A.length + B.length)) (by simp only [List.length_append, List.length_cons, la, lb]; omega)
    have e2 : (u32s A ++ (u32s B ++ y :: rest)).take (A.length + B.length) ++ [Value.int .u32 0] ++ (u32s A ++ (u32s B ++ y :: rest)).drop (A.length + B.length + 1) = u32s (A ++ B) ++ (.int .u32 0 :: rest) := by
      have t2 : (u32s A ++ (u32s B ++ y :: rest)).drop (A.length + B.length + 1) = rest := by
        rw [show u32s A ++ (u32s B ++ y :: rest) = (u32s A ++ u32s B ++ [y]) ++ rest by simp]
        exact drop_app _ _ _ (by rw [List.length_append, lab]; rfl)
      have t3 : (u32s A ++ (u32s B ++ y :: rest)).take (A.length + B.length) = u32s A ++ u32s B := by
        rw [← List.append_assoc]; exact take_app _ _ _ lab.symm
      rw [t2, t3, u32s_append]
      simp
    rw [e2] at b2
    exact ⟨w1, w2, r1, r2, b2, ⟨by rw [g2.os, g1.os]; rfl, by rw [g2.tape, g1.tape]; rfl, by rw [g2.output, g1.output]; rfl, by rw [s2, s1]; exact Nat.le_refl _, fun k hk hne => by rw [g2.block k (by rw [s1]; exact hk) hne, g1.block k hk hne]; rfl⟩⟩
  clear hsrc hd la lb hcl h
  generalize u32s (A ++ B) ++ (Value.int .u32 0 :: rest) = fin at *
  generalize A.length = i at *
  generalize B.length = m at *
  have hc0 : i + m + 1 ≤ c := by omega
  clear hr
  have hw1 : IntKind.i64.wrap ((i : Int) + 1) = (i : Int) + 1 := by rw [IntKind.wrap_i64]; omega
  have hb1 : (0 : Int) ≤ (i : Int) + 1 := by omega
  have htn : ((i : Int) + 1).toNat = i + 1 := by omega
  have hne' : ((i : Int) == (i : Int) + 1) = false := by simp; omega
  have q1 : (i : Int) ≤ (i : Int) + 1 := by omega
  have hin1 : (i : Int) + 1 ≤ (i : Int) + (m : Int) + 1 := by omega
  have q7 : i ≤ c := by omega
  have q8 : i + m ≤ c := by omega
  have q3 : ¬ (c = i) := by omega
  have q4 : ¬ (c = i + m) := by omega
  have z1 : i + m + 1 - (i + 1) = m := by omega
  have z2 : i + m + 1 - (i + m) = 1 := by omega
  have z3 : (i : Int) + (m : Int) + 1 ≤ (c : Int) := by omega
  have z4 : (i : Int) + (m : Int) ≤ (i : Int) + (m : Int) + 1 := by omega
  have z5 : (0 : Int) ≤ (i : Int) + (m : Int) := by omega
  have z6 : ((i : Int) + (m : Int)).toNat = i + m := by omega
  have z7 : ((i : Int) + (m : Int) + 1).toNat = i + m + 1 := by omega
  by_cases hic : i + 1 = c
  · obtain ⟨w1, w2, r1, r2, b2, g2⟩ := hmk ⟨b, 0, none⟩ 0 m rfl (.inl ⟨hic, rfl⟩)
    have z : m = 0 := by omega
    subst z
    have B2 := hide b2
    have G2 := hide g2
    clear b2 g2 hmk
    subst hic
    simp only [Nat.add_zero, Int.natCast_zero, Int.add_zero] at r1 r2 z1 z2 z3 z4 z5 z6 z7 q4 q8 hin1 hc0 hn ⊢
    rw [show i + 1 - i = 1 by omega] at r2
    go_enter Tryd.func29, Tryd.ntmps29
    go_wp2_with fail
    go_region_law (refine step_append_run rfl _ _ _ _ rfl _ _ _ _ rfl rfl r1 ?_)
    go_wp2
    go_ret
    exact ⟨rfl, B2.out, G2.out⟩
  · obtain ⟨w1, w2, r1, r2, b2, g2⟩ := hmk ⟨b, i + 1, none⟩ (c - (i + 1)) m rfl (.inr rfl)
    have B2 := hide b2
    have G2 := hide g2
    have hic' : ¬ (c = i + 1) := by omega
    have q5 : i + 1 ≤ i + m + 1 := by omega
    clear b2 g2 hmk hic
    go_enter Tryd.func29, Tryd.ntmps29
    go_wp2_with fail
    go_region_law (refine step_append_run rfl _ _ _ _ rfl _ _ _ _ rfl rfl r1 ?_)
    go_wp2
    go_ret
    exact ⟨rfl, B2.out, G2.out⟩
end Go.Proofs.YtmogjhljmljpfaaDoor
