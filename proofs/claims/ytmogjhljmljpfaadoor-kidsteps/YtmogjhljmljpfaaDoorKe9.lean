/- Get, Next, Prev, Bytes of a node. -/
import Derived.Test.YtmogjhljmljpfaaDoorKd9
namespace Go.Proofs.YtmogjhljmljpfaaDoor
set_option maxRecDepth 20000
open Go.RowKit Go.Sort
set_option linter.unusedVariables false
section
variable {g s : Nat} {f : Nat → Nat} {K : Nat → Prop} {w : World}

/-- The handle of a byte stands behind those ahead of it. -/
theorem KdF.handle {x0 x1 x2 x3 : Nat} {v : Value} (h : KdF g s f K w x0 x1 x2 x3 v) (b : Nat) (hb : b < 256) (h0 : f b ≠ 0) : ∃ q c, v = .slice (some ⟨q, 0, none⟩) (cntF f) c ∧ (loF f b).length < cntF f ∧ cntF f ≤ c ∧ w.cell? ⟨q, (loF f b).length, none⟩ = some (.int .u32 (f b : Int)) ∧ w.frozen? ⟨q, (loF f b).length, none⟩ = false := by
  have hc := cnt_in f b hb h0
  obtain ⟨q, c, rfl⟩ := owns_slice h.row (by omega)
  have hl : (loF f b).length < cntF f := by omega
  have hcc : cntF f ≤ c := by
    rcases h.row.2 with ⟨e, _⟩ | ⟨q', cap, cur, e, _, _, h1, _⟩
    · simp at e
    · simp only [Value.slice.injEq] at e; omega
  have e1 := h.row.cellAt (loF f b).length (by omega)
  refine ⟨q, c, rfl, hl, hcc, ?_, h.row.frozenAt _⟩
  rw [e1, hs_in f b hb h0, u32s_append]
  rw [List.getElem?_append_right (by rw [u32s_length]; omega), u32s_length, Nat.sub_self]
  rfl

set_option maxHeartbeats 1000000 in
theorem get_any (h : Kd g s f K w) (b : Nat) (hb : b < 256) : Calls Tryd.prog 20 #[.pointer (some ⟨g, 0, none⟩), .int .u8 (b : Int)] w fun r w' => r = .returned (.int .u32 (f b : Int)) ∧ Below w.heap.size w w' := by
  have H := hide h
  obtain ⟨x0, x1, x2, x3, v, h⟩ := h
  obtain ⟨c0, c1, c2, c3, c4, -⟩ := h.cells
  have R := fun w => has4 (m := [x0, x1, x2, x3]) rfl h.ok b hb w
  have ht := h.tl b hb
  rw [ht] at R
  clear h ht
  by_cases h0 : f b = 0
  · have hi : isC f b = false := by simp [isC, h0]
    rw [hi] at R
    rw [h0]
    go_enter Tryd.func20, Tryd.ntmps20
    go_wp2_with (go_at_call 23; refine (R _).mono ?_; rintro e w5 ⟨rfl, f5⟩; have F5 := hide f5; clear f5)
    go_ret
    exact ⟨rfl, F5.out⟩
  · have hi : isC f b = true := by simp [isC, h0]
    rw [hi] at R
    go_enter Tryd.func20, Tryd.ntmps20
    go_wp2_with (go_at_call 23; refine (R _).mono ?_; rintro e w5 ⟨rfl, f5⟩; have F5 := hide f5; clear f5; clear c0 c1 c2 c3 c4)
    have H5 := (Kd.lies g s f).below H.out F5.out
    have P : ∀ d os, Calls Tryd.prog 24 #[.pointer (some ⟨g, 0, none⟩), .int .u8 (b : Int)] (grow (redrawn w5 d) os) fun e w'' => e = .returned (.int .i64 ((loF f b).length : Int)) ∧ ∃ p : Regrown, w'' = grow (redrawn w5 p.d) p.os := fun d os =>
      Calls.regrown_of (place_any ((Kd.lies g s f).below H5 (below_regrown w5 d os)) b hb)
    obtain ⟨y0, y1, y2, y3, v5, h5⟩ := H5
    obtain ⟨q, c, rfl, hl, hcc, hq, hz⟩ := h5.handle b hb h0
    have d5 := cell_regrown (h5.hd.cell 5)
    have dq := cell_regrown hq
    clear h5 hq
    generalize (loF f b).length = k at *
    have hl' : (k : Int) < (cntF f : Int) := by omega
    generalize cntF f = n at *
    refine wp_region_quiet_below (by kernel_rfl) (by kernel_rfl) ?_
    repeat (quiet_step (first | (go_at_call 24; exact P _ _)))
    refine wpQuiet_nil ?_
    intro _ hw'
    obtain ⟨⟨dz, osz⟩, hw''⟩ := hw'
    subst hw''
    go_wp2
    go_ret
    exact ⟨rfl, (fstep F5 (below_regrown w5 dz osz)).out⟩

/-- What a byte that is told, or -1, has. -/
def atF (f : Nat → Nat) (n : Int) : Nat := if n < 0 then 0 else f n.toNat
def nxtF (f : Nat → Nat) (n : Int) : Int := firstUp (fun b => isC f b && decide (n ≤ (b : Int))) 256
def prvF (f : Nat → Nat) (n : Int) : Int := lastIn (fun b => isC f b && decide ((b : Int) ≤ n)) 256
theorem find_congr (p q : Nat → Bool) : ∀ (l : List Nat) (h : ∀ b ∈ l, p b = q b), l.find? p = l.find? q
  | [], _ => rfl
  | x :: l, h => by
    simp only [List.find?_cons, h x (by simp), find_congr p q l (fun b hb => h b (by simp [hb]))]
theorem firstUp_congr (p q : Nat → Bool) (k : Nat) (h : ∀ b, b < k → p b = q b) : firstUp p k = firstUp q k := by
  unfold firstUp
  have : (List.range k).find? p = (List.range k).find? q := find_congr p q _ (fun b hb => h b (List.mem_range.1 hb))
  rw [this]
theorem lastIn_congr (p q : Nat → Bool) : ∀ (k : Nat) (h : ∀ b, b < k → p b = q b), lastIn p k = lastIn q k
  | 0, _ => rfl
  | k + 1, h => by
    simp only [lastIn, h k (by omega), lastIn_congr p q k (fun b hb => h b (by omega))]
theorem nxt_tells {m : List Nat} (h : Tells m f) (n : Int) : nxt m n = nxtF f n := firstUp_congr _ _ _ (fun b hb => by rw [h b hb])
theorem prv_tells {m : List Nat} (h : Tells m f) (n : Int) : prv m n = prvF f n := lastIn_congr _ _ _ (fun b hb => by rw [h b hb])
theorem firstUp_in (p : Nat → Bool) (k : Nat) : firstUp p k = -1 ∨ ∃ b : Nat, firstUp p k = b ∧ b < k ∧ p b = true := by
  unfold firstUp
  cases h : (List.range k).find? p with
  | none => exact .inl rfl
  | some b => exact .inr ⟨b, rfl, List.mem_range.1 (List.mem_of_find?_eq_some h), List.find?_some h⟩
theorem lastIn_in (p : Nat → Bool) : ∀ k, lastIn p k = -1 ∨ ∃ b : Nat, lastIn p k = b ∧ b < k ∧ p b = true
  | 0 => .inl rfl
  | k + 1 => by
    unfold lastIn
    by_cases h : p k = true
    · rw [if_pos h]; exact .inr ⟨k, rfl, by omega, h⟩
    · rw [if_neg h]
      rcases lastIn_in p k with e | ⟨b, e, hb, hp⟩
      · exact .inl e
      · exact .inr ⟨b, e, by omega, hp⟩

set_option maxHeartbeats 1000000 in
theorem child_any (h : Kd g s f K w) (n : Int) (hn : n = -1 ∨ ∃ b : Nat, n = b ∧ b < 256) : Calls Tryd.prog 37 #[.pointer (some ⟨g, 0, none⟩), .int .i64 n] w fun r w' => r = .returned (.tuple #[.int .i64 n, .int .u32 (atF f n : Int)]) ∧ Below w.heap.size w w' := by
  rcases hn with rfl | ⟨b, rfl, hb⟩
  · go_enter Tryd.func37, Tryd.ntmps37
    go_wp2
    refine bodyPost_ret (results_tmp2 rfl _ _ _) rfl ?_
    exact ⟨rfl, Below.refl _ _⟩
  · have e : atF f (b : Int) = f b := by unfold atF; rw [if_neg (by omega)]; simp
    rw [e]
    have G := hide (get_any h b hb)
    have ew : IntKind.u8.wrap (b : Int) = (b : Int) := by rw [IntKind.wrap_u8]; omega
    clear h e
    go_enter Tryd.func37, Tryd.ntmps37
    go_wp2_with (go_at_call 20; refine G.out.mono ?_; rintro e w5 ⟨rfl, f5⟩; have F5 := hide f5; clear f5)
    refine bodyPost_ret (results_tmp2 rfl _ _ _) rfl ?_
    exact ⟨rfl, F5.out⟩

set_option maxHeartbeats 1000000 in
theorem knext_any (h : Kd g s f K w) (T : Tb w) (n : Int) (hn : -9223372036854775808 ≤ n ∧ n ≤ 9223372036854775807) : Calls Tryd.prog 19 #[.pointer (some ⟨g, 0, none⟩), .int .i64 n] w fun r w' => r = .returned (.tuple #[.int .i64 (nxtF f n), .int .u32 (atF f (nxtF f n) : Int)]) ∧ Below w.heap.size w w' := by
  have H := hide h
  obtain ⟨x0, x1, x2, x3, v, h⟩ := h
  obtain ⟨c0, c1, c2, c3, c4, -⟩ := h.cells
  have R := hide (next4 (m := [x0, x1, x2, x3]) rfl h.ok n hn w T.tab (by have := T.two; omega))
  rw [nxt_tells h.tl] at R
  have hin : nxtF f n = -1 ∨ ∃ b : Nat, nxtF f n = b ∧ b < 256 := by
    rcases firstUp_in (fun b => isC f b && decide (n ≤ (b : Int))) 256 with e | ⟨b, e, hb, _⟩
    · exact .inl e
    · exact .inr ⟨b, e, hb⟩
  have HI := hide hin
  clear h hin
  generalize nxtF f n = r at *
  go_enter Tryd.func19, Tryd.ntmps19
  go_wp2_with (first
    | (go_at_call 38; refine R.out.mono ?_; rintro e w5 ⟨rfl, f5⟩; have F5 := hide f5; clear f5)
    | (go_at_call 37; refine (child_any ((Kd.lies g s f).below H.out F5.out) r HI.out).mono ?_; rintro e w6 ⟨rfl, f6⟩; have F6 := hide f6; clear f6))
  refine bodyPost_ret (results_tmp2 rfl _ _ _) rfl ?_
  exact ⟨rfl, (fstep F5 F6.out).out⟩
set_option maxHeartbeats 1000000 in
theorem kprev_any (h : Kd g s f K w) (n : Int) (hn : -9223372036854775808 ≤ n ∧ n ≤ 9223372036854775807) : Calls Tryd.prog 21 #[.pointer (some ⟨g, 0, none⟩), .int .i64 n] w fun r w' => r = .returned (.tuple #[.int .i64 (prvF f n), .int .u32 (atF f (prvF f n) : Int)]) ∧ Below w.heap.size w w' := by
  have H := hide h
  obtain ⟨x0, x1, x2, x3, v, h⟩ := h
  obtain ⟨c0, c1, c2, c3, c4, -⟩ := h.cells
  have R := hide (prev4 (m := [x0, x1, x2, x3]) rfl h.ok n hn w)
  rw [prv_tells h.tl] at R
  have hin : prvF f n = -1 ∨ ∃ b : Nat, prvF f n = b ∧ b < 256 := by
    rcases lastIn_in (fun b => isC f b && decide ((b : Int) ≤ n)) 256 with e | ⟨b, e, hb, _⟩
    · exact .inl e
    · exact .inr ⟨b, e, hb⟩
  have HI := hide hin
  clear h hin
  generalize prvF f n = r at *
  go_enter Tryd.func21, Tryd.ntmps21
  go_wp2_with (first
    | (go_at_call 39; refine R.out.mono ?_; rintro e w5 ⟨rfl, f5⟩; have F5 := hide f5; clear f5)
    | (go_at_call 37; refine (child_any ((Kd.lies g s f).below H.out F5.out) r HI.out).mono ?_; rintro e w6 ⟨rfl, f6⟩; have F6 := hide f6; clear f6))
  refine bodyPost_ret (results_tmp2 rfl _ _ _) rfl ?_
  exact ⟨rfl, (fstep F5 F6.out).out⟩
/-- The bytes that have a child. -/
def bsOf (f : Nat → Nat) : List Nat := (List.range 256).filter (isC f)
set_option maxHeartbeats 1000000 in
theorem kbytes_any (h : Kd g s f K w) (T : Tb w) : Calls Tryd.prog 18 #[.pointer (some ⟨g, 0, none⟩)] w fun r w' => ∃ v, r = .returned v ∧ w'.ownsRow w.heap.size 5 1 v (bsOf f).length (u8s (ints (bsOf f))) ∧ Below w.heap.size w w' := by
  obtain ⟨x0, x1, x2, x3, v, h⟩ := h
  obtain ⟨c0, c1, c2, c3, c4, -⟩ := h.cells
  have R := hide (all4 (m := [x0, x1, x2, x3]) rfl h.ok w T.tab (by have := T.two; omega))
  rw [elems_tells h.tl] at R
  clear h
  go_enter Tryd.func18, Tryd.ntmps18
  go_wp2_with (go_at_call 36; refine R.out.mono ?_; rintro e w5 ⟨va, rfl, o5, f5⟩; have F5 := hide f5; have O5 := hide o5; clear f5 o5)
  go_ret
  exact ⟨va, rfl, O5.out, F5.out⟩
end
end Go.Proofs.YtmogjhljmljpfaaDoor
