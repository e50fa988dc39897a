/- An arena and the document's beside each other: each call of either. -/
import Derived.Test.YtjbpffeembepcaaRefH5
namespace Go.Proofs.Ytjbpffeembepcaa
open Go.RowKit
set_option linter.unusedVariables false
set_option linter.unusedSimpArgs false

/-- What cell x holds. -/
def atH (cs : Cells) (x : Nat) : Option (List Int) := if x = 0 then none else (cs[x - 1]?).join
theorem atH_no {cs : Cells} {x : Nat} (h : noH cs x) : atH cs x = none := by
  unfold atH
  split
  · rfl
  · rcases h with h | h | h
    · omega
    · rw [List.getElem?_eq_none (by omega)]; rfl
    · rw [h]; rfl
theorem atH_has {cs : Cells} {n : Nat} {ws : List Int} (h : cs[n]? = some (some ws)) : atH cs (n + 1) = some ws := by
  unfold atH
  rw [if_neg (by omega), Nat.add_sub_cancel, h]
  rfl
def takeTo (most : Int) (cs : Cells) (back : List Nat) (ws : List Int) : Int × Int × Cells × List Nat :=
  if 64 < ws.length then (0, 2, cs, back)
  else if most = ((cs.length - back.length : Nat) : Int) then (0, 4, cs, back)
  else match back.getLast? with
    | some h => ((h : Int), 0, cs.set (h - 1) (some ws), back.dropLast)
    | none => (((cs.length + 1 : Nat) : Int), 0, cs ++ [some ws], [])
def giveTo (cs : Cells) (back : List Nat) (x : Nat) : Int × Cells × List Nat :=
  match atH cs x with
  | none => (5, cs, back)
  | some _ => (0, cs.set (x - 1) none, back ++ [x])
def getTo (cs : Cells) (x : Nat) (i : Int) : Int × Int :=
  match atH cs x with
  | none => (0, 5)
  | some ws => if i < 0 ∨ (ws.length : Int) ≤ i then (0, 2) else (wAt ws i.toNat, 0)
def setTo (cs : Cells) (x : Nat) (i v : Int) : Int × Cells :=
  match atH cs x with
  | none => (5, cs)
  | some ws => if i < 0 ∨ (ws.length : Int) ≤ i then (2, cs) else (0, cs.set (x - 1) (some (ws.set i.toNat v)))
def sizeTo (cs : Cells) (x : Nat) : Nat := match atH cs x with | none => 0 | some ws => ws.length
theorem nat_succ (n : Nat) : ((n + 1 : Nat) : Int) = (n : Int) + 1 := by omega

section
variable {X : Nat → Prop} {w : World} {ga gr : Nat} {most : Int} {cs cs' : Cells} {back back' : List Nat}
theorem Pair.still (P : Pair X w ga gr most cs back cs' back') {w' : World} (s : Still w w') : Pair X w' ga gr most cs back cs' back' := by
  obtain ⟨n, rfl⟩ := s
  exact P.below ⟨rfl, rfl, rfl, Nat.le_refl _, fun _ _ => rfl⟩
theorem Pair.fit (P : Pair X w ga gr most cs back cs' back') : Good most cs back ∧ Good most cs' back' := by
  obtain ⟨K, _, A, _⟩ := P.arena
  obtain ⟨K', _, R, _⟩ := P.ref
  exact ⟨A.good, R.good⟩
theorem Wd.up {K K' : Nat → Prop} {w : World} {a : Option Addr} {ws : List Int} (h : Wd K w a ws) (hk : ∀ k, K k → K' k) : Wd K' w a ws := by
  rcases h with h | ⟨b, off, e, hb, hc⟩
  · exact .inl h
  · exact .inr ⟨b, off, e, hk b hb, hc⟩

theorem pa_take (P : Pair X w ga gr most cs back cs' back') (a : Option Addr) (ws : List Int) (cap : Nat) (W : Wd X w a ws) :
    Calls Try.prog 11 #[.pointer (some ⟨ga, 0, none⟩), .slice a ws.length cap] w fun e w' => e = .returned (.tuple #[.int .u32 (takeTo most cs back ws).1, .int .i64 (takeTo most cs back ws).2.1]) ∧
      Pair X w' ga gr most (takeTo most cs back ws).2.2.1 (takeTo most cs back ws).2.2.2 cs' back' ∧ Kp X w w' := by
  unfold takeTo
  by_cases h1 : 64 < ws.length
  · simp only [h1, if_true]
    refine (take_long ⟨ga, 0, none⟩ a ws.length cap h1).mono ?_
    rintro e w' ⟨rfl, rfl⟩
    exact ⟨rfl, P, Kp.refl _ _⟩
  simp only [h1, if_false]
  obtain ⟨K, hK, A, B⟩ := P.arena
  by_cases h2 : most = ((cs.length - back.length : Nat) : Int)
  · simp only [if_pos h2]
    refine (take_full A h2 a ws.length cap (by omega)).mono ?_
    rintro e w' ⟨rfl, s⟩
    exact ⟨rfl, P.still s, s.kp X⟩
  simp only [if_neg h2]
  have hlen := A.good.len
  have hbl := A.good.blen
  rcases List.eq_nil_or_concat back with rfl | ⟨back2, h, rfl⟩
  · simp only [List.getLast?_nil]
    refine (take_new A (by simp at h2; omega) a ws cap (W.up hK) (by omega)).mono ?_
    rintro e w' ⟨rfl, A', k⟩
    exact ⟨rfl, B w' _ _ A' k⟩
  · rw [List.concat_eq_append] at A hbl ⊢
    simp only [List.getLast?_append, List.getLast?_singleton, List.dropLast_concat, Option.some_or]
    refine (take_back A a ws cap (W.up hK) (by omega)).mono ?_
    rintro e w' ⟨rfl, A', k⟩
    exact ⟨rfl, B w' _ _ A' k⟩
theorem pr_take (P : Pair X w ga gr most cs back cs' back') (a : Option Addr) (ws : List Int) (cap : Nat) (W : Wd X w a ws) :
    Calls Try.prog 13 #[.pointer (some ⟨gr, 0, none⟩), .slice a ws.length cap] w fun e w' => e = .returned (.tuple #[.int .u32 (takeTo most cs' back' ws).1, .int .i64 (takeTo most cs' back' ws).2.1]) ∧
      Pair X w' ga gr most cs back (takeTo most cs' back' ws).2.2.1 (takeTo most cs' back' ws).2.2.2 ∧ Kp X w w' := by
  unfold takeTo
  by_cases h1 : 64 < ws.length
  · simp only [h1, if_true]
    refine (rtake_long ⟨gr, 0, none⟩ a ws.length cap h1).mono ?_
    rintro e w' ⟨rfl, rfl⟩
    exact ⟨rfl, P, Kp.refl _ _⟩
  simp only [h1, if_false]
  obtain ⟨K, hK, A, B⟩ := P.ref
  by_cases h2 : most = ((cs'.length - back'.length : Nat) : Int)
  · simp only [if_pos h2]
    refine (rtake_full A h2 a ws.length cap (by omega)).mono ?_
    rintro e w' ⟨rfl, s⟩
    exact ⟨rfl, P.still s, s.kp X⟩
  simp only [if_neg h2]
  have hlen := A.good.len
  have hbl := A.good.blen
  rcases List.eq_nil_or_concat back' with rfl | ⟨back2, h, rfl⟩
  · simp only [List.getLast?_nil]
    refine (rtake_new A (by simp at h2; omega) a ws cap (W.up hK) (by omega)).mono ?_
    rintro e w' ⟨rfl, A', k⟩
    exact ⟨rfl, B w' _ _ A' k⟩
  · rw [List.concat_eq_append] at A hbl ⊢
    simp only [List.getLast?_append, List.getLast?_singleton, List.dropLast_concat, Option.some_or]
    refine (rtake_back A a ws cap (W.up hK) (by omega)).mono ?_
    rintro e w' ⟨rfl, A', k⟩
    exact ⟨rfl, B w' _ _ A' k⟩
theorem pa_give (P : Pair X w ga gr most cs back cs' back') (x : Nat) (hx : x < 4294967296) :
    Calls Try.prog 14 #[.pointer (some ⟨ga, 0, none⟩), .int .u32 (x : Int)] w fun e w' => e = .returned (.int .i64 (giveTo cs back x).1) ∧
      Pair X w' ga gr most (giveTo cs back x).2.1 (giveTo cs back x).2.2 cs' back' ∧ Kp X w w' := by
  obtain ⟨K, hK, A, B⟩ := P.arena
  unfold giveTo
  rcases has_or cs x with hn | ⟨n, ws, rfl, hn⟩
  · rw [atH_no hn]
    refine (give_none A x hx hn).mono ?_
    rintro e w' ⟨rfl, rfl⟩
    exact ⟨rfl, P, Kp.refl _ _⟩
  · rw [atH_has hn, nat_succ, Nat.add_sub_cancel]
    refine (give_has A n ws hn).mono ?_
    rintro e w' ⟨rfl, A', k⟩
    exact ⟨rfl, B w' _ _ A' k⟩
theorem pr_give (P : Pair X w ga gr most cs back cs' back') (x : Nat) (hx : x < 4294967296) :
    Calls Try.prog 15 #[.pointer (some ⟨gr, 0, none⟩), .int .u32 (x : Int)] w fun e w' => e = .returned (.int .i64 (giveTo cs' back' x).1) ∧
      Pair X w' ga gr most cs back (giveTo cs' back' x).2.1 (giveTo cs' back' x).2.2 ∧ Kp X w w' := by
  obtain ⟨K, hK, A, B⟩ := P.ref
  unfold giveTo
  rcases has_or cs' x with hn | ⟨n, ws, rfl, hn⟩
  · rw [atH_no hn]
    obtain ⟨rs, h1, ⟨k0, vc, vb, ac, k1⟩, G⟩ := A
    have hl := absR_len h1
    have hlen := G.len
    have hlim := G.lim
    refine (rgive_none ac (by omega) x hx (absR_none h1 hn)).mono ?_
    rintro e w' ⟨rfl, rfl⟩
    exact ⟨rfl, P, Kp.refl _ _⟩
  · rw [atH_has hn, nat_succ, Nat.add_sub_cancel]
    refine (r_give_has A n ws hn).mono ?_
    rintro e w' ⟨rfl, A', k⟩
    exact ⟨rfl, B w' _ _ A' k⟩
theorem pa_get (P : Pair X w ga gr most cs back cs' back') (x : Nat) (hx : x < 4294967296) (i : Int) :
    Calls Try.prog 16 #[.pointer (some ⟨ga, 0, none⟩), .int .u32 (x : Int), .int .i64 i] w fun e w' => e = .returned (.tuple #[.int .u64 (getTo cs x i).1, .int .i64 (getTo cs x i).2]) ∧ w' = w := by
  obtain ⟨K, hK, A, B⟩ := P.arena
  unfold getTo
  rcases has_or cs x with hn | ⟨n, ws, rfl, hn⟩
  · rw [atH_no hn]
    exact a_get_none A x hx i hn
  · rw [atH_has hn, nat_succ]
    by_cases hi : i < 0 ∨ (ws.length : Int) ≤ i
    · simp only [if_pos hi]
      exact a_get_out A n i ws hn hi
    · simp only [if_neg hi]
      have h := a_get A n i.toNat ws hn (by omega)
      rw [show ((i.toNat : Nat) : Int) = i by omega] at h
      exact h
theorem pr_word (P : Pair X w ga gr most cs back cs' back') (x : Nat) (hx : x < 4294967296) (i v : Int) :
    Calls Try.prog 17 #[.pointer (some ⟨gr, 0, none⟩), .int .u32 (x : Int), .int .i64 i, .int .u64 v, .bool false] w fun e w' => e = .returned (.tuple #[.int .u64 (getTo cs' x i).1, .int .i64 (getTo cs' x i).2]) ∧ w' = w := by
  obtain ⟨K, hK, A, B⟩ := P.ref
  obtain ⟨rs, h1, ⟨k0, vc, vb, ac, k1⟩, G⟩ := A
  have hl := absR_len h1
  have hlen := G.len
  have hlim := G.lim
  unfold getTo
  rcases has_or cs' x with hn | ⟨n, ws, rfl, hn⟩
  · rw [atH_no hn]
    exact rword_none ac (by omega) x hx (absR_none h1 hn) i v false
  · rw [atH_has hn]
    obtain ⟨v0, hr⟩ := absR_has h1 hn
    by_cases hi : i < 0 ∨ (ws.length : Int) ≤ i
    · simp only [if_pos hi]
      exact rword_out ac (by omega) (n + 1) hx v0 ws hr i v hi false
    · simp only [if_neg hi]
      have h := rword_get ac (by omega) (n + 1) hx v0 ws hr i.toNat v (by omega)
      rw [show ((i.toNat : Nat) : Int) = i by omega] at h
      exact h
theorem pa_set (P : Pair X w ga gr most cs back cs' back') (x : Nat) (hx : x < 4294967296) (i v : Int) :
    Calls Try.prog 18 #[.pointer (some ⟨ga, 0, none⟩), .int .u32 (x : Int), .int .i64 i, .int .u64 v] w fun e w' => e = .returned (.int .i64 (setTo cs x i v).1) ∧ Pair X w' ga gr most (setTo cs x i v).2 back cs' back' ∧ Kp X w w' := by
  obtain ⟨K, hK, A, B⟩ := P.arena
  unfold setTo
  rcases has_or cs x with hn | ⟨n, ws, rfl, hn⟩
  · rw [atH_no hn]
    refine (a_set_none A x hx i v hn).mono ?_
    rintro e w' ⟨rfl, rfl⟩
    exact ⟨rfl, P, Kp.refl _ _⟩
  · rw [atH_has hn, nat_succ, Nat.add_sub_cancel]
    by_cases hi : i < 0 ∨ (ws.length : Int) ≤ i
    · simp only [if_pos hi]
      refine (a_set_out A n i v ws hn hi).mono ?_
      rintro e w' ⟨rfl, rfl⟩
      exact ⟨rfl, P, Kp.refl _ _⟩
    · simp only [if_neg hi]
      have h := a_set A n i.toNat v ws hn (by omega)
      rw [show ((i.toNat : Nat) : Int) = i by omega] at h
      refine h.mono ?_
      rintro e w' ⟨rfl, A', k⟩
      exact ⟨rfl, B w' _ _ A' k⟩
theorem Good.setW {most : Int} {cs : Cells} {back : List Nat} (G : Good most cs back) (n : Nat) (ws ws' : List Int) (hn : cs[n]? = some (some ws)) : Good most (cs.set n (some ws')) back := by
  have hlt := (List.getElem?_eq_some_iff.1 hn).1
  refine ⟨by rw [List.length_set]; exact G.len, G.lim, ?_, fun h hh => ⟨(G.free h hh).1, ?_⟩, G.nodup⟩
  · rw [G.cnt]
    have h1 : cs.set n (some ws') = cs.take n ++ some ws' :: cs.drop (n + 1) := List.set_eq_take_append_cons_drop .. |>.trans (by rw [if_pos hlt])
    have h2 : cs = cs.take n ++ some ws :: cs.drop (n + 1) := by
      have e := (List.getElem?_eq_some_iff.1 hn).2
      rw [← e, List.getElem_cons_drop, List.take_append_drop]
    rw [h1]
    conv => lhs; rw [h2]
    simp [List.countP_append, List.countP_cons]
  · have h0 := (G.free h hh).2
    rw [List.getElem?_set]
    split
    · rename_i e
      rw [← e, hn] at h0
      simp at h0
    · exact h0
theorem pr_set (P : Pair X w ga gr most cs back cs' back') (x : Nat) (hx : x < 4294967296) (i v : Int) :
    Calls Try.prog 17 #[.pointer (some ⟨gr, 0, none⟩), .int .u32 (x : Int), .int .i64 i, .int .u64 v, .bool true] w fun e w' => e = .returned (.tuple #[.int .u64 0, .int .i64 (setTo cs' x i v).1]) ∧ Pair X w' ga gr most cs back (setTo cs' x i v).2 back' ∧ Kp X w w' := by
  obtain ⟨K, hK, A, B⟩ := P.ref
  obtain ⟨rs, h1, ⟨k0, vc, vb, ac, k1⟩, G⟩ := A
  have hl := absR_len h1
  have hlen := G.len
  have hlim := G.lim
  unfold setTo
  rcases has_or cs' x with hn | ⟨n, ws, rfl, hn⟩
  · rw [atH_no hn]
    refine (rword_none ac (by omega) x hx (absR_none h1 hn) i v true).mono ?_
    rintro e w' ⟨rfl, rfl⟩
    exact ⟨rfl, P, Kp.refl _ _⟩
  · rw [atH_has hn, Nat.add_sub_cancel]
    obtain ⟨v0, hr⟩ := absR_has h1 hn
    by_cases hi : i < 0 ∨ (ws.length : Int) ≤ i
    · simp only [if_pos hi]
      refine (rword_out ac (by omega) (n + 1) hx v0 ws hr i v hi true).mono ?_
      rintro e w' ⟨rfl, rfl⟩
      exact ⟨rfl, P, Kp.refl _ _⟩
    · simp only [if_neg hi]
      have h := rword_set ac (by omega) (n + 1) hx v0 ws hr i.toNat v (by omega)
      rw [show ((i.toNat : Nat) : Int) = i by omega] at h
      refine h.mono ?_
      rintro e w' ⟨rfl, q, capq, rfl, rfl⟩
      have a2 := ac.setW hr i.toNat v
      have nK : ¬ K q := k1 q (.inr (.inr (.inr ⟨n + 1, _, ws, hr, rfl⟩)))
      refine ⟨rfl, B _ _ _ ⟨_, ?_, ⟨fun k hk => by have := k0 k hk; simp [World.setCell]; omega, vc, vb, a2, ?_⟩, G.setW n ws _ hn⟩ ((Kp.refl K w).setCell _ _ _ nK)⟩
      · unfold absR
        rw [List.map_set]
        show (absR rs).set (n + 1) (some (ws.set i.toNat v)) = _
        rw [h1, List.set_cons_succ]
      · rintro k (hk | hk | hk | ⟨j, v', ws', hj, e2⟩)
        · exact k1 k (.inl hk)
        · exact k1 k (.inr (.inl hk))
        · exact k1 k (.inr (.inr (.inl hk)))
        · rw [List.getElem?_set] at hj
          split at hj
          · rename_i e
            subst e
            have hlt := (List.getElem?_eq_some_iff.1 hr).1
            simp only [hlt, if_true, Option.some.injEq, Prod.mk.injEq] at hj
            rw [← hj.1] at e2
            exact k1 k (.inr (.inr (.inr ⟨n + 1, _, ws, hr, e2⟩)))
          · exact k1 k (.inr (.inr (.inr ⟨j, v', ws', hj, e2⟩)))
theorem pa_size (P : Pair X w ga gr most cs back cs' back') (x : Nat) (hx : x < 4294967296) :
    Calls Try.prog 20 #[.pointer (some ⟨ga, 0, none⟩), .int .u32 (x : Int)] w fun e w' => e = .returned (.int .i64 (sizeTo cs x : Int)) ∧ w' = w := by
  obtain ⟨K, hK, A, B⟩ := P.arena
  unfold sizeTo
  rcases has_or cs x with hn | ⟨n, ws, rfl, hn⟩
  · rw [atH_no hn]
    exact a_size_none A x hx hn
  · rw [atH_has hn, nat_succ]
    exact a_size A n ws hn
theorem pr_there (P : Pair X w ga gr most cs back cs' back') (x : Nat) (hx : x < 4294967296) :
    Calls Try.prog 19 #[.pointer (some ⟨gr, 0, none⟩), .int .u32 (x : Int)] w fun e w' => e = .returned (.bool (atH cs' x).isSome) ∧ w' = w := by
  obtain ⟨K, hK, ⟨rs, h1, ⟨k0, vc, vb, ac, k1⟩, G⟩, B⟩ := P.ref
  have hl := absR_len h1
  have hlen := G.len
  have hlim := G.lim
  have T := rthere ac (by omega) x hx
  rcases has_or cs' x with hn | ⟨n, ws, rfl, hn⟩
  · rw [atH_no hn]
    rw [absR_none h1 hn] at T
    exact T
  · rw [atH_has hn]
    obtain ⟨v0, hr⟩ := absR_has h1 hn
    rw [hasR_some hr] at T
    exact T
theorem pr_cell (P : Pair X w ga gr most cs back cs' back') (x : Nat) (ws : List Int) (h : atH cs' x = some ws) : ∃ gc cap rl a capw, w.cell? ⟨gr, 0, none⟩ = some (.slice (some ⟨gc, 0, none⟩) rl cap) ∧ x < rl ∧ w.cell? ⟨gc, x * 2, none⟩ = some (.slice a ws.length capw) := by
  obtain ⟨K, hK, ⟨rs, h1, ⟨k0, vc, vb, ac, k1⟩, G⟩, B⟩ := P.ref
  rcases has_or cs' x with hn | ⟨n, ws', rfl, hn⟩
  · rw [atH_no hn] at h
    cases h
  · rw [atH_has hn] at h
    cases h
    obtain ⟨v0, hr⟩ := absR_has h1 hn
    obtain ⟨gc, cap, a, capw, rfl, rfl, hlt, c0, c1⟩ := ac.word hr
    exact ⟨gc, cap, rs.length, a, capw, c0, hlt, c1⟩
theorem pa_live (P : Pair X w ga gr most cs back cs' back') : Calls Try.prog 21 #[.pointer (some ⟨ga, 0, none⟩)] w fun e w' => e = .returned (.int .i64 ((cs.length - back.length : Nat) : Int)) ∧ Still w w' := by
  obtain ⟨K, hK, A, B⟩ := P.arena
  exact a_live A
theorem pa_free (P : Pair X w ga gr most cs back cs' back') : Calls Try.prog 23 #[.pointer (some ⟨ga, 0, none⟩)] w fun e w' => e = .returned (.int .i64 (most - ((cs.length - back.length : Nat) : Int))) ∧ Still w w' := by
  obtain ⟨K, hK, A, B⟩ := P.arena
  exact a_free A
theorem pr_live (P : Pair X w ga gr most cs back cs' back') : Calls Try.prog 22 #[.pointer (some ⟨gr, 0, none⟩)] w fun e w' => e = .returned (.int .i64 ((cs'.length - back'.length : Nat) : Int)) ∧ Still w w' := by
  obtain ⟨K, hK, A, B⟩ := P.ref
  exact r_live A
theorem Kp.all {w w' : World} (h : Kp (fun k => k < w.heap.size) w w') : Below w.heap.size w w' := ⟨h.os, h.tape, h.output, h.size, fun k hk => h.block k hk hk⟩
theorem pa_handles (P : Pair X w ga gr most cs back cs' back') : Calls Try.prog 25 #[.pointer (some ⟨ga, 0, none⟩)] w fun e w' => ∃ a cap, e = .returned (.slice a (hOf cs cs.length).length cap) ∧ w'.ownsRow w.heap.size 28 1 (.slice a (hOf cs cs.length).length cap) (hOf cs cs.length).length (u32s (hOf cs cs.length)) ∧ Below w.heap.size w w' := by
  obtain ⟨K, hK, A, B⟩ := P.arena
  exact (a_handles A).mono fun e w' ⟨a, cap, h1, h2, h3⟩ => ⟨a, cap, h1, h2, h3.all⟩
theorem pr_handles (P : Pair X w ga gr most cs back cs' back') : Calls Try.prog 26 #[.pointer (some ⟨gr, 0, none⟩)] w fun e w' => ∃ a cap, e = .returned (.slice a (hOf cs' cs'.length).length cap) ∧ w'.ownsRow w.heap.size 28 1 (.slice a (hOf cs' cs'.length).length cap) (hOf cs' cs'.length).length (u32s (hOf cs' cs'.length)) ∧ Below w.heap.size w w' := by
  obtain ⟨K, hK, A, B⟩ := P.ref
  exact (r_handles A).mono fun e w' ⟨a, cap, h1, h2, h3⟩ => ⟨a, cap, h1, h2, h3.all⟩
end
end Go.Proofs.Ytjbpffeembepcaa
