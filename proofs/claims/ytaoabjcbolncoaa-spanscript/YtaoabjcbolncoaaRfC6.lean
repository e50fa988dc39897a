/- The document's pool: Cut. -/
import Derived.Test.YtaoabjcbolncoaaRfB6
namespace Go.Proofs.Ytaoabjcbolncoaa
open Go.RowKit
set_option linter.unusedVariables false
set_option linter.unusedSimpArgs false

/-- append as a step of a region that draws, by its run. -/
theorem step_append_run {P : Program} {w : World} {ops : Array Oper} {o : Oper} {a : Act} {K : Act → World → Prop} {Q : Exit → Act → World → Prop} {E : Prop} (hgd : Region.wanted o (yielded ops a.tmps) = true) (s x : Operand) (t tx : TypeId)
    (ho : o.op = .call { callee := .builtin .append, args := #[s, x], argTypes := #[t, tx] }) (v x' v' : Value) (w' : World) (hs : a.eval s = v) (hx : a.eval x = x')
    (hr : (Builtin.append_ #[t, tx] o.type #[v, x']).run P w = .ok v' w') (h : K (a.put o.dst v') w') : if Region.wanted o (yielded ops a.tmps) = true then Oper.wp P o a w K Q else E := by
  rw [if_pos hgd]
  unfold Oper.wp execOp
  simp only [ho, resolve, invoke, builtin, Sem.run_bind, Sem.run_pure, Result.andThen_ok, List.map_toArray, List.map_cons, List.map_nil, hs, hx, hr]
  exact h
/-- append([]byte(nil), b...). -/
theorem copy_bytes {w : World} {a : Option Addr} {xs : List Int} (h : Rd w a xs) (c : Nat) (hl : xs.length ≤ 16777216) :
    ∃ v' w', (Builtin.append_ #[29, 29] 29 #[.slice none 0 0, .slice a xs.length c]).run Try.prog w = .ok v' w' ∧ w'.ownsRow w.heap.size 5 1 v' xs.length (u8s xs) ∧ Below w.heap.size w w' := by
  obtain ⟨v', w', r, o, gr, hb, _, _⟩ := append_u8 w 29 29 w.heap.size (.slice none 0 0) 0 [] (World.ownsRow_nil w w.heap.size _ 1) _ xs.length _ (h.src Try.underlying29 c) (by omega) (Nat.le_refl _)
  rw [Nat.zero_add, List.nil_append] at o
  exact ⟨v', w', r, o, gr.os, gr.tape, gr.output, gr.size, fun k hk => gr.block k hk (fun e => by simp [Value.ownBlock] at e)⟩
theorem owns_zero {w : World} {base : Nat} {e : TypeId} {size : Nat} {v : Value} {n : Nat} {xs : List Value} (h : w.ownsRow base e size v n xs) : w.ownsRow 0 e size v n xs := by
  refine ⟨h.1, ?_⟩
  rcases h.2 with hn | ⟨g, cap, cur, rfl, hg, rest⟩
  · exact .inl hn
  · exact .inr ⟨g, cap, cur, rfl, Nat.zero_le _, rest⟩
/-- The rest of a slice of one's own, from its n-th byte on. -/
theorem own_from {w : World} {base : Nat} {e : TypeId} {a : Option Addr} {c n : Nat} {xs : List Int} (o : w.ownsRow base e 1 (.slice a n c) n (u8s xs)) (hb : IsBytes xs) : (a = none ∧ n = 0 ∧ c = 0) ∨ (∃ g, a = some ⟨g, 0, none⟩ ∧ n ≤ c ∧ ∀ m, Rd w (some ⟨g, m, none⟩) (xs.drop m)) := by
  rcases o.2 with ⟨h, h0⟩ | ⟨g, cap, cur, h, hbg, hg, hnc, hcm, hcs, htake⟩
  · simp only [Value.slice.injEq] at h
    exact .inl ⟨h.1, h.2.1, h.2.2⟩
  · simp only [Value.slice.injEq] at h
    obtain ⟨rfl, -, rfl⟩ := h
    refine .inr ⟨g, rfl, hnc, fun m => ?_⟩
    obtain ⟨a', c', e', hr, _⟩ := owns_rd o hb
    simp only [Value.slice.injEq] at e'
    obtain ⟨rfl, -, -⟩ := e'
    have := hr.drop m
    rwa [Nat.zero_add] at this

set_option maxHeartbeats 1600000 in
/-- The walk, where the rest begins at b'. -/
theorem rcut_walk {w : World} {g gs cas N rl L m c0 c' : Nat} {a0 b' : Option Addr} {u u2 : Int} {rest : Nat} (T : Calls Try.prog 19 #[.pointer (some ⟨g, 0, none⟩), .int .u32 (N : Int)] w fun e w' => e = .returned (.bool true) ∧ w' = w)
    (x0 : w.cell? ⟨g, 0, none⟩ = some (.slice (some ⟨gs, 0, none⟩) rl cas)) (x4 : w.cell? ⟨gs, N, none⟩ = some (.slice a0 L c0)) (hN : N < rl) (hm : m ≤ L) (hLc : L ≤ c0) (hL : L ≤ 16777216)
    (hb : a0 = none ∧ L = 0 ∧ c0 = 0 ∧ b' = none ∧ c' = 0 ∨ ∃ q, a0 = some ⟨q, 0, none⟩ ∧ (c0 = m ∧ b' = some ⟨q, 0, none⟩ ∧ c' = 0 ∨ c0 ≠ m ∧ b' = some ⟨q, m, none⟩ ∧ c' = c0 - m))
    {P : World → Prop} (R : ∀ W, Still w W → ∃ av capv w', (Builtin.append_ #[29, 29] 29 #[.slice none 0 0, .slice b' (L - m) c']).run Try.prog W = .ok (.slice av (L - m) capv) w' ∧
      w'.cell? ⟨g, 0, none⟩ = some (.slice (some ⟨gs, 0, none⟩) rl cas) ∧ (∃ y, w'.cell? ⟨gs, N, none⟩ = some y) ∧ w'.frozen? ⟨gs, N, none⟩ = false ∧ w'.cell? ⟨g, 4, none⟩ = some (.int .i64 u) ∧ w'.frozen? ⟨g, 4, none⟩ = false ∧ P ((w'.setCell ⟨gs, N, none⟩ (.slice av (L - m) capv)).setCell ⟨g, 4, none⟩ (.int .i64 u2)))
    (hud : u - (m : Int) = u2) (e1 : wrap64 u2 = u2) (e2 : IntKind.i64.wrap u2 = u2) (n1 : ¬ gs = g) (n1' : ¬ g = gs) :
    Calls Try.prog 15 #[.pointer (some ⟨g, 0, none⟩), .int .u32 (N : Int), .int .i64 (m : Int)] w fun e w' => e = .returned (.int .i64 0) ∧ P w' := by
  have hNi : (N : Int) < (rl : Int) := by omega
  have hmi : ¬ ((L : Int) < (m : Int)) := by omega
  obtain ⟨av, capv, w', r, y0, ⟨y, y1⟩, y2, y3, y4, hP⟩ := R w.drew ⟨1, rfl⟩
  have HP := hide hP
  clear R hP
  rcases hb with ⟨rfl, hL0, rfl, rfl, rfl⟩ | ⟨q, rfl, ⟨rfl, rfl, rfl⟩ | ⟨hcm, rfl, rfl⟩⟩
  · subst hL0
    obtain rfl : m = 0 := by omega
    obtain rfl : u = u2 := by simpa using hud
    go_enter Try.func15, Try.ntmps15
    go_wp2_with fail
    refine T.mono ?_
    rintro e w1 ⟨rfl, rfl⟩
    go_wp2_with fail
    go_region_law (refine step_append_run rfl _ _ _ _ rfl _ _ _ _ rfl rfl r ?_)
    all_goals (
      go_wp2_with fail
      go_ret
      exact ⟨rfl, HP.out⟩)
  · obtain rfl : L = c0 := by omega
    rw [Nat.sub_self] at r HP
    go_enter Try.func15, Try.ntmps15
    go_wp2_with fail
    refine T.mono ?_
    rintro e w1 ⟨rfl, rfl⟩
    go_wp2_with fail
    go_region_law (refine step_append_run rfl _ _ _ _ rfl _ _ _ _ rfl rfl r ?_)
    all_goals (
      go_wp2_with fail
      go_ret
      exact ⟨rfl, HP.out⟩)
  · skip
    go_enter Try.func15, Try.ntmps15
    go_wp2_with fail
    refine T.mono ?_
    rintro e w1 ⟨rfl, rfl⟩
    go_wp2_with fail
    go_region_law (refine step_append_run rfl _ _ _ _ rfl _ _ _ _ rfl rfl r ?_)
    all_goals (
      go_wp2_with fail
      go_ret
      exact ⟨rfl, HP.out⟩)
theorem set_same {α : Type} (l : List α) (i : Nat) (a : α) (h : l[i]? = some a) : l.set i a = l := by
  apply List.ext_getElem?
  intro j
  rw [List.getElem?_set]
  by_cases e : i = j
  · subst e
    rw [if_pos rfl, if_pos (List.getElem?_eq_some_iff.1 h).1, h]
  · rw [if_neg e]
theorem rcut_has {K : Nat → Prop} {w : World} {g : Nat} {most : Int} {cs : Strs} {back : List Nat} (A : Rf g most cs back K w) (hc : cs.length ≤ 2147483648) (n m : Nat) (xs : List Int) (hn : cs[n]? = some (some xs)) (hm : m ≤ xs.length) :
    Calls Try.prog 15 #[.pointer (some ⟨g, 0, none⟩), .int .u32 ((n : Int) + 1), .int .i64 (m : Int)] w fun e w' => e = .returned (.int .i64 0) ∧ Rf g most (cs.set n (some (xs.drop m))) back K w' ∧ Kp K w w' := by
  have hlt0 := (List.getElem?_eq_some_iff.1 hn).1
  have T := r_has A hc (n + 1) (by omega)
  rw [atH_has hn] at T
  have G := A.good
  have hgl := G.len hn
  obtain ⟨rs, h1, ⟨k0, vs, vt, vb, a, kk⟩, -⟩ := A
  have hl := absR_len h1
  obtain ⟨v0, hr⟩ := absR_has h1 hn
  obtain ⟨gs, cas, rfl⟩ := owns_slice a.ss (by omega)
  have ow := a.words _ _ _ hr
  obtain ⟨a0, c0, rfl⟩ := owns_slice' ow.1
  have ht := total_set cs n (some xs) (some (xs.drop m)) hn
  have htl := total_get cs n _ hn
  simp only [lenO, List.length_drop] at ht htl
  have hroom := G.room
  have hlim := G.lim
  have hNl : n + 1 < rs.length := by omega
  have n1 : ¬ gs = g := fun e => owns_apart a.ss a.blk (by decide) (by rw [e]; rfl)
  have hd : (xs.drop m).length = xs.length - m := by simp
  have key : ∃ b' c', (a0 = none ∧ xs.length = 0 ∧ c0 = 0 ∧ b' = none ∧ c' = 0 ∨ ∃ q, a0 = some ⟨q, 0, none⟩ ∧ (c0 = m ∧ b' = some ⟨q, 0, none⟩ ∧ c' = 0 ∨ c0 ≠ m ∧ b' = some ⟨q, m, none⟩ ∧ c' = c0 - m)) ∧ Rd w b' (xs.drop m) ∧ xs.length ≤ c0 := by
    rcases own_from ow.1 ow.2 with ⟨e1, e2, e3⟩ | ⟨q, e1, e2, e3⟩
    · exact ⟨none, 0, .inl ⟨e1, e2, e3, rfl, rfl⟩, by rw [List.eq_nil_of_length_eq_zero (show (xs.drop m).length = 0 by omega)]; exact Rd.nil _ _, by omega⟩
    · by_cases hcm : c0 = m
      · exact ⟨_, _, .inr ⟨q, e1, .inl ⟨hcm, rfl, rfl⟩⟩, by rw [List.eq_nil_of_length_eq_zero (show (xs.drop m).length = 0 by omega)]; exact Rd.nil _ _, e2⟩
      · exact ⟨_, _, .inr ⟨q, e1, .inr ⟨hcm, rfl, rfl⟩⟩, e3 m, e2⟩
  obtain ⟨b', c', hb, hrd, hLc⟩ := key
  obtain ⟨u2, hu2⟩ : ∃ u2 : Int, u2 = (total (cs.set n (some (xs.drop m))) : Int) := ⟨_, rfl⟩
  rw [← nat_succ]
  refine rcut_walk (N := n + 1) (rl := rs.length) (L := xs.length) (u := (total cs : Int)) (u2 := u2) (rest := 0) T (a.blk.cell 0) ((a.ss.cellAt (n + 1) (by simpa using hNl)).trans (by rw [List.getElem?_map, hr]; rfl)) hNl hm hLc (by omega) hb
    (P := fun w' => Rf g most (cs.set n (some (xs.drop m))) back K w' ∧ Kp K w w') ?_ (by omega) (wrap64_in _ (by omega)) (by rw [IntKind.wrap_i64]; omega) n1 (fun e => n1 e.symm)
  intro W s
  have aW := a.still s
  have rW : Rd W b' (xs.drop m) := by obtain ⟨nn, rfl⟩ := s; exact hrd
  obtain ⟨v', w', r, o, f⟩ := copy_bytes rW c' (by omega)
  obtain ⟨av, capv, rfl⟩ := owns_slice' o
  have hsz : W.heap.size = w.heap.size := by obtain ⟨nn, rfl⟩ := s; rfl
  have a' : RfC w' g most (total cs) rs back (.slice (some ⟨gs, 0, none⟩) rs.length cas) vt vb := aW.same (fun k hk => f.block k (aW.lt hk))
  have nKs : ¬ K gs := kk gs (.inr (.inl rfl))
  have nG : ¬ K g := kk g (.inl rfl)
  have kp : Kp K w w' := (s.kp K).trans ((Kp.of_below f).mono (fun k hk => by have := k0 k hk; omega))
  have hob : ∀ q, Value.ownBlock (.slice av (xs.drop m).length capv) = some q → w.heap.size ≤ q := fun q hq => by have := (o.lt q hq).1; omega
  have s1 := (a'.ss.stored (n + 1) (.slice av (xs.drop m).length capv)).1
  have e1 : (rs.map sCell).set (n + 1) (.slice av (xs.drop m).length capv) = (rs.set (n + 1) (some (.slice av (xs.drop m).length capv, xs.drop m))).map sCell := map_set_cell sCell rs (n + 1) (some (.slice av (xs.drop m).length capv, xs.drop m))
  rw [e1] at s1
  have sm : ∀ k, k ≠ gs → (w'.setCell ⟨gs, n + 1, none⟩ (.slice av (xs.drop m).length capv)).heap[k]? = w'.heap[k]? := fun k hk => Below.heap_setCell _ ⟨gs, n + 1, none⟩ _ k hk
  have t1 : (w'.setCell ⟨gs, n + 1, none⟩ (.slice av (xs.drop m).length capv)).ownsRow 0 4 1 vt rs.length ((rs.set (n + 1) (some (.slice av (xs.drop m).length capv, xs.drop m))).map tCell) := by
    have e2 : (rs.set (n + 1) (some (.slice av (xs.drop m).length capv, xs.drop m))).map tCell = rs.map tCell := by
      rw [List.map_set]
      exact set_same _ _ _ (by rw [List.getElem?_map, hr]; rfl)
    rw [e2]
    exact owns_same a'.ts (fun k hk => sm k (fun e => owns_apart2 a'.ts a'.ss (by decide) k hk (by rw [e]; rfl)))
  have p := (a'.turn (r := some (.slice av (xs.drop m).length capv, xs.drop m)) hNl s1 t1 (fun k _ h2 _ => sm k (fun e => h2 (by rw [e]; rfl))) (fun v ws e => by
      simp only [Option.some.injEq, Prod.mk.injEq] at e
      obtain ⟨rfl, rfl⟩ := e
      exact ⟨owns_same (owns_zero o) (fun k hk => sm k (fun e => owns_apart2 (owns_zero o) a'.ss (by decide) k hk (by rw [e]; rfl))), fun x hx => ow.2 x (List.mem_of_mem_drop hx)⟩) (fun v ws q e eq i v2 ws2 hi hj e2 => by
      simp only [Option.some.injEq, Prod.mk.injEq] at e
      obtain ⟨rfl, rfl⟩ := e
      have h3 := hob q eq
      have h4 := a.lt (.inr (.inr (.inr (.inr ⟨i, v2, ws2, hj, e2⟩))))
      omega)).use u2
  rw [hd] at r p
  refine ⟨av, capv, w', r, a'.blk.cell 0, ⟨_, a'.ss.cellAt (n + 1) (by simpa using hNl) |>.trans (List.getElem?_eq_getElem (by simpa using hNl))⟩, a'.ss.frozenAt _, a'.blk.cell 4, a'.blk.frozen 4, ⟨_, ?_, ⟨fun k hk => by have := k0 k hk; have := kp.size; simp [World.setCell]; omega, _, _, _, by rw [← hu2]; exact p, ?_⟩, G.less n _ _ hn (fun x hx => ow.2 x (List.mem_of_mem_drop hx)) (by omega)⟩, (kp.setCell _ _ _ nKs).setCell _ _ _ nG⟩
  · unfold absR
    rw [List.map_set]
    show (absR rs).set (n + 1) (some (xs.drop m)) = _
    rw [h1, List.set_cons_succ]
  · rintro k (hk | hk | hk | hk | ⟨j, v1, ws', hj, e⟩)
    · exact kk k (.inl hk)
    · exact kk k (.inr (.inl hk))
    · exact kk k (.inr (.inr (.inl hk)))
    · exact kk k (.inr (.inr (.inr (.inl hk))))
    · rw [List.getElem?_set] at hj
      split at hj
      · simp only [hNl, if_true, Option.some.injEq, Prod.mk.injEq] at hj
        rw [← hj.1, ← hd] at e
        intro hK
        have := k0 k hK
        have := hob k e
        omega
      · exact kk k (.inr (.inr (.inr (.inr ⟨j, v1, ws', hj, e⟩))))
section
variable {K : Nat → Prop} {w : World} {g : Nat} {most : Int} {cs : Strs} {back : List Nat}
theorem rcut_none (A : Rf g most cs back K w) (hc : cs.length ≤ 2147483648) (x : Nat) (hx : x < 4294967296) (m : Int) (hn : noH cs x) :
    Calls Try.prog 15 #[.pointer (some ⟨g, 0, none⟩), .int .u32 (x : Int), .int .i64 m] w fun e w' => e = .returned (.int .i64 5) ∧ w' = w := by
  have T := r_has A hc x hx
  rw [atH_no hn] at T
  clear A hc hn
  go_enter Try.func15, Try.ntmps15
  go_wp2_with fail
  refine T.mono ?_
  rintro e w1 ⟨rfl, rfl⟩
  go_wp2_with fail
  go_ret
  exact ⟨rfl, rfl⟩
theorem r_at (A : Rf g most cs back K w) (n : Nat) (xs : List Int) (hn : cs[n]? = some (some xs)) : ∃ gs cap rl a c, w.cell? ⟨g, 0, none⟩ = some (.slice (some ⟨gs, 0, none⟩) rl cap) ∧ n + 1 < rl ∧ w.cell? ⟨gs, n + 1, none⟩ = some (.slice a xs.length c) ∧ Rd w a xs := by
  obtain ⟨rs, h1, ⟨k0, vs, vt, vb, a, kk⟩, G⟩ := A
  have hlt0 := (List.getElem?_eq_some_iff.1 hn).1
  have hl := absR_len h1
  obtain ⟨v0, hr⟩ := absR_has h1 hn
  obtain ⟨gs, cas, rfl⟩ := owns_slice a.ss (by omega)
  have ow := a.words _ _ _ hr
  obtain ⟨a0, c0, rfl⟩ := owns_slice' ow.1
  obtain ⟨a', c', e', hrd, _⟩ := owns_rd ow.1 ow.2
  simp only [Value.slice.injEq] at e'
  obtain ⟨rfl, -, -⟩ := e'
  exact ⟨gs, cas, rs.length, a0, c0, a.blk.cell 0, by omega, (a.ss.cellAt (n + 1) (by simp; omega)).trans (by rw [List.getElem?_map, hr]; rfl), hrd⟩
theorem rcut_out (A : Rf g most cs back K w) (hc : cs.length ≤ 2147483648) (n : Nat) (m : Int) (xs : List Int) (hn : cs[n]? = some (some xs)) (hm : m < 0 ∨ (xs.length : Int) < m) :
    Calls Try.prog 15 #[.pointer (some ⟨g, 0, none⟩), .int .u32 ((n : Int) + 1), .int .i64 m] w fun e w' => e = .returned (.int .i64 2) ∧ w' = w := by
  have hlt0 := (List.getElem?_eq_some_iff.1 hn).1
  have T := r_has A hc (n + 1) (by omega)
  rw [atH_has hn] at T
  obtain ⟨gs, cap, rl, a, c, x0, x1, x2, -⟩ := r_at A n xs hn
  rw [← nat_succ]
  obtain ⟨N, hN⟩ : ∃ N : Nat, N = n + 1 := ⟨_, rfl⟩
  rw [← hN] at T x1 x2 ⊢
  have hNi : (N : Int) < (rl : Int) := by omega
  clear A hn hN hc hlt0
  by_cases h0 : m < 0
  · go_enter Try.func15, Try.ntmps15
    go_wp2_with fail
    refine T.mono ?_
    rintro e w1 ⟨rfl, rfl⟩
    go_wp2_with fail
    go_ret
    exact ⟨rfl, rfl⟩
  · have h1 : (xs.length : Int) < m := by omega
    clear hm
    go_enter Try.func15, Try.ntmps15
    go_wp2_with fail
    refine T.mono ?_
    rintro e w1 ⟨rfl, rfl⟩
    go_wp2_with fail
    go_ret
    exact ⟨rfl, rfl⟩
end
end Go.Proofs.Ytaoabjcbolncoaa
