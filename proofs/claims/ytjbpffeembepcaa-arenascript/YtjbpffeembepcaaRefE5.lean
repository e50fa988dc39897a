/- The document's arena: Take. -/
import Derived.Test.YtjbpffeembepcaaRefD5
import Derived.Deep.DeepCutAuto
import Derived.Deep.RegionLaw
namespace Go.Proofs.Ytjbpffeembepcaa
open Go.RowKit
set_option linter.unusedVariables false
set_option linter.unusedSimpArgs false

/-- append as a step of a region that draws, by its run. -/
theorem step_append_run {P : Program} {w : World} {ops : Array Oper} {o : Oper} {a : Act} {K : Act → World → Prop} {Q : Exit → Act → World → Prop} {E : Prop} (hgd : Region.wanted o (yielded ops a.tmps) = true) (s x : Operand) (t tx : TypeId)
    (ho : o.op = .call { callee := .builtin .append, args := #[s, x], argTypes := #[t, tx] }) (v x' v' : Value) (w' : World) (hs : a.eval s = v) (hx : a.eval x = x')
    (hr : (Builtin.append_ #[t, tx] o.type #[v, x']).run P w = .ok v' w') (h : K (a.put o.dst v') w') : if Region.wanted o (yielded ops a.tmps) = true then Oper.wp P o a w K Q else E := by
  rw [if_pos hgd]
  unfold Oper.wp execOp
  simp only [ho, resolve, invoke, builtin, Sem.run_bind, Sem.run_pure, Result.andThen_ok, List.map_toArray, List.map_cons, List.map_nil, hs, hx, hr]
  exact h
theorem rtake_long {w : World} (p : Addr) (a : Option Addr) (n : Nat) (cap : Nat) (hw : 64 < n) :
    Calls Try.prog 13 #[.pointer (some p), .slice a n cap] w fun e w' => e = .returned (.tuple #[.int .u32 0, .int .i64 2]) ∧ w' = w := by
  go_enter Try.func13, Try.ntmps13
  go_wp2
  go_ret2
  exact ⟨rfl, rfl⟩
section
variable {K : Nat → Prop} {w : World} {g : Nat} {most : Int} {cs : Cells} {back : List Nat}
theorem r_live (A : Rf K w g most cs back) : Calls Try.prog 22 #[.pointer (some ⟨g, 0, none⟩)] w fun e w' => e = .returned (.int .i64 ((cs.length - back.length : Nat) : Int)) ∧ Still w w' := by
  obtain ⟨rs, h1, ⟨k0, vc, vb, a, k1⟩, G⟩ := A
  have hl := absR_len h1
  have hbl := G.blen
  have hlen := G.len
  have hlim := G.lim
  have := rlive a (by omega) (by omega) (by omega)
  rw [show rs.length - 1 - back.length = cs.length - back.length by omega] at this
  exact this
theorem rtake_full (A : Rf K w g most cs back) (hf : most = ((cs.length - back.length : Nat) : Int)) (a : Option Addr) (n : Nat) (cap : Nat) (hw : n ≤ 64) :
    Calls Try.prog 13 #[.pointer (some ⟨g, 0, none⟩), .slice a n cap] w fun e w' => e = .returned (.tuple #[.int .u32 0, .int .i64 4]) ∧ Still w w' := by
  have F : ∀ n, Calls Try.prog 22 #[.pointer (some ⟨g, 0, none⟩)] (w.drewN n) fun e w' => e = .returned (.int .i64 ((cs.length - back.length : Nat) : Int)) ∧ ∃ m, w' = (w.drewN n).drewN m := fun n => r_live (A.still ⟨n, rfl⟩)
  rw [← hf] at F
  obtain ⟨rs, h1, ⟨k0, vc, vb, ac, k1⟩, G⟩ := A
  have c2 : w.cell? ⟨g, 2, none⟩ = some (.int .i64 most) := ac.blk.cell 2
  have hw' : ¬ (64 < (n : Int)) := by omega
  clear ac k1 k0 G h1 hf
  go_enter Try.func13, Try.ntmps13
  go_wp2
  go_quiet (first | (go_at_call 22; exact Calls.quiet_of (F _)))
  go_wp2
  go_ret2
  exact ⟨rfl, _, rfl⟩
end

set_option maxHeartbeats 1600000 in
theorem rtake_back {K : Nat → Prop} {w : World} {g : Nat} {most : Int} {cs : Cells} {back : List Nat} {h : Nat} (A : Rf K w g most cs (back ++ [h])) (a : Option Addr) (ws : List Int) (cap : Nat) (W : Wd K w a ws) (hw : ws.length ≤ 64) :
    Calls Try.prog 13 #[.pointer (some ⟨g, 0, none⟩), .slice a ws.length cap] w fun e w' => e = .returned (.tuple #[.int .u32 (h : Int), .int .i64 0]) ∧ Rf K w' g most (cs.set (h - 1) (some ws)) back ∧ Kp K w w' := by
  have F : ∀ n, Calls Try.prog 22 #[.pointer (some ⟨g, 0, none⟩)] (w.drewN n) fun e w' => e = .returned (.int .i64 ((cs.length - (back ++ [h]).length : Nat) : Int)) ∧ ∃ m, w' = (w.drewN n).drewN m := fun n => r_live (A.still ⟨n, rfl⟩)
  obtain ⟨rs, h1, ⟨k0, vc, vb, ac, k1⟩, G⟩ := A
  have hl := absR_len h1
  obtain ⟨p1, p2⟩ := G.free h (by simp)
  have hlt := (List.getElem?_eq_some_iff.1 p2).1
  have hlen := G.len
  have hlim := G.lim
  have hbl := G.blen
  have hb1 : (back ++ [h]).length = back.length + 1 := by simp
  rw [hb1] at hbl F
  obtain ⟨L, hL⟩ : ∃ L : Int, L = ((cs.length - (back.length + 1) : Nat) : Int) := ⟨_, rfl⟩
  rw [← hL] at F
  have hLm : L < most := by omega
  have c2 : w.cell? ⟨g, 2, none⟩ = some (.int .i64 most) := ac.blk.cell 2
  have hw' : ¬ (64 < (ws.length : Int)) := by omega
  have AC := hide ac
  have HW := hide W
  clear W ac
  go_enter Try.func13, Try.ntmps13
  go_upto_region 3 with fail
  go_cut [13] (fun v wx => v = .bool false ∧ Still w wx)
  case first =>
    go_quiet (first | (go_at_call 22; exact Calls.quiet_of (F _)))
    go_wp2
    go_meet
    case rel => exact ⟨by simp; omega, _, rfl⟩
  case rest =>
    obtain ⟨rfl, hs⟩ := hcut
    have kw : Kp K w wc := hs.kp K
    obtain ⟨v2, w2, r2, o2, f2⟩ := copy_words (HW.out.kp kw) cap (by omega)
    have a2 : RfC w2 g most rs (back ++ [h]) vc vb := (AC.out.still hs).same (fun k hk => f2.block k ((AC.out.still hs).lt hk))
    have k2 : Kp K w w2 := kw.trans ((Kp.of_below f2).mono (fun k hk => by have := k0 k hk; have := kw.size; omega))
    have o3 : w2.ownsRow 0 32 1 v2 ws.length (u64s ws) := ⟨o2.1, by
      rcases o2.2 with hn | ⟨q, capq, cur, e, hb, rest⟩
      · exact .inl hn
      · exact .inr ⟨q, capq, cur, e, Nat.zero_le _, rest⟩⟩
    have nw : ∀ k, v2.ownBlock = some k → w.heap.size ≤ k ∧ k < w2.heap.size := fun k hk => by
      have := o2.lt k hk
      have := kw.size
      omega
    obtain ⟨gc, capc, rfl⟩ := owns_slice a2.rows (by omega)
    obtain ⟨gb, capb, rfl⟩ := owns_slice a2.backs (by simp)
    obtain ⟨av, capv, rfl⟩ := owns_slice' o3
    obtain ⟨w3, hw3⟩ : ∃ w3, w3 = w2.alloc (.cells #[.slice av ws.length capv, .bool true] 45) := ⟨_, rfl⟩
    have sm3 : ∀ k, k < w2.heap.size → w3.heap[k]? = w2.heap[k]? := fun k hk => by rw [hw3]; exact Below.heap_alloc w2 _ k hk
    have hs3 : w3.heap.size = w2.heap.size + 1 := by rw [hw3]; simp
    have a3 : RfC w3 g most rs (back ++ [h]) (.slice (some ⟨gc, 0, none⟩) rs.length capc) (.slice (some ⟨gb, 0, none⟩) (back ++ [h]).length capb) := a2.same (fun k hk => sm3 k (a2.lt hk))
    have k3 : Kp K w w3 := by rw [hw3]; exact k2.alloc _
    have bb := a3.backs
    have ob : w3.ownsRow 0 28 1 (.slice (some ⟨gb, 0, none⟩) back.length capb) back.length (u32s back) := ownsRow_pop (last := [.int .u32 (h : Int)]) (by simp [u32s]) (by rw [hb1] at bb; simpa [u32s] using bb)
    have cb : w3.cell? ⟨gb, back.length, none⟩ = some (.int .u32 (h : Int)) := (bb.cellAt back.length (by simp)).trans (by simp [u32s])
    have hcapb : back.length + 1 ≤ capb := by
      rcases bb.2 with ⟨h', _⟩ | ⟨g', cap', cur, h', _, hg, hnc, _⟩
      · simp at h'
      · simp only [Value.slice.injEq] at h'
        have := h'.2.2
        omega
    have a4 := a3.pushed (w' := w3) (fun _ _ _ => rfl) ob
    have c1 : w3.cell? ⟨g, 1, none⟩ = some (.slice (some ⟨gb, 0, none⟩) (back.length + 1) capb) := by rw [← hb1]; exact a3.blk.cell 1
    have f1 : w3.frozen? ⟨g, 1, none⟩ = false := a3.blk.frozen 1
    have n3 : w3.ownsRow 0 32 1 (.slice av ws.length capv) ws.length (u64s ws) := owns_same o3 (fun k hk => sm3 k (o3.lt k hk).2)
    have b6 : Blk w3 w2.heap.size 45 [.slice av ws.length capv, .bool true] := by rw [hw3]; exact Blk.new w2 _ _ _ rfl
    obtain ⟨w4, hw4⟩ : ∃ w4, w4 = w3.setCell ⟨g, 1, none⟩ (.slice (some ⟨gb, 0, none⟩) back.length capb) := ⟨_, rfl⟩
    rw [← hw4] at a4
    have sm4 : ∀ k, k ≠ g → w4.heap[k]? = w3.heap[k]? := fun k hk => by rw [hw4]; exact Below.heap_setCell w3 ⟨g, 1, none⟩ _ k hk
    have n4 : w4.ownsRow 0 32 1 (.slice av ws.length capv) ws.length (u64s ws) := owns_same n3 (fun k hk => sm4 k (fun e => owns_apart n3 a3.blk (by decide) (e ▸ hk)))
    have b64 : Blk w4 w2.heap.size 45 [.slice av ws.length capv, .bool true] := (sm4 _ (blk_apart b6 a3.blk (by decide))).trans b6
    have k4 : Kp K w w4 := by rw [hw4]; exact k3.setCell _ _ _ (k1 g (.inl rfl))
    have hlr : h < rs.length := by omega
    have a5 := a4.lay hlr (some (.slice av ws.length capv, ws)) (.slice av ws.length capv) (.bool true) rfl (fun v' ws' e => by
      simp only [Option.some.injEq, Prod.mk.injEq] at e
      obtain ⟨rfl, rfl⟩ := e
      exact n4) (fun v' ws' q e eq i v2 ws2 hi e2 => by
      simp only [Option.some.injEq, Prod.mk.injEq] at e
      obtain ⟨rfl, rfl⟩ := e
      have h3 := nw q eq
      have h4 := AC.out.lt (.inr (.inr (.inr ⟨i, v2, ws2, hi, e2⟩)))
      omega)
    have y0 := a4.rows.frozenAt (h * 2)
    have y1 := a4.rows.frozenAt (h * 2 + 1)
    obtain ⟨r, hr⟩ : ∃ r, rs[h]? = some r := ⟨_, List.getElem?_eq_getElem hlr⟩
    obtain ⟨x0, x1, hx⟩ : ∃ x y, cellR r = [x, y] := by rcases r with _ | ⟨q, ws⟩ <;> exact ⟨_, _, rfl⟩
    have z0 := (a4.rows.cellAt (h * 2) (by omega)).trans (flatR_get rs h _ 0 hr (by omega))
    have z1 := (a4.rows.cellAt (h * 2 + 1) (by omega)).trans (flatR_get rs h _ 1 hr (by omega))
    rw [hx] at z0 z1
    simp only [List.getElem?_cons_zero, List.getElem?_cons_succ] at z0 z1
    have c40 : w4.cell? ⟨g, 0, none⟩ = some (.slice (some ⟨gc, 0, none⟩) rs.length capc) := a4.blk.cell 0
    have c60 : w4.cell? ⟨w2.heap.size, 0, none⟩ = some (.slice av ws.length capv) := b64.cell 0
    have c61 : w4.cell? ⟨w2.heap.size, 1, none⟩ = some (.bool true) := b64.cell 1
    have nKc : ¬ K gc := k1 gc (.inr (.inl rfl))
    have R : Hid (Rf K ((w4.setCell ⟨gc, h * 2, none⟩ (.slice av ws.length capv)).setCell ⟨gc, h * 2 + 1, none⟩ (.bool true)) g most (cs.set (h - 1) (some ws)) back ∧ Kp K w ((w4.setCell ⟨gc, h * 2, none⟩ (.slice av ws.length capv)).setCell ⟨gc, h * 2 + 1, none⟩ (.bool true))) := by
      refine ⟨⟨rs.set h (some (.slice av ws.length capv, ws)), ?_, ⟨fun k hk => by have := k0 k hk; have := k4.size; simp [World.setCell]; omega, _, _, a5, ?_⟩, G.take ws⟩, (k4.setCell _ _ _ nKc).setCell _ _ _ nKc⟩
      · unfold absR
        rw [List.map_set]
        show (absR rs).set h (some ws) = _
        rw [h1]
        obtain ⟨n, rfl⟩ : ∃ n, h = n + 1 := ⟨h - 1, by omega⟩
        rw [List.set_cons_succ, Nat.add_sub_cancel]
      · rintro k (hk | hk | hk | ⟨j, v', ws', hj, e2⟩)
        · exact k1 k (.inl hk)
        · exact k1 k (.inr (.inl hk))
        · exact k1 k (.inr (.inr (.inl hk)))
        · rw [List.getElem?_set] at hj
          split at hj
          · simp only [hlr, if_true, Option.some.injEq, Prod.mk.injEq] at hj
            rw [← hj.1] at e2
            have := nw k e2
            intro hK
            have := k0 k hK
            omega
          · exact k1 k (.inr (.inr (.inr ⟨j, v', ws', hj, e2⟩)))
    have e1 : IntKind.i64.wrap (((back.length + 1 : Nat) : Int) - 1) = (back.length : Int) := by rw [IntKind.wrap_i64]; omega
    have e2 : (((back.length + 1 : Nat) : Int) - 1) = (back.length : Int) := by omega
    have e3 : wrap64 (back.length : Int) = (back.length : Int) := wrap64_in _ (by omega)
    have hlri : (h : Int) < (rs.length : Int) := by omega
    clear a2 a3 a4 a5 k2 k3 k4 o2 o3 n3 n4 nw sm3 sm4 bb ob b6 b64 AC HW k0 k1 G h1 p1 p2 hlt hlen hlim hbl hL F f2 kw hs nKc hr hx hl hb1 hLm c2
    subst hw4
    subst hw3
    go_wp2_with (at_builtin; refine wpList_append_run rfl _ _ _ _ rfl _ _ _ _ rfl rfl r2 ?_)
    go_region
    all_goals (
      go_wp2
      go_ret2
      exact ⟨rfl, R.out.1.still ⟨1, rfl⟩, R.out.2.drew⟩)
end Go.Proofs.Ytjbpffeembepcaa
