/- The document's arena: Take of a new cell. -/
import Derived.Test.YtjbpffeembepcaaRefE5
namespace Go.Proofs.Ytjbpffeembepcaa
open Go.RowKit
set_option linter.unusedVariables false
set_option linter.unusedSimpArgs false

theorem RfC.grow {w w' : World} {g : Nat} {most : Int} {rs : List RowR} {back : List Nat} {vc vb vc' v2 : Value} {ws : List Int} (h : RfC w g most rs back vc vb) (sm : ∀ k, k < w.heap.size → vc.ownBlock ≠ some k → w'.heap[k]? = w.heap[k]?)
    (o : w'.ownsRow 0 45 2 vc' (rs ++ [some (v2, ws)]).length (flatR (rs ++ [some (v2, ws)]))) (n2 : w.ownsRow 0 32 1 v2 ws.length (u64s ws)) (hf : ∀ q, v2.ownBlock = some q → ∀ (i : Nat) (v3 : Value) (ws3 : List Int), rs[i]? = some (some (v3, ws3)) → v3.ownBlock ≠ some q) :
    RfC (w'.setCell ⟨g, 0, none⟩ vc') g most (rs ++ [some (v2, ws)]) back vc' vb := by
  have b' : Blk w' g 49 [vc, vb, .int .i64 most] := (sm g h.blk.lt (owns_apart h.rows h.blk (by decide))).trans h.blk
  have sm2 : ∀ k, k ≠ g → (w'.setCell ⟨g, 0, none⟩ vc').heap[k]? = w'.heap[k]? := fun k hk => Below.heap_setCell w' ⟨g, 0, none⟩ _ k hk
  have ob : w'.ownsRow 0 28 1 vb back.length (u32s back) := owns_same h.backs (fun k hk => sm k (h.backs.lt k hk).2 (owns_apart2 h.backs h.rows (by decide) k hk))
  have cases' : ∀ (i : Nat) (v : Value) (ws' : List Int), (rs ++ [some (v2, ws)])[i]? = some (some (v, ws')) → rs[i]? = some (some (v, ws')) ∨ i = rs.length ∧ v = v2 ∧ ws' = ws := by
    intro i v ws' hi
    rw [List.getElem?_append] at hi
    split at hi
    · exact .inl hi
    · rw [List.getElem?_singleton] at hi
      split at hi
      · simp at hi
        exact .inr ⟨by omega, hi.1.symm, hi.2.symm⟩
      · simp at hi
  refine ⟨b'.set 0 vc', owns_same o (fun k hk => sm2 k (fun e => owns_apart o b' (by decide) (e ▸ hk))), owns_same ob (fun k hk => sm2 k (fun e => owns_apart ob b' (by decide) (e ▸ hk))), ?_, ?_⟩
  · intro i v ws' hi
    have bq : w.ownsRow 0 32 1 v ws'.length (u64s ws') := by
      rcases cases' i v ws' hi with hi' | ⟨_, rfl, rfl⟩
      · exact h.words i v ws' hi'
      · exact n2
    have bq' : w'.ownsRow 0 32 1 v ws'.length (u64s ws') := owns_same bq (fun k hk => sm k (bq.lt k hk).2 (owns_apart2 bq h.rows (by decide) k hk))
    exact owns_same bq' (fun k hk => sm2 k (fun e => owns_apart bq' b' (by decide) (e ▸ hk)))
  · intro i j q v1 v3 ws1 ws3 hi hj e1 e3
    rcases cases' i v1 ws1 hi with hi' | ⟨h1, rfl, rfl⟩
    · rcases cases' j v3 ws3 hj with hj' | ⟨h2, rfl, rfl⟩
      · exact h.apart i j q v1 v3 ws1 ws3 hi' hj' e1 e3
      · exact absurd e1 (hf q e3 i v1 ws1 hi')
    · rcases cases' j v3 ws3 hj with hj' | ⟨h2, rfl, rfl⟩
      · exact absurd e3 (hf q e1 j v3 ws3 hj')
      · omega

theorem info_rcell : ∃ i, Try.prog.info? 45 = some i ∧ i.zero = some (.agg #[.slice none 0 0, .bool false]) ∧ i.size = 2 ∧ i.bytes = 32 := info_of (by kernel_rfl)

set_option maxHeartbeats 1600000 in
theorem rtake_new {K : Nat → Prop} {w : World} {g : Nat} {most : Int} {cs : Cells} (A : Rf K w g most cs []) (hm : (cs.length : Int) < most) (a : Option Addr) (ws : List Int) (cap : Nat) (W : Wd K w a ws) (hw : ws.length ≤ 64) :
    Calls Try.prog 13 #[.pointer (some ⟨g, 0, none⟩), .slice a ws.length cap] w fun e w' => e = .returned (.tuple #[.int .u32 ((cs.length + 1 : Nat) : Int), .int .i64 0]) ∧ Rf K w' g most (cs ++ [some ws]) [] ∧ Kp K w w' := by
  have F : ∀ n, Calls Try.prog 22 #[.pointer (some ⟨g, 0, none⟩)] (w.drewN n) fun e w' => e = .returned (.int .i64 ((cs.length - ([] : List Nat).length : Nat) : Int)) ∧ ∃ m, w' = (w.drewN n).drewN m := fun n => r_live (A.still ⟨n, rfl⟩)
  obtain ⟨rs, h1, ⟨k0, vc, vb, ac, k1⟩, G⟩ := A
  have hl := absR_len h1
  have hlim := G.lim
  rw [show ((cs.length + 1 : Nat) : Int) = (rs.length : Int) by omega]
  obtain ⟨L, hL⟩ : ∃ L : Int, L = ((cs.length - ([] : List Nat).length : Nat) : Int) := ⟨_, rfl⟩
  rw [← hL] at F
  have hLm : L < most := by simp at hL; omega
  have c2 : w.cell? ⟨g, 2, none⟩ = some (.int .i64 most) := ac.blk.cell 2
  have hw' : ¬ (64 < (ws.length : Int)) := by omega
  have AC := hide ac
  have HW := hide W
  clear W ac
  go_enter Try.func13, Try.ntmps13
  go_upto_region 3 with fail
  go_cut [13] (fun v wx => v = .bool false ∧ Still w wx)
  case first =>
    go_quiet (first | (go_at_call 22; exact Calls.quiet_of (F _)))
    go_wp2
    go_meet
    case rel => exact ⟨by simp; omega, _, rfl⟩
  case rest =>
    obtain ⟨rfl, hs⟩ := hcut
    have kw : Kp K w wc := hs.kp K
    obtain ⟨v2, w2, r2, o2, f2⟩ := copy_words (HW.out.kp kw) cap (by omega)
    have a2 : RfC w2 g most rs [] vc vb := (AC.out.still hs).same (fun k hk => f2.block k ((AC.out.still hs).lt hk))
    have k2 : Kp K w w2 := kw.trans ((Kp.of_below f2).mono (fun k hk => by have := k0 k hk; have := kw.size; omega))
    have o3 : w2.ownsRow 0 32 1 v2 ws.length (u64s ws) := ⟨o2.1, by
      rcases o2.2 with hn | ⟨q, capq, cur, e, hb, rest⟩
      · exact .inl hn
      · exact .inr ⟨q, capq, cur, e, Nat.zero_le _, rest⟩⟩
    have nw : ∀ k, v2.ownBlock = some k → w.heap.size ≤ k ∧ k < w2.heap.size := fun k hk => by
      have := o2.lt k hk
      have := kw.size
      omega
    obtain ⟨gc, capc, rfl⟩ := owns_slice a2.rows (by omega)
    obtain ⟨ab, capb, rfl⟩ := owns_slice' a2.backs
    obtain ⟨av, capv, rfl⟩ := owns_slice' o3
    obtain ⟨w3, hw3⟩ : ∃ w3, w3 = w2.alloc (.cells #[.slice av ws.length capv, .bool true] 45) := ⟨_, rfl⟩
    have sm3 : ∀ k, k < w2.heap.size → w3.heap[k]? = w2.heap[k]? := fun k hk => by rw [hw3]; exact Below.heap_alloc w2 _ k hk
    have hs3 : w3.heap.size = w2.heap.size + 1 := by rw [hw3]; simp
    have a3 : RfC w3.drew g most rs [] (.slice (some ⟨gc, 0, none⟩) rs.length capc) (.slice ab ([] : List Nat).length capb) := a2.same (fun k hk => sm3 k (a2.lt hk))
    have k3 : Kp K w w3.drew := by rw [hw3]; exact (k2.alloc _).drew
    have n3 : w3.drew.ownsRow 0 32 1 (.slice av ws.length capv) ws.length (u64s ws) := owns_same o3 (fun k hk => sm3 k (o3.lt k hk).2)
    have b6 : Blk w3 w2.heap.size 45 [.slice av ws.length capv, .bool true] := by rw [hw3]; exact Blk.new w2 _ _ _ rfl
    obtain ⟨i, i1, i2, i3, i4⟩ := info_rcell
    obtain ⟨v5, w5, r5, o5, g5, hv5⟩ := append_lit (P := Try.prog) w3.drew 0 46 45 i _ 2 32 Try.underlying46 i1 i2 i3 i4 rfl (by omega) (.slice (some ⟨gc, 0, none⟩) rs.length capc) _ _ a3.rows [.slice av ws.length capv, .bool true] rfl (by
      intro u hu
      simp at hu
      rcases hu with rfl | rfl <;> rfl) (by omega) (by omega) (by omega)
    have sm5 : ∀ k, k < w3.drew.heap.size → Value.ownBlock (.slice (some ⟨gc, 0, none⟩) rs.length capc) ≠ some k → w5.heap[k]? = w3.drew.heap[k]? := fun k hk hnn =>
      (g5.block k (by simp at hk ⊢; omega) (fun e => hnn e.symm)).trans (Below.heap_alloc w3.drew _ k hk)
    obtain ⟨a5, cap5, rfl⟩ := owns_slice' o5
    have a6 := a3.grow sm5 (vc' := .slice a5 (rs.length + 1) cap5) (v2 := .slice av ws.length capv) (ws := ws) (by
      rw [show (rs ++ [some (Value.slice av ws.length capv, ws)]).length = rs.length + 1 by simp, flatR_append]
      exact o5) n3 (fun q hq i v3 ws3 hi e3 => by
      have h3 := nw q hq
      have h4 := AC.out.lt (.inr (.inr (.inr ⟨i, v3, ws3, hi, e3⟩)))
      omega)
    have b5 : Blk w5 g 49 [.slice (some ⟨gc, 0, none⟩) rs.length capc, .slice ab ([] : List Nat).length capb, .int .i64 most] := (sm5 g a3.blk.lt (owns_apart a3.rows a3.blk (by decide))).trans a3.blk
    have c50 : w5.cell? ⟨g, 0, none⟩ = some (.slice (some ⟨gc, 0, none⟩) rs.length capc) := b5.cell 0
    have f50 : w5.frozen? ⟨g, 0, none⟩ = false := b5.frozen 0
    have c30 : w3.cell? ⟨g, 0, none⟩ = some (.slice (some ⟨gc, 0, none⟩) rs.length capc) := a3.blk.cell 0
    have c31 : w3.cell? ⟨g, 1, none⟩ = some (.slice ab 0 capb) := a3.blk.cell 1
    have c60 : w3.cell? ⟨w2.heap.size, 0, none⟩ = some (.slice av ws.length capv) := b6.cell 0
    have c61 : w3.cell? ⟨w2.heap.size, 1, none⟩ = some (.bool true) := b6.cell 1
    have ba := (Blk.alloc (show Blk w3.drew g 49 _ from a3.blk) (.cells #[.slice av ws.length capv, .bool true] 45))
    have d30 : (w3.alloc (.cells #[.slice av ws.length capv, .bool true] 45)).cell? ⟨g, 0, none⟩ = some (.slice (some ⟨gc, 0, none⟩) rs.length capc) := ba.cell 0
    have kp : Kp K w w5 := (k3.alloc _).grown g5 (fun k hk => k1 k (.inr (.inl hk)))
    have n1 : ∀ k, Value.ownBlock (.slice a5 (rs.length + 1) cap5) = some k → ¬ K k := by
      intro k hk
      rcases hv5 with hv | hv
      · exact k1 k (.inr (.inl (hv ▸ hk)))
      · rw [hv] at hk
        simp at hk
        intro hK
        have := k0 k hK
        have := k3.size
        simp at this
        omega
    have R : Hid (Rf K (w5.setCell ⟨g, 0, none⟩ (.slice a5 (rs.length + 1) cap5)) g most (cs ++ [some ws]) [] ∧ Kp K w (w5.setCell ⟨g, 0, none⟩ (.slice a5 (rs.length + 1) cap5))) := by
      refine ⟨⟨rs ++ [some (.slice av ws.length capv, ws)], ?_, ⟨fun k hk => by have := k0 k hk; have := kp.size; simp [World.setCell]; omega, _, _, a6, ?_⟩, G.grow hm ws⟩, kp.setCell _ _ _ (k1 g (.inl rfl))⟩
      · unfold absR
        rw [List.map_append]
        show absR rs ++ _ = _
        rw [h1]
        simp
      · rintro k (hk | hk | hk | ⟨j, v', ws', hj, e2⟩)
        · exact k1 k (.inl hk)
        · exact n1 k hk
        · exact k1 k (.inr (.inr (.inl hk)))
        · rw [List.getElem?_append] at hj
          split at hj
          · exact k1 k (.inr (.inr (.inr ⟨j, v', ws', hj, e2⟩)))
          · rw [List.getElem?_singleton] at hj
            split at hj
            · simp at hj
              rw [← hj.1] at e2
              have := nw k e2
              intro hK
              have := k0 k hK
              omega
            · simp at hj
    have e1 : IntKind.u32.wrap (rs.length : Int) = (rs.length : Int) := by rw [IntKind.wrap_u32]; omega
    have e3 : wrap64 (rs.length : Int) = (rs.length : Int) := wrap64_in _ (by omega)
    have r5' : (Builtin.append_ #[46, 46] 46 #[.slice (some ⟨gc, 0, none⟩) rs.length capc, .slice (some ⟨w3.heap.size, 0, none⟩) 1 1]).run Try.prog (w3.alloc (.cells #[.slice av ws.length capv, .bool true] 45)).drew = .ok (.slice a5 (rs.length + 1) cap5) w5 := r5
    rw [hs3] at r5'
    clear a2 a3 a6 k2 k3 o2 o3 n3 nw sm3 sm5 b6 b5 ba AC HW k0 k1 G h1 hlim hL F f2 kw hs hl hLm c2 o5 g5 hv5 kp n1 i1 i2 i3 i4 r5 hs3
    subst hw3
    try simp only [World.size_alloc] at r5'
    go_wp2_with (at_builtin; refine wpList_append_run rfl _ _ _ _ rfl _ _ _ _ rfl rfl r2 ?_)
    go_region_law (refine step_append_run (by rfl) _ _ _ _ rfl _ _ _ _ rfl rfl r5' ?_)
    all_goals (
      go_wp2
      go_ret2
      exact ⟨rfl, R.out⟩)
end Go.Proofs.Ytjbpffeembepcaa
