/- What the statements share: bytes that are lent, held against what they were, written over, compared. -/
import Derived.Test.YtnedcoomldmhhaaBy
namespace Go.Proofs.Ytnedcoomldmhhaa
set_option maxRecDepth 20000
open Go.RowKit
set_option linter.unusedVariables false

set_option maxHeartbeats 1000000 in
theorem over_any (v : Value) (n base : Nat) (xs : List Value) (w : World) (ho : w.ownsRow base 5 1 v n xs) (hx : ∀ u ∈ xs, ∃ q, u = .int .u8 q) (hn : n ≤ 1000000) (hbase : base ≤ w.heap.size) :
    Calls Try.prog 33 #[v] w fun e w' => e = .returned (.tuple #[]) ∧ w.grownBy w' v.ownBlock := by
  have hform : v = .slice none 0 0 ∧ n = 0 ∨ ∃ g cap, v = .slice (some ⟨g, 0, none⟩) n cap := by
    rcases ho.2 with h | ⟨g, cap, cur, h, _⟩
    · exact .inl h
    · exact .inr ⟨g, cap, h⟩
  rcases hform with ⟨rfl, rfl⟩ | ⟨g, cap, rfl⟩
  · obtain ⟨v', w', r, o', g', b', _⟩ := append1_u8 w base _ 0 xs 238 ho (by omega) hbase
    have G := hide g'
    clear o' g' b' ho hx
    go_enter Try.func33, Try.ntmps33
    go_wp2_with fail
    go_loop [2] (fun v => v = .int .i64 0) (fun _ => 0)
    case atStart => rfl
    case round =>
      subst hrel
      go_wp2_with (at_builtin; refine wpList_append_run rfl _ _ _ _ rfl _ _ _ _ rfl rfl r ?_)
      go_end0
      exact ⟨rfl, G.out⟩
  · have O := hide ho
    have X := hide hx
    clear ho hx
    go_enter Try.func33, Try.ntmps33
    go_wp2_with fail
    go_loopw [2] (fun v wr => ∃ k : Nat, v = .int .i64 k ∧ k ≤ n ∧ (∃ ys, wr.ownsRow base 5 1 (.slice (some ⟨g, 0, none⟩) n cap) n ys ∧ ∀ u ∈ ys, ∃ q, u = .int .u8 q) ∧ w.grownBy wr (some g)) (fun v _ => n - (intOf v).toNat)
    case atStart => exact ⟨0, rfl, by omega, ⟨xs, O.out, X.out⟩, ⟨rfl, rfl, rfl, Nat.le_refl _, fun _ _ _ => rfl⟩⟩
    case round =>
      obtain ⟨k, rfl, hk, ⟨ys, hy, hu⟩, hgr⟩ := hrel
      have Y := hide hy
      have U := hide hu
      have G := hide hgr
      clear hy hu hgr
      by_cases hkn : k < n
      · have hl : ys.length = n := by have := Y.out.1; omega
        have hc := Y.out.cellAt k (by omega)
        rw [List.getElem?_eq_getElem (by omega)] at hc
        obtain ⟨q, hq⟩ := U.out ys[k] (List.getElem_mem _)
        rw [hq] at hc
        have hf := Y.out.frozenAt k
        have hst := hide (Y.out.stored k (.int .u8 238))
        clear hl hq
        go_wp2
        go_roundw
        case rel =>
          refine ⟨k + 1, by go_num, by omega, ⟨_, hst.out.1, fun u hu => ?_⟩, ?_⟩
          · rcases List.mem_or_eq_of_mem_set hu with h | h
            · exact U.out u h
            · exact ⟨238, h⟩
          · have h := hst.out.2
            have G1 := G.out
            exact ⟨h.os.trans G1.os, h.tape.trans G1.tape, h.output.trans G1.output, Nat.le_trans G1.size h.size, fun j hj hne => by
              rw [h.block j (by have := G1.size; omega) hne, G1.block j hj hne]⟩
        case measure => simp [intOf]; omega
      · have hb2 : base ≤ wr.heap.size := by have := G.out.size; omega
        obtain ⟨v', w', r, o', g', b', _⟩ := append1_u8 wr base _ n ys 238 Y.out (by omega) hb2
        have G' := hide g'
        clear o' g' b' hb2
        go_wp2_with (at_builtin; refine wpList_append_run rfl _ _ _ _ rfl _ _ _ _ rfl rfl r ?_)
        go_end0
        have h := G'.out
        have G1 := G.out
        exact ⟨rfl, h.os.trans G1.os, h.tape.trans G1.tape, h.output.trans G1.output, Nat.le_trans G1.size h.size, fun j hj hne => by
          rw [h.block j (by have := G1.size; omega) hne, G1.block j hj hne]⟩


set_option maxHeartbeats 400000 in
theorem same_any (a b : Option Addr) (xs ys : List Int) (ca cb : Nat) (w : World) (ha : Rd w a xs) (hb : Rd w b ys) :
    Calls Try.prog 28 #[.slice a xs.length ca, .slice b ys.length cb] w fun e w' => e = .returned (.bool (decide (xs = ys))) ∧ ∃ n, w' = w.drewN n := by
  obtain ⟨hxb, hxl, hxc⟩ := ha
  obtain ⟨hyb, hyl, hyc⟩ := hb
  unfold maxLen at hxl hyl
  by_cases hl : xs.length = ys.length
  · have hl' : ((xs.length : Int) != (ys.length : Int)) = false := by simp [hl]
    have HL := hide hl
    have hle : xs.length ≤ ys.length := by omega
    clear hl
    go_enter Try.func28, Try.ntmps28
    go_wp2
    go_loopw [5] (fun v wr => ∃ k q : Nat, v = .int .i64 k ∧ k ≤ xs.length ∧ wr = w.drewN q ∧ ∀ i, i < k → xs.getD i 0 = ys.getD i 0) (fun v _ => xs.length - (intOf v).toNat)
    case atStart => exact ⟨0, 0, rfl, by omega, rfl, fun i hi => by omega⟩
    case round =>
      obtain ⟨k, q, rfl, hk1, hwr, hall⟩ := hrel
      have HA : Hid (∀ i, i < k → xs.getD i 0 = ys.getD i 0) := hall
      clear hall
      by_cases h1 : k < xs.length
      · have h2 : k < ys.length := by omega
        rcases hxc with rfl | ⟨bx, ox, rfl, hxc⟩
        · simp at h1
        rcases hyc with rfl | ⟨by', oy, rfl, hyc⟩
        · simp at h2
        have c1 : wr.cell? ⟨bx, ox + k, none⟩ = some (.int .u8 (xs.getD k 0)) := by rw [hwr]; exact hxc k h1
        have c2 : wr.cell? ⟨by', oy + k, none⟩ = some (.int .u8 (ys.getD k 0)) := by rw [hwr]; exact hyc k h2
        have HW : Hid (wr = w.drewN q) := hwr
        clear hwr hxc hyc
        generalize hx : xs.getD k 0 = x at *
        generalize hy : ys.getD k 0 = y at *
        have HX := hide hx
        have HY := hide hy
        clear hx hy
        by_cases h3 : x = y
        · have h4 : (x != y) = false := by simpa using h3
          have H3 := hide h3
          clear h3
          go_wp2
          go_quiet (fail)
          go_wp2
          go_roundw
          case rel =>
            refine ⟨k + 1, q + nq, by go_num, by omega, by rw [HW.out]; simp, fun i hi => ?_⟩
            by_cases e : i = k
            · subst e; rw [HX.out, HY.out]; exact H3.out
            · exact HA.out i (by omega)
          case measure => simp [intOf]; omega
        · have h4 : (x != y) = true := by simpa using h3
          have H3 := hide h3
          clear h3
          go_wp2
          go_quiet (fail)
          go_wp2
          go_ret
          refine ⟨ret_bool ?_, q + nq, by rw [HW.out]; simp⟩
          symm
          simp only [decide_eq_false_iff_not]
          intro e
          exact H3.out (by rw [← HX.out, ← HY.out, e])
      · have HW : Hid (wr = w.drewN q) := hwr
        clear hwr hxc hyc
        go_wp2
        go_ret
        refine ⟨ret_bool ?_, q, by rw [HW.out]⟩
        symm
        simp only [decide_eq_true_eq]
        exact getD_eq_of xs ys HL.out (fun i hi => HA.out i (by omega))
  · have hl' : ((xs.length : Int) != (ys.length : Int)) = true := by simp; omega
    have HL := hide hl
    clear hl hxc hyc
    go_enter Try.func28, Try.ntmps28
    go_wp2
    go_ret
    refine ⟨ret_bool ?_, 0, rfl⟩
    symm
    simp only [decide_eq_false_iff_not]
    intro e
    exact HL.out (by rw [e])



theorem Still.below {w w' : World} (s : Still w w') (B : Nat) : Below B w w' := by
  obtain ⟨n, rfl⟩ := s
  exact ⟨rfl, rfl, rfl, Nat.le_refl _, fun _ _ => rfl⟩
theorem same_b (a b : Option Addr) (xs ys : List Int) (ca cb : Nat) (w : World) (ha : Rd w a xs) (hb : Rd w b ys) :
    Calls Try.prog 28 #[.slice a xs.length ca, .slice b ys.length cb] w fun e w' => e = .returned (.bool (decide (xs = ys))) ∧ Still w w' :=
  same_any a b xs ys ca cb w ha hb
/-- append where there is room: into the very block. -/
theorem append_room_u8 (w : World) (ty tx : TypeId) (g : Nat) (cur : List Value) (hg : w.heap[g]? = some (.cells cur.toArray 5 (0, 0))) (n : Nat)
    (x : Value) (m : Nat) (news : List Value) (hs : Src Try.prog 1 tx x m news w) (hfit : n + m ≤ cur.length) :
    ∃ w', (Builtin.append_ #[38, tx] ty #[.slice (some ⟨g, 0, none⟩) n cur.length, x]).run Try.prog w = .ok (.slice (some ⟨g, 0, none⟩) (n + m) cur.length) w' ∧
      w'.heap[g]? = some (.cells (cur.take n ++ (news ++ cur.drop (n + m))).toArray 5 (0, 0)) ∧ w.grownBy w' (some g) ∧ w'.heap.size = w.heap.size := by
  obtain ⟨i, h1, h2, h3, h4⟩ := info_u8
  have hl : news.length = m := by have := hs.newsLen; omega
  have hs' : Src Try.prog i.size tx x m news w := by rw [h3]; exact hs
  have hr := run_append_room_src (P := Try.prog) w 38 tx ty 5 i Try.underlying38 h1 g 0 n cur.length x m news hs' hfit
    (fun j hj => by rw [block_cell hg, h3, List.getElem?_eq_getElem (by omega)]; rfl) (fun j hj => block_frozen hg _)
  have hb := setCells_block g 5 news n w cur hg (by omega)
  simp only [h3, Nat.mul_one, Nat.zero_add] at hr
  rw [hl] at hb
  exact ⟨_, hr, hb, ⟨(setCells_os _ _ _ _).1, (setCells_os _ _ _ _).2.1, (setCells_os _ _ _ _).2.2, Nat.le_of_eq (setCells_size _ _ _ _).symm, fun k _ hk => setCells_other g news _ w k (fun e => hk (by rw [e]))⟩, setCells_size _ _ _ _⟩

/-- What is lent: the bytes, and three marked ones behind them. -/
def lentK (xs : List Int) (k : Nat) : List Int := xs ++ (List.replicate k 119 ++ List.replicate (3 - k) 0)
theorem lentK_set (xs : List Int) (k : Nat) (h : k < 3) : (u8s (lentK xs k)).set (xs.length + k) (.int .u8 119) = u8s (lentK xs (k + 1)) := by
  have hk : k = 0 ∨ k = 1 ∨ k = 2 := by omega
  rcases hk with rfl | rfl | rfl <;> simp [lentK, u8s, List.set_append_right, List.replicate]
theorem lentK_length (xs : List Int) (k : Nat) (h : k ≤ 3) : (lentK xs k).length = xs.length + 3 := by simp [lentK]; omega
theorem lentK_bytes {xs : List Int} (hx : IsBytes xs) (k : Nat) : IsBytes (lentK xs k) := by
  intro x hm
  simp only [lentK, List.mem_append, List.mem_replicate] at hm
  rcases hm with hm | ⟨_, rfl⟩ | ⟨_, rfl⟩
  · exact hx x hm
  · omega
  · omega

end Go.Proofs.Ytnedcoomldmhhaa
