/- Slices of bytes: read, made, appended to, compared, written over. -/
import Derived.Test.YtmogjhljmljpfaaDoorApp
import Derived.Test.YtmogjhljmljpfaaDoorPrev4
namespace Go.Proofs.YtmogjhljmljpfaaDoor
set_option maxRecDepth 20000
open Go.RowKit
set_option linter.unusedVariables false

def IsBytes (xs : List Int) : Prop := ∀ x ∈ xs, 0 ≤ x ∧ x ≤ 255
theorem IsBytes.getD {xs : List Int} (h : IsBytes xs) (i : Nat) : 0 ≤ xs.getD i 0 ∧ xs.getD i 0 ≤ 255 := by
  by_cases hi : i < xs.length
  · have := h xs[i] (List.getElem_mem hi)
    simpa [List.getD_eq_getElem?_getD, hi] using this
  · simp [List.getD_eq_getElem?_getD, List.getElem?_eq_none (Nat.le_of_not_lt hi)]

/-- The bytes xs lie where a slice at a begins. -/
def Rd (w : World) (a : Option Addr) (xs : List Int) : Prop :=
  IsBytes xs ∧ xs.length ≤ maxLen ∧
  (xs = [] ∨ ∃ b off, a = some ⟨b, off, none⟩ ∧ ∀ i, i < xs.length → w.cell? ⟨b, off + i, none⟩ = some (.int .u8 (xs.getD i 0)))

theorem Rd.drewN {w : World} {a : Option Addr} {xs : List Int} (h : Rd w a xs) (n : Nat) : Rd (w.drewN n) a xs := h
theorem Rd.drew {w : World} {a : Option Addr} {xs : List Int} (h : Rd w a xs) : Rd w.drew a xs := h
theorem Rd.nil (w : World) (a : Option Addr) : Rd w a [] := ⟨fun x h => by simp at h, by simp, .inl rfl⟩

/-- What a slice reads is as it was where all that was there is. -/
theorem Rd.below {B : Nat} {w w' : World} {a : Option Addr} {xs : List Int} (h : Rd w a xs) (hb : Below B w w') (hB : w.heap.size ≤ B) : Rd w' a xs := by
  obtain ⟨h1, h2, h3⟩ := h
  refine ⟨h1, h2, ?_⟩
  rcases h3 with h3 | ⟨b, off, ha, hc⟩
  · exact .inl h3
  · refine .inr ⟨b, off, ha, fun i hi => ?_⟩
    have := World.block_lt_of_cell? w _ (hc i hi)
    rw [hb.cell (p := ⟨b, off + i, none⟩) (by simp at this ⊢; omega)]
    exact hc i hi

/-- Bytes as cells. -/
def u8s (xs : List Int) : List Value := xs.map (Value.int .u8)
theorem u8s_length (xs : List Int) : (u8s xs).length = xs.length := by simp [u8s]
theorem u8s_append (xs ys : List Int) : u8s (xs ++ ys) = u8s xs ++ u8s ys := by simp [u8s]
theorem u8s_one (xs : List Int) : ∀ u ∈ u8s xs, u.oneCell' = true := by
  intro u hu
  obtain ⟨x, _, rfl⟩ := List.mem_map.1 hu
  rfl
theorem u8s_get (xs : List Int) (i : Nat) (h : i < xs.length) : (u8s xs)[i]? = some (.int .u8 (xs.getD i 0)) := by
  simp [u8s, List.getElem?_map, List.getElem?_eq_getElem h]

/-- A slice that is read, as a source of an append. -/
theorem Rd.src {P : Program} {tx e' : TypeId} (hk : P.underlying tx = some (.slice e')) {w : World} {a : Option Addr} {xs : List Int} (h : Rd w a xs) (c : Nat) :
    Src P 1 tx (.slice a xs.length c) xs.length (u8s xs) w := by
  obtain ⟨_, _, h3⟩ := h
  rcases h3 with rfl | ⟨b, off, rfl, hc⟩
  · cases a with
    | none => exact Src.ofNil w hk c
    | some x => exact Src.ofSlice w hk x 0 c [] rfl (fun j u hu => by simp at hu) (fun u hu => by simp at hu)
  · refine Src.ofSlice w hk ⟨b, off, none⟩ xs.length c (u8s xs) (by simp [u8s]) (fun j u hu => ?_) (u8s_one xs)
    have hj : j < xs.length := by
      rcases Nat.lt_or_ge j xs.length with h | h
      · exact h
      · rw [List.getElem?_eq_none (by simpa [u8s] using h)] at hu; cases hu
    rw [u8s_get xs j hj] at hu
    cases hu
    have hplain : (⟨b, off, none⟩ : Addr).add j = ⟨b, off + j, none⟩ := by unfold Addr.add; split <;> simp_all
    rw [hplain]
    exact hc j hj

/-- A row that the call owns, of bytes: the value is a slice that reads as these bytes. -/
theorem owns_rd {w : World} {base : Nat} {e : TypeId} {v : Value} {n : Nat} {xs : List Int} (h : w.ownsRow base e 1 v n (u8s xs)) (hb : IsBytes xs) :
    ∃ a c, v = .slice a xs.length c ∧ Rd w a xs ∧ n = xs.length := by
  have hl : xs.length = n := by simpa [u8s] using h.1
  subst hl
  rcases h.2 with ⟨rfl, h0⟩ | ⟨g, cap, cur, rfl, hbg, hg, hnc, hcm, hcs, htake⟩
  · exact ⟨none, 0, by rw [h0], ⟨hb, by rw [h0]; simp, .inl (List.eq_nil_of_length_eq_zero h0)⟩, rfl⟩
  · refine ⟨_, cap, rfl, ⟨hb, by omega, .inr ⟨g, 0, rfl, fun i hi => ?_⟩⟩, rfl⟩
    have := h.cellAt i (by omega)
    rw [u8s_get xs i hi] at this
    simpa using this

/-- A block of the call's own, as a row that it owns. -/
theorem blk_owns {w : World} {base g n : Nat} {e : TypeId} {cs : List Value} (hg : w.heap[g]? = some (.cells cs.toArray e (0, 0))) (hb : base ≤ g) (hn : n ≤ cs.length) (hm : cs.length ≤ maxLen) :
    w.ownsRow base e 1 (.slice (some ⟨g, 0, none⟩) n cs.length) n (cs.take n) :=
  ⟨by simp; omega, .inr ⟨g, cs.length, cs.toArray, rfl, hb, hg, hn, hm, by simp, by simp⟩⟩

/-- A block of bytes, as a slice that is read. -/
theorem blk_rd {w : World} {g : Nat} {e : TypeId} {xs : List Int} (hg : w.heap[g]? = some (.cells (u8s xs).toArray e (0, 0))) (hb : IsBytes xs) (hm : xs.length ≤ maxLen) : Rd w (some ⟨g, 0, none⟩) xs :=
  ⟨hb, hm, .inr ⟨g, 0, rfl, fun i hi => by rw [block_cell hg, Nat.zero_add, u8s_get xs i hi]⟩⟩

theorem info_u8' : (Tryd.prog.info? 5).map (fun i => (i.zero, i.size, i.bytes)) = some (some (.int .u8 0), 1, 1) := by kernel_rfl
theorem info_u8 : ∃ i, Tryd.prog.info? 5 = some i ∧ i.zero = some (.int .u8 0) ∧ i.size = 1 ∧ i.bytes = 1 := by
  have h := info_u8'
  cases hq : Tryd.prog.info? 5 with
  | none => rw [hq] at h; cases h
  | some i =>
    rw [hq] at h
    simp at h
    exact ⟨i, rfl, h.1, h.2.1, h.2.2⟩
theorem size_u8 : (Tryd.prog.info? 5).map (·.size) = some 1 := by kernel_rfl

theorem make_u8 (w : World) (kl kc : IntKind) (l c : Int) (n cap : Nat) (hl : l = n) (hc : c = cap) (hn : n ≤ cap) (hb : cap ≤ 281474976710656) :
    ∃ w', (Instr.makeSlice 22 (.int kl l) (.int kc c)).run Tryd.prog w = .ok (.slice (some ⟨w.heap.size, 0, none⟩) n cap) w' ∧
      w'.heap[w.heap.size]? = some (.cells (List.replicate cap (.int .u8 0)).toArray 5 (0, 0)) ∧ Below w.heap.size w w' ∧ w'.heap.size = w.heap.size + 1 := by
  obtain ⟨i, h1, h2, h3, h4⟩ := info_u8
  exact run_make_blk 22 5 i (.int .u8 0) Tryd.underlying22 h1 h2 h3 rfl kl kc l c n cap hl hc hn (by rw [h4]; omega) (by unfold maxLen; omega)

theorem append_u8 (w : World) (ty tx : TypeId) (base : Nat) (v : Value) (n : Nat) (xs : List Value) (hown : w.ownsRow base 5 1 v n xs)
    (x : Value) (m : Nat) (news : List Value) (hs : Src Tryd.prog 1 tx x m news w) (hb : n + m ≤ 140737488355328) (hbase : base ≤ w.heap.size) :
    ∃ v' w', (Builtin.append_ #[22, tx] ty #[v, x]).run Tryd.prog w = .ok v' w' ∧ w'.ownsRow base 5 1 v' (n + m) (xs ++ news) ∧ w.grownBy w' v.ownBlock ∧
      (v'.ownBlock = v.ownBlock ∨ v'.ownBlock = some w.heap.size) ∧ (m = 0 → v' = v ∧ w' = w) ∧ w'.ownsRow base 5 1 v n xs := by
  obtain ⟨i, h1, h2, h3, h4⟩ := info_u8
  exact run_append_src base 22 tx ty 5 i (.int .u8 0) 1 1 Tryd.underlying22 h1 h2 h3 h4 rfl (by omega) v n xs hown x m news hs (by unfold maxLen; omega) (by omega) hbase

/-- append of one byte that was laid into a block of its own. -/
theorem append1_u8 (w : World) (base : Nat) (v : Value) (n : Nat) (xs : List Value) (x : Int) (hown : w.ownsRow base 5 1 v n xs) (hb : n + 1 ≤ 140737488355328) (hbase : base ≤ w.heap.size) :
    ∃ v' w', (Builtin.append_ #[22, 22] 22 #[v, .slice (some ⟨w.heap.size, 0, none⟩) 1 1]).run Tryd.prog (w.alloc (.cells #[.int .u8 x] 5)) = .ok v' w' ∧
      w'.ownsRow base 5 1 v' (n + 1) (xs ++ [.int .u8 x]) ∧ w.grownBy w' v.ownBlock ∧ (v'.ownBlock = v.ownBlock ∨ v'.ownBlock = some (w.heap.size + 1)) ∧ w'.ownsRow base 5 1 v n xs := by
  have hs : Src Tryd.prog 1 22 (.slice (some ⟨w.heap.size, 0, none⟩) 1 1) 1 [.int .u8 x] (w.alloc (.cells #[.int .u8 x] 5)) :=
    Src.ofSlice _ Tryd.underlying22 _ 1 1 _ rfl (fun j u hu => by
      have := World.news_of_block (heap_alloc_new w (.cells #[.int .u8 x] 5)) j u
      exact this (by simpa using hu)) (fun u hu => by simp at hu; subst hu; rfl)
  obtain ⟨v', w', r, o, g, b, _, hk⟩ := append_u8 (w.alloc (.cells #[.int .u8 x] 5)) 22 22 base v n xs (hown.alloc _) _ 1 _ hs hb (by simp; omega)
  refine ⟨v', w', r, o, ⟨g.os, g.tape, g.output, ?_, fun k hk hne => ?_⟩, by simpa using b, hk⟩
  · have := g.size; simp at this; omega
  · rw [g.block k (by simp; omega) hne]
    exact Below.heap_alloc _ _ _ hk

/-- What is owned stays so where nothing that was there turns. -/
theorem _root_.Go.World.ownsRow.below {w w' : World} {base : Nat} {e : TypeId} {size : Nat} {v : Value} {n : Nat} {xs : List Value} (h : w.ownsRow base e size v n xs) {B : Nat} (k : Below B w w') (hB : w.heap.size ≤ B) : w'.ownsRow base e size v n xs := by
  refine ⟨h.1, ?_⟩
  rcases h.2 with h | ⟨g, cap, cur, hv, hb, hg, h1, h2, h3, h4⟩
  · exact .inl h
  · exact .inr ⟨g, cap, cur, hv, hb, by rw [k.block g (by have := block_lt hg; omega)]; exact hg, h1, h2, h3, h4⟩

set_option maxHeartbeats 1000000 in
theorem over_any (v : Value) (n base : Nat) (xs : List Value) (w : World) (ho : w.ownsRow base 5 1 v n xs) (hx : ∀ u ∈ xs, ∃ q, u = .int .u8 q) (hn : n ≤ 1000000) (hbase : base ≤ w.heap.size) :
    Calls Tryd.prog 35 #[v] w fun e w' => e = .returned (.tuple #[]) ∧ w.grownBy w' v.ownBlock := by
  have hform : v = .slice none 0 0 ∧ n = 0 ∨ ∃ g cap, v = .slice (some ⟨g, 0, none⟩) n cap := by
    rcases ho.2 with h | ⟨g, cap, cur, h, _⟩
    · exact .inl h
    · exact .inr ⟨g, cap, h⟩
  rcases hform with ⟨rfl, rfl⟩ | ⟨g, cap, rfl⟩
  · obtain ⟨v', w', r, o', g', b', _⟩ := append1_u8 w base _ 0 xs 238 ho (by omega) hbase
    have G := hide g'
    clear o' g' b' ho hx
    go_enter Tryd.func35, Tryd.ntmps35
    go_wp2_with fail
    go_loop [2] (fun v => v = .int .i64 0) (fun _ => 0)
    case atStart => rfl
    case round =>
      subst hrel
      go_wp2_with (at_builtin; refine wpList_append_run rfl _ _ _ _ rfl _ _ _ _ rfl rfl r ?_)
      go_end0
      exact ⟨rfl, G.out⟩
  · have O := hide ho
    have X := hide hx
    clear ho hx
    go_enter Tryd.func35, Tryd.ntmps35
    go_wp2_with fail
    go_loopw [2] (fun v wr => ∃ k : Nat, v = .int .i64 k ∧ k ≤ n ∧ (∃ ys, wr.ownsRow base 5 1 (.slice (some ⟨g, 0, none⟩) n cap) n ys ∧ ∀ u ∈ ys, ∃ q, u = .int .u8 q) ∧ w.grownBy wr (some g)) (fun v _ => n - (intOf v).toNat)
    case atStart => exact ⟨0, rfl, by omega, ⟨xs, O.out, X.out⟩, ⟨rfl, rfl, rfl, Nat.le_refl _, fun _ _ _ => rfl⟩⟩
    case round =>
      obtain ⟨k, rfl, hk, ⟨ys, hy, hu⟩, hgr⟩ := hrel
      have Y := hide hy
      have U := hide hu
      have G := hide hgr
      clear hy hu hgr
      by_cases hkn : k < n
      · have hl : ys.length = n := by have := Y.out.1; omega
        have hc := Y.out.cellAt k (by omega)
        rw [List.getElem?_eq_getElem (by omega)] at hc
        obtain ⟨q, hq⟩ := U.out ys[k] (List.getElem_mem _)
        rw [hq] at hc
        have hf := Y.out.frozenAt k
        have hst := hide (Y.out.stored k (.int .u8 238))
        clear hl hq
        go_wp2
        go_roundw
        case rel =>
          refine ⟨k + 1, by go_num, by omega, ⟨_, hst.out.1, fun u hu => ?_⟩, ?_⟩
          · rcases List.mem_or_eq_of_mem_set hu with h | h
            · exact U.out u h
            · exact ⟨238, h⟩
          · have h := hst.out.2
            have G1 := G.out
            exact ⟨h.os.trans G1.os, h.tape.trans G1.tape, h.output.trans G1.output, Nat.le_trans G1.size h.size, fun j hj hne => by
              rw [h.block j (by have := G1.size; omega) hne, G1.block j hj hne]⟩
        case measure => simp [intOf]; omega
      · have hb2 : base ≤ wr.heap.size := by have := G.out.size; omega
        obtain ⟨v', w', r, o', g', b', _⟩ := append1_u8 wr base _ n ys 238 Y.out (by omega) hb2
        have G' := hide g'
        clear o' g' b' hb2
        go_wp2_with (at_builtin; refine wpList_append_run rfl _ _ _ _ rfl _ _ _ _ rfl rfl r ?_)
        go_end0
        have h := G'.out
        have G1 := G.out
        exact ⟨rfl, h.os.trans G1.os, h.tape.trans G1.tape, h.output.trans G1.output, Nat.le_trans G1.size h.size, fun j hj hne => by
          rw [h.block j (by have := G1.size; omega) hne, G1.block j hj hne]⟩


end Go.Proofs.YtmogjhljmljpfaaDoor
