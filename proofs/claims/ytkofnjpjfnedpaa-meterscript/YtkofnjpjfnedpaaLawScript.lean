/- MeterScript. -/
import Derived.Test.YtkofnjpjfnedpaaScript0
import Derived.Deep.RegionHeld3
import Derived.Deep.DeepCutAuto
import Derived.Deep.CutBlock
import Derived.Deep.LoopGhost
namespace Go.Proofs.Ytkofnjpjfnedpaa
open Go.RowKit Go.RwLone
set_option linter.unusedVariables false

set_option maxRecDepth 20000 in
set_option maxHeartbeats 6400000 in
theorem script_any (a : Option Addr) (xs : List Do) (ca : Nat) (w : World) (ha : Acts w a xs) :
    Calls Try.prog 3 #[.slice a xs.length ca] w fun e w' => e = .returned (.bool true) ∧ Below w.heap.size w w' := by
  have A := hide ha
  clear ha
  by_cases hla : 80 < xs.length
  · go_enter Try.func3, Try.ntmps3
    go_wp2_with (go_at_call 6; refine (awake_any _).mono ?_; rintro e w' ⟨rfl, hw⟩)
    go_ret
    exact ⟨rfl, hw⟩
  go_enter Try.func3, Try.ntmps3
  go_wp2_with fail
  refine (new_v _).mono ?_
  rintro e w1 ⟨gm, rfl, hgm, hm1, hs1, hf1⟩
  have M1 := hide hm1
  have S1 := hide hs1
  have F1 := hide hf1
  have GM := hide hgm
  clear hm1 hs1 hf1 hgm
  go_wp2_with fail
  go_loopg [4, 5] (xs.length) (fun rem vw vi wr => ∃ (j hr : Nat) (cs : List Int), rem = xs.length - j ∧ vw = .pointer (some ⟨hr, 0, none⟩) ∧ vi = .int .i64 j ∧ j ≤ xs.length ∧ cs.length = 12 ∧ Rng cs ∧ Mt wr gm 0 0 cs ∧ Rt wr hr cs ∧ gm < hr ∧ Below w.heap.size w wr)
  case atStart =>
    refine ⟨0, w1.heap.size, List.replicate 12 0, by omega, rfl, rfl, by omega, rfl, zeros_rng, M1.out.alloc _, Blk.new _ _ _ _ rfl, ?_, F1.out.alloc F1.out.size _⟩
    rw [S1.out]; omega
  case round =>
    obtain ⟨j, hr, cs, hrem, rfl, rfl, hj, hl, hrng, hm, hrt, hgh, hf⟩ := hrel
    have M := hide hm
    have R := hide hrt
    have F := hide hf
    have RN := hide hrng
    have HR := hide hrem
    have GH := hide hgh
    clear hm hrt hf hrng hrem hgh
    by_cases h1 : j < xs.length
    · obtain ⟨b, off, ⟨d, i, old, n, r⟩, rfl, hn, hc⟩ := A.out.cell j h1
      have c0 := hc wr F.out 0 _ rfl
      have c1 := hc wr F.out 1 _ rfl
      have c2 := hc wr F.out 2 _ rfl
      have c3 := hc wr F.out 3 _ rfl
      have c4 := hc wr F.out 4 _ rfl
      simp only [Nat.add_zero] at c0
      dsimp only at c0 c1 c2 c3 c4 hn
      have N := hide hn
      clear hc hn
      have NE1 : Hid (hr ≠ gm) := by have := GH.out; rw [Hid]; omega
      have NE2 : Hid (wr.heap.size ≠ gm) := by have := M.out.lt; rw [Hid]; omega
      have NE3 : Hid (wr.heap.size ≠ hr) := by have := R.out.lt; rw [Hid]; omega
      have NE4 : Hid (w.heap.size ≤ hr) := by have := GH.out; have := GM.out; rw [Hid]; omega
      have NE5 : Hid (w.heap.size ≤ wr.heap.size) := F.out.size
      have NE6 : Hid (w.heap.size ≤ gm) := by have := GM.out; rw [Hid]; omega
      have S3 : Hid (Sit w gm hr wr.heap.size cs cs ⟨d, i, old, n, r⟩ (wr.alloc (.cells (Do.cells ⟨d, i, old, n, r⟩).toArray 31 (0, 0)))) :=
        ⟨M.out.alloc _, R.out.alloc _, Blk.new _ _ _ _ rfl, F.out.alloc F.out.size _⟩
      go_upto_if 29 with fail
      go_cut [] (fun wx => ∃ old', Sit w gm hr wr.heap.size cs cs ⟨d, i, old', n, r⟩ wx)
      case first =>
        cases r with
        | false =>
          go_wp2
          go_meet
          case rel => exact ⟨old, S3.out⟩
        | true =>
          by_cases hi : 0 ≤ i ∧ i < 12
          · obtain ⟨k, rfl⟩ : ∃ k : Nat, i = (k : Int) := ⟨i.toNat, by omega⟩
            go_wp2_with fail
            refine (rget_in hr k cs _ S3.out.r hl RN.out (by omega)).mono ?_
            rintro e w2 ⟨rfl, h2, o2⟩
            have s2 := S3.out.turnR h2 o2 NE1.out NE3.out NE4.out
            have e2 : w2.cell? ⟨wr.heap.size, 2, none⟩ = some (.int .i64 old) := s2.b.cell 2
            have f2 := s2.b.frozen 2
            have T2 := hide (s2.turnB (cAt cs k) NE2.out NE3.out NE5.out)
            clear h2 o2 s2
            go_wp2
            go_meet
            case rel => exact ⟨_, T2.out⟩
          · have HI := hide hi
            clear hi
            go_wp2_with fail
            refine (rget_out _ i _ HI.out).mono ?_
            rintro e w2 ⟨rfl, rfl⟩
            have T2 : Hid (Sit w gm hr wr.heap.size cs cs ⟨d, i, 0, n, true⟩ (wr.alloc (.cells (Do.cells ⟨d, i, 0, n, true⟩).toArray 31 (0, 0)))) :=
              ⟨M.out.alloc _, R.out.alloc _, Blk.new _ _ _ _ rfl, F.out.alloc F.out.size _⟩
            go_wp2
            go_meet
            case rel => exact ⟨0, T2.out⟩
      case rest =>
        obtain ⟨old', hs⟩ := hcut
        have S4 := hide hs
        have e0 : wc.cell? ⟨wr.heap.size, 0, none⟩ = some (.int .i64 d) := hs.b.cell 0
        have e1 : wc.cell? ⟨wr.heap.size, 1, none⟩ = some (.int .i64 i) := hs.b.cell 1
        have e2 : wc.cell? ⟨wr.heap.size, 2, none⟩ = some (.int .i64 old') := hs.b.cell 2
        have e3 : wc.cell? ⟨wr.heap.size, 3, none⟩ = some (.int .i64 n) := hs.b.cell 3
        clear hs c0 c1 c2 c3 c4 S3 M R F
        go_upto_block 2 with fail
        go_cut [4, 7] (fun v4 v7 wx => ∃ (hr' : Nat) (cs' : List Int), v4 = .pointer (some ⟨hr', 0, none⟩) ∧ v7 = .bool true ∧ cs'.length = 12 ∧ Rng cs' ∧ gm < hr' ∧ wr.heap.size ≠ hr' ∧ Sit w gm hr' wr.heap.size cs' cs' ⟨d, i, old', n, r⟩ wx)
        case first =>
          by_cases hd0 : d = 0
          · subst hd0
            by_cases hi : 0 ≤ i ∧ i < 12
            · obtain ⟨k, rfl⟩ : ∃ k : Nat, i = (k : Int) := ⟨i.toNat, by omega⟩
              have hk : k < 12 := by omega
              clear hi
              go_wp2_with fail
              go_region_held3 (fun w' => w'.cell? ⟨wr.heap.size, 1, none⟩ = some (.int .i64 k) ∧ w'.cell? ⟨wr.heap.size, 3, none⟩ = some (.int .i64 n)) (first | exact ⟨g1, g3⟩ | exact ⟨f1, f3⟩ | exact ⟨e1, e3⟩)
                (first
                | (go_at_call 9; refine (add_in gm k n cs _ ?_ hl hk).mono ?_; exact S4.out.drew.m; rintro e w5 ⟨rfl, h5, o5⟩; have s5 := S4.out.drew.turnM h5 o5 NE1.out NE2.out NE6.out; have f1 : w5.cell? ⟨wr.heap.size, 1, none⟩ = some (.int .i64 k) := s5.b.cell 1; have f3 : w5.cell? ⟨wr.heap.size, 3, none⟩ = some (.int .i64 n) := s5.b.cell 3; have S5 := hide s5; clear h5 o5 s5)
                | (go_at_call 10; refine (radd_in hr k n cs _ ?_ hl hk).mono ?_; exact S5.out.r; rintro e w6 ⟨rfl, h6, o6⟩; have s6 := S5.out.turnR h6 o6 NE1.out NE3.out NE4.out; have g1 : w6.cell? ⟨wr.heap.size, 1, none⟩ = some (.int .i64 k) := s6.b.cell 1; have g3 : w6.cell? ⟨wr.heap.size, 3, none⟩ = some (.int .i64 n) := s6.b.cell 3; have S6 := hide s6; clear h6 o6 s6))
              go_wp2
              go_meet
              case rel => exact ⟨hr, cs.set k (wrap64 (cAt cs k + n)), rfl, rfl, by simp [hl], RN.out.set k _ (wrap64_rng _), GH.out, NE3.out, S6.out⟩
            · have HI := hide hi
              clear hi
              go_wp2_with fail
              go_region_held3 (fun w' => w'.cell? ⟨wr.heap.size, 1, none⟩ = some (.int .i64 i) ∧ w'.cell? ⟨wr.heap.size, 3, none⟩ = some (.int .i64 n)) (first | exact ⟨e1, e3⟩)
                (first
                | (go_at_call 9; refine (add_out _ i n _ HI.out).mono ?_; rintro e w5 ⟨rfl, rfl⟩)
                | (go_at_call 10; refine (radd_out _ i n _ HI.out).mono ?_; rintro e w6 ⟨rfl, rfl⟩))
              go_wp2
              go_meet
              case rel => exact ⟨hr, cs, rfl, rfl, hl, RN.out, GH.out, NE3.out, S4.out.drew⟩
          by_cases hd1 : d = 1
          · subst hd1
            by_cases hi : 0 ≤ i ∧ i < 12
            · obtain ⟨k, rfl⟩ : ∃ k : Nat, i = (k : Int) := ⟨i.toNat, by omega⟩
              have hk : k < 12 := by omega
              clear hi
              go_wp2_with fail
              go_region_held3 (fun w' => w'.cell? ⟨wr.heap.size, 1, none⟩ = some (.int .i64 k) ∧ w'.cell? ⟨wr.heap.size, 3, none⟩ = some (.int .i64 n)) (first | exact ⟨g1, g3⟩ | exact ⟨f1, f3⟩ | exact ⟨e1, e3⟩)
                (first
                | (go_at_call 11; refine (most_in gm k n cs _ ?_ hl hk).mono ?_; exact S4.out.drew.m; rintro e w5 ⟨rfl, h5, o5⟩; have s5 := S4.out.drew.turnM h5 o5 NE1.out NE2.out NE6.out; have f1 : w5.cell? ⟨wr.heap.size, 1, none⟩ = some (.int .i64 k) := s5.b.cell 1; have f3 : w5.cell? ⟨wr.heap.size, 3, none⟩ = some (.int .i64 n) := s5.b.cell 3; have S5 := hide s5; clear h5 o5 s5)
                | (go_at_call 12; refine (rmost_in hr k n cs _ ?_ hl RN.out N.out hk).mono ?_; exact S5.out.r; rintro e w6 ⟨rfl, h6, o6⟩; have s6 := S5.out.turnR h6 o6 NE1.out NE3.out NE4.out; have g1 : w6.cell? ⟨wr.heap.size, 1, none⟩ = some (.int .i64 k) := s6.b.cell 1; have g3 : w6.cell? ⟨wr.heap.size, 3, none⟩ = some (.int .i64 n) := s6.b.cell 3; have S6 := hide s6; clear h6 o6 s6))
              go_wp2
              go_meet
              case rel => exact ⟨hr, cs.set k (mostIs cs k n), rfl, rfl, by simp [hl], RN.out.set k _ (mostIs_rng RN.out k (by omega) N.out), GH.out, NE3.out, S6.out⟩
            · have HI := hide hi
              clear hi
              go_wp2_with fail
              go_region_held3 (fun w' => w'.cell? ⟨wr.heap.size, 1, none⟩ = some (.int .i64 i) ∧ w'.cell? ⟨wr.heap.size, 3, none⟩ = some (.int .i64 n)) (first | exact ⟨e1, e3⟩)
                (first
                | (go_at_call 11; refine (most_out _ i n _ HI.out).mono ?_; rintro e w5 ⟨rfl, rfl⟩)
                | (go_at_call 12; refine (rmost_out _ i n _ HI.out).mono ?_; rintro e w6 ⟨rfl, rfl⟩))
              go_wp2
              go_meet
              case rel => exact ⟨hr, cs, rfl, rfl, hl, RN.out, GH.out, NE3.out, S4.out.drew⟩
          by_cases hd2 : d = 2
          · subst hd2
            by_cases hi : 0 ≤ i ∧ i < 12
            · obtain ⟨k, rfl⟩ : ∃ k : Nat, i = (k : Int) := ⟨i.toNat, by omega⟩
              have hk : k < 12 := by omega
              clear hi
              go_wp2_with fail
              go_region_held3 (fun w' => w'.cell? ⟨wr.heap.size, 1, none⟩ = some (.int .i64 k) ∧ w'.cell? ⟨wr.heap.size, 2, none⟩ = some (.int .i64 old') ∧ w'.cell? ⟨wr.heap.size, 3, none⟩ = some (.int .i64 n)) (first | exact ⟨g1, g2, g3⟩ | exact ⟨f1, f2, f3⟩ | exact ⟨e1, e2, e3⟩)
                (first
                | (go_at_call 13; refine (swap_in gm k old' n cs _ ?_ hl hk).mono ?_; exact S4.out.drew.m; rintro e w5 ⟨rfl, h5, o5⟩; have s5 := S4.out.drew.turnM h5 o5 NE1.out NE2.out NE6.out; have f1 : w5.cell? ⟨wr.heap.size, 1, none⟩ = some (.int .i64 k) := s5.b.cell 1; have f2 : w5.cell? ⟨wr.heap.size, 2, none⟩ = some (.int .i64 old') := s5.b.cell 2; have f3 : w5.cell? ⟨wr.heap.size, 3, none⟩ = some (.int .i64 n) := s5.b.cell 3; have S5 := hide s5; clear h5 o5 s5)
                | (go_at_call 14; refine (rswap_in hr k old' n cs _ ?_ hl hk).mono ?_; exact S5.out.r; rintro e w6 ⟨rfl, h6, o6⟩; have s6 := S5.out.turnR h6 o6 NE1.out NE3.out NE4.out; have g1 : w6.cell? ⟨wr.heap.size, 1, none⟩ = some (.int .i64 k) := s6.b.cell 1; have g2 : w6.cell? ⟨wr.heap.size, 2, none⟩ = some (.int .i64 old') := s6.b.cell 2; have g3 : w6.cell? ⟨wr.heap.size, 3, none⟩ = some (.int .i64 n) := s6.b.cell 3; have S6 := hide s6; clear h6 o6 s6))
              go_wp2
              go_meet
              case rel => exact ⟨hr, swapped cs k old' n, rfl, rfl, by rw [swapped_length]; exact hl, swapped_rng RN.out k _ N.out, GH.out, NE3.out, S6.out⟩
            · have HI := hide hi
              clear hi
              go_wp2_with fail
              go_region_held3 (fun w' => w'.cell? ⟨wr.heap.size, 1, none⟩ = some (.int .i64 i) ∧ w'.cell? ⟨wr.heap.size, 2, none⟩ = some (.int .i64 old') ∧ w'.cell? ⟨wr.heap.size, 3, none⟩ = some (.int .i64 n)) (first | exact ⟨e1, e2, e3⟩)
                (first
                | (go_at_call 13; refine (swap_out _ i old' n _ HI.out).mono ?_; rintro e w5 ⟨rfl, rfl⟩)
                | (go_at_call 14; refine (rswap_out _ i old' n _ HI.out).mono ?_; rintro e w6 ⟨rfl, rfl⟩))
              go_wp2
              go_meet
              case rel => exact ⟨hr, cs, rfl, rfl, hl, RN.out, GH.out, NE3.out, S4.out.drew⟩
          by_cases hd3 : d = 3
          · subst hd3
            go_wp2_with fail
            refine (reset_any gm cs _ S4.out.m hl).mono ?_
            rintro e w5 ⟨rfl, h5, o5⟩
            have s5 := S4.out.turnM h5 o5 NE1.out NE2.out NE6.out
            have S5 := hide s5
            clear h5 o5 s5
            go_wp2
            go_meet
            case rel => exact ⟨w5.heap.size, List.replicate 12 0, rfl, rfl, rfl, zeros_rng, S5.out.m.lt, Nat.ne_of_lt S5.out.b.lt, S5.out.fresh⟩
          · go_wp2
            go_meet
            case rel => exact ⟨hr, cs, rfl, rfl, hl, RN.out, GH.out, NE3.out, S4.out⟩
        case rest =>
          obtain ⟨hr', cs', rfl, rfl, hl', hrng', hgh', hne', hs'⟩ := hcut
          have S5 := hide hs'
          have RN' := hide hrng'
          have GH' := hide hgh'
          have NE1' : Hid (hr' ≠ gm) := by rw [Hid]; omega
          have NE3' := hide hne'
          have NE4' : Hid (w.heap.size ≤ hr') := by have := GM.out; rw [Hid]; omega
          clear hs' hrng' hgh' hne' S4 e0 e1 e2 e3
          go_wp2_with fail
          refine (all_v gm cs' _ S5.out.m hl').mono ?_
          rintro e w7 ⟨q, rfl, h7, f7, hq⟩
          have QG' : Hid (gm < q) := by rw [Hid, hq]; exact S5.out.m.lt
          have QH' : Hid (hr' < q) := by rw [Hid, hq]; exact S5.out.r.lt
          have QB' : Hid (wr.heap.size < q) := by rw [Hid, hq]; exact S5.out.b.lt
          have QW : Hid (w.heap.size ≤ q) := by rw [Hid, hq]; exact S5.out.f.size
          have QG : Hid (q ≠ gm) := by have := QG'.out; rw [Hid]; omega
          have QH : Hid (q ≠ hr') := by have := QH'.out; rw [Hid]; omega
          have S7 := hide (S5.out.below f7 S5.out.m.lt S5.out.r.lt S5.out.b.lt S5.out.f.size)
          have A7 := hide h7
          clear h7 f7 hq S5
          have p1 : w7.cell? ⟨wr.heap.size, 1, none⟩ = some (.int .i64 i) := S7.out.b.cell 1
          by_cases hi : 0 ≤ i ∧ i < 12
          · obtain ⟨k, rfl⟩ : ∃ k : Nat, i = (k : Int) := ⟨i.toNat, by omega⟩
            have hk : k < 12 := by omega
            clear hi
            go_wp2_with fail
            go_region_held3 (fun w' => w'.cell? ⟨wr.heap.size, 1, none⟩ = some (.int .i64 k)) (first | exact p4 | exact p3 | exact p2 | exact p1)
              (first
              | (go_at_call 17; refine (get_in gm k cs' _ ?_ hl' hk).mono ?_; exact S7.out.drew.m; rintro e w8 ⟨rfl, h8, o8⟩; have s8 := S7.out.drew.turnM h8 o8 NE1'.out NE2.out NE6.out; have p2 : w8.cell? ⟨wr.heap.size, 1, none⟩ = some (.int .i64 k) := s8.b.cell 1; have S8 := hide s8; have A8 := hide (Blk.only A7.out.drew o8 QG.out); clear h8 o8 s8)
              | (go_at_call 8; refine (rget_in hr' k cs' _ ?_ hl' RN'.out hk).mono ?_; exact S8.out.r; rintro e w9 ⟨rfl, h9, o9⟩; have s9 := S8.out.turnR h9 o9 NE1'.out NE3'.out NE4'.out; have p3 : w9.cell? ⟨wr.heap.size, 1, none⟩ = some (.int .i64 k) := s9.b.cell 1; have S9 := hide s9; have A9 := hide (Blk.only A8.out o9 QH.out); clear h9 o9 s9)
              | (go_at_call 18; refine (same_any q hr' 2 29 cs' _ A9.out S9.out.r hl').mono ?_; rintro e w10 ⟨rfl, t10⟩; have s10 := S9.out.still t10; have p4 : w10.cell? ⟨wr.heap.size, 1, none⟩ = some (.int .i64 k) := s10.b.cell 1; have S10 := hide s10; have A10 := hide (t10.blk A9.out); clear t10 s10))
            go_wp2_with fail
            refine (over_any q cs' _ A10.out hl').mono ?_
            rintro e w11 ⟨rfl, f11⟩
            have M11 := hide (S10.out.m.below f11 QG'.out)
            have R11 := hide (S10.out.r.below f11 QH'.out)
            have F11 := hide (S10.out.f.trans (f11.mono QW.out))
            clear f11
            go_wp2
            go_roundg (xs.length - (j + 1))
            case measure => have := HR.out; omega
            case rel => exact ⟨j + 1, hr', cs', rfl, rfl, by go_num, by omega, hl', RN'.out, M11.out, R11.out, GH'.out, F11.out⟩
          · have HI := hide hi
            clear hi
            go_wp2_with fail
            go_region_held3 (fun w' => w'.cell? ⟨wr.heap.size, 1, none⟩ = some (.int .i64 i)) (first | exact p4 | exact p1)
              (first
              | (go_at_call 17; refine (get_out _ i _ HI.out).mono ?_; rintro e w8 ⟨rfl, rfl⟩)
              | (go_at_call 8; refine (rget_out _ i _ HI.out).mono ?_; rintro e w9 ⟨rfl, rfl⟩)
              | (go_at_call 18; refine (same_any q hr' 2 29 cs' _ ?_ ?_ hl').mono ?_; exact A7.out.drew; exact S7.out.drew.r; rintro e w10 ⟨rfl, t10⟩; have s10 := S7.out.drew.still t10; have p4 : w10.cell? ⟨wr.heap.size, 1, none⟩ = some (.int .i64 i) := s10.b.cell 1; have S10 := hide s10; have A10 := hide (t10.blk A7.out.drew); clear t10 s10))
            go_wp2_with fail
            refine (over_any q cs' _ A10.out hl').mono ?_
            rintro e w11 ⟨rfl, f11⟩
            have M11 := hide (S10.out.m.below f11 QG'.out)
            have R11 := hide (S10.out.r.below f11 QH'.out)
            have F11 := hide (S10.out.f.trans (f11.mono QW.out))
            clear f11
            go_wp2
            go_roundg (xs.length - (j + 1))
            case measure => have := HR.out; omega
            case rel => exact ⟨j + 1, hr', cs', rfl, rfl, by go_num, by omega, hl', RN'.out, M11.out, R11.out, GH'.out, F11.out⟩
    · go_wp2_with fail
      refine (awake_any _).mono ?_
      rintro e w3 ⟨rfl, f3⟩
      have F3 := hide (F.out.trans (f3.mono F.out.size))
      clear f3
      go_wp2
      go_ret
      exact ⟨rfl, F3.out⟩
end Go.Proofs.Ytkofnjpjfnedpaa
