/- MeterAlone. -/
import Derived.Test.YtkofnjpjfnedpaaAwake3
import Derived.Test.YtkofnjpjfnedpaaLongs
import Derived.Deep.RegionHeld3
namespace Go.Proofs.Ytkofnjpjfnedpaa
open Go.RowKit Go.RwLone
set_option linter.unusedVariables false

/-- A slice of numbers that came in. -/
def Rd64 (w : World) (a : Option Addr) (xs : List Int) : Prop :=
  (∀ x ∈ xs, -9223372036854775808 ≤ x ∧ x ≤ 9223372036854775807) ∧ (xs = [] ∨ ∃ b off, a = some ⟨b, off, none⟩ ∧ ∀ i, i < xs.length → w.cell? ⟨b, off + i, none⟩ = some (.int .i64 (cAt xs i)))
theorem Rd64.range {w : World} {a : Option Addr} {xs : List Int} (h : Rd64 w a xs) (i : Nat) (hi : i < xs.length) : -9223372036854775808 ≤ cAt xs i ∧ cAt xs i ≤ 9223372036854775807 :=
  h.1 _ (by simp [cAt, hi])

/-- A cell of it, as long as nothing that was there has turned. -/
theorem Rd64.cell {w : World} {a : Option Addr} {xs : List Int} (h : Rd64 w a xs) (i : Nat) (hi : i < xs.length) :
    ∃ b off, a = some ⟨b, off, none⟩ ∧ ∀ w' : World, Below w.heap.size w w' → w'.cell? ⟨b, off + i, none⟩ = some (.int .i64 (cAt xs i)) := by
  rcases h.2 with h | ⟨b, off, ha, hc⟩
  · subst h; simp at hi
  · refine ⟨b, off, ha, fun w' hw => ?_⟩
    have := World.block_lt_of_cell? w _ (hc i hi)
    rw [hw.cell (p := ⟨b, off + i, none⟩) (by simp at this ⊢; omega)]
    exact hc i hi

/-- A new meter, by what is known of it. -/
theorem new_v (w : World) : Calls Try.prog 7 #[] w fun e w' => ∃ g, e = .returned (.pointer (some ⟨g, 0, none⟩)) ∧ g = w.heap.size ∧ Mt w' g 0 0 (List.replicate 12 0) ∧ w'.heap.size = g + 1 ∧ Below w.heap.size w w' := by
  refine (new_any w).mono ?_
  rintro e w' ⟨rfl, rfl⟩
  exact ⟨_, rfl, rfl, Blk.new w _ _ _ rfl, by simp, (Below.refl _ _).alloc (Nat.le_refl _) _⟩

/-- The two meters and the two arrays. -/
structure Four (w : World) (gm gg b : Nat) (cs ds ss ms : List Int) : Prop where
  m : Mt w gm 0 0 cs
  g : Mt w gg 0 0 ds
  s : Blk w b 27 (i64s ss)
  t : Blk w (b + 1) 27 (i64s ms)
theorem i64s_set (cs : List Int) (k : Nat) (v : Int) : (i64s cs).set k (.int .i64 v) = i64s (cs.set k v) := by simp [i64s, List.map_set]
theorem Four.put {w : World} {gm gg b : Nat} {cs ds ss ms : List Int} (h : Four w gm gg b cs ds ss ms) (h1 : gm < b) (h2 : gg < b) (k : Nat) (u v : Int) :
    Four ((w.setCell ⟨b, k, none⟩ (.int .i64 u)).setCell ⟨b + 1, k, none⟩ (.int .i64 v)) gm gg b cs ds (ss.set k u) (ms.set k v) := by
  have o1 := (Only.refl b w).setCell k (.int .i64 u)
  have o2 := (Only.refl (b + 1) (w.setCell ⟨b, k, none⟩ (.int .i64 u))).setCell k (.int .i64 v)
  refine ⟨(h.m.only o1 (by omega)).only o2 (by omega), (h.g.only o1 (by omega)).only o2 (by omega), ?_, ?_⟩
  · have := (h.s.set k (.int .i64 u)).only o2 (by omega)
    rwa [i64s_set] at this
  · have := (h.t.only o1 (by omega)).set k (.int .i64 v)
    rwa [i64s_set] at this
theorem Four.cell1 {w : World} {gm gg b : Nat} {cs ds ss ms : List Int} (h : Four w gm gg b cs ds ss ms) (k : Nat) (hk : k < ss.length) : w.cell? ⟨b, k, none⟩ = some (.int .i64 (cAt ss k)) := (h.s.cell k).trans (i64s_get _ k hk)
theorem Four.cell2 {w : World} {gm gg b : Nat} {cs ds ss ms : List Int} (h : Four w gm gg b cs ds ss ms) (k : Nat) (hk : k < ms.length) : w.cell? ⟨b + 1, k, none⟩ = some (.int .i64 (cAt ms k)) := (h.t.cell k).trans (i64s_get _ k hk)
theorem Four.drew {w : World} {gm gg b : Nat} {cs ds ss ms : List Int} (h : Four w gm gg b cs ds ss ms) : Four w.drew gm gg b cs ds ss ms := ⟨h.m, h.g, h.s, h.t⟩
theorem Four.turnM {w w' : World} {gm gg b : Nat} {cs cs' ds ss ms : List Int} (h : Four w gm gg b cs ds ss ms) (hb : Mt w' gm 0 0 cs') (o : Only gm w w') (h1 : gg ≠ gm) (h2 : b ≠ gm) (h3 : b + 1 ≠ gm) : Four w' gm gg b cs' ds ss ms :=
  ⟨hb, h.g.only o h1, h.s.only o h2, h.t.only o h3⟩
theorem Four.turnG {w w' : World} {gm gg b : Nat} {cs ds ds' ss ms : List Int} (h : Four w gm gg b cs ds ss ms) (hb : Mt w' gg 0 0 ds') (o : Only gg w w') (h1 : gg ≠ gm) (h2 : b ≠ gg) (h3 : b + 1 ≠ gg) : Four w' gm gg b cs ds' ss ms :=
  ⟨h.m.only o h1.symm, hb, h.s.only o h2, h.t.only o h3⟩
theorem cAt_set (cs : List Int) (k : Nat) (v : Int) (hk : k < cs.length) : cAt (cs.set k v) k = v := by simp [cAt, hk]

/-- What holds while the end is told. -/
structure Held (w : World) (gm gg ba bb b : Nat) (ss ms : List Int) (w' : World) : Prop where
  m : Mt w' gm 0 0 (List.replicate 12 0)
  g : Mt w' gg 0 0 ms
  a : Blk w' ba 2 (i64s ss)
  c : Blk w' bb 2 (i64s ms)
  s : Blk w' b 27 (i64s ss)
  t : Blk w' (b + 1) 27 (i64s ms)
  f : Below w.heap.size w w'
theorem Held.below {w : World} {gm gg ba bb b : Nat} {ss ms : List Int} {w' w'' : World} (h : Held w gm gg ba bb b ss ms w') (k : Below w'.heap.size w' w'') : Held w gm gg ba bb b ss ms w'' :=
  ⟨h.m.below k h.m.lt, h.g.below k h.g.lt, h.a.below k h.a.lt, h.c.below k h.c.lt, h.s.below k h.s.lt, h.t.below k h.t.lt, h.f.trans (k.mono h.f.size)⟩
theorem Held.still {w : World} {gm gg ba bb b : Nat} {ss ms : List Int} {w' w'' : World} (h : Held w gm gg ba bb b ss ms w') (k : Still w' w'') : Held w gm gg ba bb b ss ms w'' := h.below (k.below _)
theorem Held.drew {w : World} {gm gg ba bb b : Nat} {ss ms : List Int} {w' : World} (h : Held w gm gg ba bb b ss ms w') : Held w gm gg ba bb b ss ms w'.drew := h.below (Below.refl _ _).drew
theorem Held.alloc {w : World} {gm gg ba bb b : Nat} {ss ms : List Int} {w' : World} (h : Held w gm gg ba bb b ss ms w') (o : Obj) : Held w gm gg ba bb b ss ms (w'.alloc o) := h.below ((Below.refl _ _).alloc (Nat.le_refl _) _)
/-- All, by what is known of what it answers. -/
theorem all_v (g : Nat) (cs : List Int) (w : World) (hb : Mt w g 0 0 cs) (hl : cs.length = 12) :
    Calls Try.prog 16 #[.pointer (some ⟨g, 0, none⟩)] w fun e w' => ∃ q, e = .returned (.slice (some ⟨q, 0, none⟩) 12 12) ∧ Blk w' q 2 (i64s cs) ∧ Below w.heap.size w w' ∧ q = w.heap.size := by
  refine (all_any g cs w hb hl).mono ?_
  rintro e w' ⟨rfl, h1, h2⟩
  exact ⟨_, rfl, h1, h2, rfl⟩
theorem mk_i64 (w : World) : (Instr.makeSlice 35 (.int .i64 12) (.int .i64 12)).run Try.prog w = .ok (.slice (some ⟨w.heap.size, 0, none⟩) 12 12) (w.alloc (.cells (i64s (List.replicate 12 0)).toArray 2 (0, 0))) := by
  obtain ⟨i, h1, h2, h3, h4⟩ := info_i64
  have hr := run_make (P := Try.prog) w 35 2 i (.int .i64 0) Try.underlying35 h1 h2 .i64 .i64 12 12 (by omega) (by omega) (by rw [h4]; omega) (by omega)
  simp only [h3] at hr
  rw [show (i64s (List.replicate 12 0)) = List.replicate 12 (Value.int .i64 0) from by simp [i64s], ← toList_madeCells_one (Value.int .i64 0) 12]
  exact hr

set_option maxHeartbeats 3200000 in
theorem alone_any (a b : Option Addr) (xs ys : List Int) (ca cb : Nat) (w : World) (ha : Rd64 w a xs) (hb : Rd64 w b ys) :
    Calls Try.prog 5 #[.slice a xs.length ca, .slice b ys.length cb] w fun e w' => e = .returned (.bool true) ∧ Below w.heap.size w w' := by
  have A := hide ha
  have B := hide hb
  clear ha hb
  by_cases hla : 60 < xs.length
  · go_enter Try.func5, Try.ntmps5
    go_wp2_with (go_at_call 6; refine (awake_any _).mono ?_; rintro e w' ⟨rfl, hw⟩)
    go_ret
    exact ⟨rfl, hw⟩
  by_cases hlb : 60 < ys.length
  · go_enter Try.func5, Try.ntmps5
    go_wp2_with (go_at_call 6; refine (awake_any _).mono ?_; rintro e w' ⟨rfl, hw⟩)
    go_ret
    exact ⟨rfl, hw⟩
  go_enter Try.func5, Try.ntmps5
  go_wp2_with fail
  refine (new_v _).mono ?_
  rintro e w1 ⟨gm, rfl, hgm, hm1, hs1, hf1⟩
  have M1 := hide hm1
  have S1 := hide hs1
  have F1 := hide hf1
  have GM := hide hgm
  clear hm1 hs1 hf1 hgm
  go_wp2_with fail
  refine (new_v _).mono ?_
  rintro e w2 ⟨gg, rfl, hgg, hm2, hs2, hf2⟩
  have hgg' : gg = gm + 1 := by rw [hgg, S1.out]
  have M2 : Hid (Mt w2 gm 0 0 (List.replicate 12 0)) := M1.out.below hf2 (M1.out.lt)
  have G2 := hide hm2
  have S2 := hide hs2
  have F2 : Hid (Below w.heap.size w w2) := F1.out.trans (hf2.mono (by rw [S1.out, GM.out]; omega))
  have GG := hide hgg'
  clear hm2 hs2 hf2 hgg hgg' M1 F1 S1
  go_wp2_with fail
  go_loopw [9] (fun v wr => ∃ (j : Nat) (ss ms : List Int), v = .int .i64 j ∧ j ≤ 60 ∧ ss.length = 12 ∧ ms.length = 12 ∧ Mt wr gm 0 0 ss ∧ Mt wr gg 0 0 ms ∧ Blk wr w2.heap.size 27 (i64s ss) ∧ Blk wr (w2.heap.size + 1) 27 (i64s ms) ∧ Below w.heap.size w wr ∧ wr.heap.size = w2.heap.size + 1 + 1) (fun v _ => 61 - (intOf v).toNat)
  case atStart =>
    refine ⟨0, List.replicate 12 0, List.replicate 12 0, rfl, by omega, rfl, rfl, ?_, ?_, ?_, ?_, ?_, ?_⟩
    · exact (M2.out.alloc _).alloc _
    · exact (G2.out.alloc _).alloc _
    · exact (Blk.new _ _ _ _ rfl).alloc _
    · have := Blk.new (w2.alloc (.cells (i64s (List.replicate 12 0)).toArray 27 (0, 0))) 27 (i64s (List.replicate 12 0)) _ rfl
      rw [World.size_alloc] at this
      exact this
    · exact (F2.out.alloc F2.out.size _).alloc (by have := F2.out.size; simp; omega) _
    · simp
  case round =>
    obtain ⟨j, ss, ms, rfl, hj, hls, hlm, hm, hg, hs, ht, hf, hz⟩ := hrel
    have M := hide hm
    have G := hide hg
    have S := hide hs
    have T := hide ht
    have F := hide hf
    have Z := hide hz
    clear hm hg hs ht hf hz
    by_cases h1 : j < xs.length
    · by_cases h2 : j < ys.length
      · obtain ⟨bx, ox, rfl, hcx⟩ := A.out.cell j h1
        obtain ⟨by', oy, rfl, hcy⟩ := B.out.cell j h2
        have cx := hcx wr F.out
        have cy := hcy wr F.out
        have rx := A.out.range j h1
        have ry := B.out.range j h2
        clear hcx hcy
        generalize cAt xs j = x at *
        generalize cAt ys j = y at *
        go_wp2_with fail
        go_quiet (first | (go_at_call 20; refine Calls.quiet_of_same (low_any _ _ ?_ ?_ ?_ ?_ _) <;> omega))
        obtain ⟨k, hk, hk12⟩ : ∃ k : Nat, lowK x 12 = (k : Int) ∧ k < 12 := by
          have := lowK_range x 12 (by omega)
          exact ⟨(lowK x 12).toNat, by omega, by omega⟩
        have hn := lowK_range y 1000 (by omega)
        have ST : Still wr (wr.drewN nq) := ⟨_, rfl⟩
        rw [hk]
        generalize lowK y 1000 = n at *
        generalize wr.drewN nq = w3 at *
        have M3 := hide (ST.blk M.out)
        have G3 := hide (ST.blk G.out)
        have S3 := hide (ST.blk S.out)
        have T3 := hide (ST.blk T.out)
        have F3 := hide (F.out.trans (ST.below _))
        have Z3 := hide (ST.size.trans Z.out)
        have c1 : w3.cell? ⟨w2.heap.size, k, none⟩ = some (.int .i64 (cAt ss k)) := (S3.out.cell k).trans (i64s_get _ k (by omega))
        have c2 : w3.cell? ⟨w2.heap.size + 1, k, none⟩ = some (.int .i64 (cAt ms k)) := (T3.out.cell k).trans (i64s_get _ k (by omega))
        have f1 := S3.out.frozen k
        have f2 := T3.out.frozen k
        have hlt1 : gm < w2.heap.size := M2.out.lt
        have hlt2 : gg < w2.heap.size := G2.out.lt
        have P : Hid (∀ v, v = mostIs ms k n → Four ((w3.setCell ⟨w2.heap.size, k, none⟩ (.int .i64 (wrap64 (cAt ss k + n)))).setCell ⟨w2.heap.size + 1, k, none⟩ (.int .i64 v)) gm gg w2.heap.size ss ms (ss.set k (wrap64 (cAt ss k + n))) (ms.set k (mostIs ms k n))) :=
          fun v hv => by rw [← hv]; exact (Four.mk M3.out G3.out S3.out T3.out).put hlt1 hlt2 k (wrap64 (cAt ss k + n)) v
        have PF := hide (fun v => (F3.out.setCell (p := ⟨w2.heap.size, k, none⟩) F2.out.size (.int .i64 (wrap64 (cAt ss k + n)))).setCell (p := ⟨w2.heap.size + 1, k, none⟩) (Nat.le_succ_of_le F2.out.size) (.int .i64 v))
        have PZ : Hid (∀ v, ((w3.setCell ⟨w2.heap.size, k, none⟩ (.int .i64 (wrap64 (cAt ss k + n)))).setCell ⟨w2.heap.size + 1, k, none⟩ (.int .i64 v)).heap.size = w2.heap.size + 1 + 1) := fun v => by simp [World.setCell, Z3.out]
        clear hk rx ry cx cy ST M G S T F Z hlt1 hlt2 M3 G3 S3 T3 F3 Z3
        have NE1 : Hid (gg ≠ gm) := by rw [Hid, GG.out]; omega
        have NE2 : Hid (w2.heap.size ≠ gm) := by rw [Hid, S2.out, GG.out]; omega
        have NE3 : Hid (w2.heap.size + 1 ≠ gm) := by rw [Hid, S2.out, GG.out]; omega
        have NE4 : Hid (w2.heap.size ≠ gg) := by rw [Hid, S2.out]; omega
        have NE5 : Hid (w2.heap.size + 1 ≠ gg) := by rw [Hid, S2.out]; omega
        by_cases hmx : n ≤ cAt ms k
        · have hv : cAt ms k = mostIs ms k n := by rw [mostIs, if_pos hmx]
          have HV := hide hv
          clear hv
          go_wp2
          have hv := HV.out
          have q := P.out (cAt ms k) hv
          have qf := PF.out (cAt ms k)
          have qz := PZ.out (cAt ms k)
          generalize ((w3.setCell ⟨w2.heap.size, k, none⟩ (.int .i64 (wrap64 (cAt ss k + n)))).setCell ⟨w2.heap.size + 1, k, none⟩ (.int .i64 (cAt ms k))) = w4 at q qf qz ⊢
          have Q := hide q
          have QF := hide qf
          have QZ := hide qz
          have d1 : w4.cell? ⟨w2.heap.size, k, none⟩ = some (.int .i64 (wrap64 (cAt ss k + n))) := by rw [q.cell1 k (by simp; omega), cAt_set _ _ _ (by omega)]
          have hne1 := NE1.out
          clear q qf qz c1 c2 f1 f2 P PF PZ hv hmx
          have hl2 : (ss.set k (wrap64 (cAt ss k + n))).length = 12 := by simp [hls]
          have hl3 : (ms.set k (mostIs ms k n)).length = 12 := by simp [hlm]
          have E2 := hide (cAt_set ss k (wrap64 (cAt ss k + n)) (hls ▸ hk12))
          have E3 := hide (cAt_set ms k (mostIs ms k n) (hlm ▸ hk12))
          have ST1 : Hid (∀ w5, Mt w5 gm 0 0 (ss.set k (wrap64 (cAt ss k + n))) → Only gm w4.drew w5 → Four w5 gm gg w2.heap.size (ss.set k (wrap64 (cAt ss k + n))) ms (ss.set k (wrap64 (cAt ss k + n))) (ms.set k (mostIs ms k n)) ∧ w5.cell? ⟨w2.heap.size, k, none⟩ = some (.int .i64 (wrap64 (cAt ss k + n))) ∧ w5.cell? ⟨w2.heap.size + 1, k, none⟩ = some (.int .i64 (mostIs ms k n))) := by
            intro w5 hb ho
            have h5 := Q.out.drew.turnM hb ho NE1.out NE2.out NE3.out
            refine ⟨h5, ?_, ?_⟩
            · rw [h5.cell1 k (by omega), E2.out]
            · rw [h5.cell2 k (by omega), E3.out]
          have ST2 : Hid (∀ w5 w6, Four w5 gm gg w2.heap.size (ss.set k (wrap64 (cAt ss k + n))) ms (ss.set k (wrap64 (cAt ss k + n))) (ms.set k (mostIs ms k n)) → Mt w6 gg 0 0 (ms.set k (mostIs ms k n)) → Only gg w5 w6 → Four w6 gm gg w2.heap.size (ss.set k (wrap64 (cAt ss k + n))) (ms.set k (mostIs ms k n)) (ss.set k (wrap64 (cAt ss k + n))) (ms.set k (mostIs ms k n)) ∧ w6.cell? ⟨w2.heap.size, k, none⟩ = some (.int .i64 (wrap64 (cAt ss k + n))) ∧ w6.cell? ⟨w2.heap.size + 1, k, none⟩ = some (.int .i64 (mostIs ms k n))) := by
            intro w5 w6 h5 hb ho
            have h6 := h5.turnG hb ho NE1.out NE4.out NE5.out
            refine ⟨h6, ?_, ?_⟩
            · rw [h6.cell1 k (by omega), E2.out]
            · rw [h6.cell2 k (by omega), E3.out]
          clear hl2 hl3 hne1
          have hki : (k : Int) < 12 := by omega
          have d0 : w4.cell? ⟨w2.heap.size + 1, k, none⟩ = some (.int .i64 (mostIs ms k n)) := by rw [Q.out.cell2 k (by simp; omega), E3.out]
          go_region_held3 (fun w' => w'.cell? ⟨w2.heap.size, k, none⟩ = some (.int .i64 (wrap64 (cAt ss k + n))) ∧ w'.cell? ⟨w2.heap.size + 1, k, none⟩ = some (.int .i64 (mostIs ms k n))) (first | exact ⟨d4, d5⟩ | exact ⟨d2, d3⟩ | exact ⟨d1, d0⟩)
            (first
            | (go_at_call 9; refine (add_in gm k n ss _ ?_ hls hk12).mono ?_; exact Q.out.drew.m; rintro e w5 ⟨rfl, hb5, ho5⟩; obtain ⟨q5, d2, d3⟩ := ST1.out w5 hb5 ho5; have Q5 := hide q5; have O5 := hide ho5; clear hb5 ho5 q5)
            | (go_at_call 11; refine (most_in gg k n ms _ ?_ hlm hk12).mono ?_; exact Q5.out.g; rintro e w6 ⟨rfl, hb6, ho6⟩; obtain ⟨q6, d4, d5⟩ := ST2.out _ w6 Q5.out hb6 ho6; have Q6 := hide q6; have O6 := hide ho6; clear hb6 ho6 q6))
          go_wp2
          go_roundw
          case measure => simp only [intOf]; omega
          case rel =>
            refine ⟨j + 1, ss.set k (wrap64 (cAt ss k + n)), ms.set k (mostIs ms k n), by go_num, by omega, by simp [hls], by simp [hlm], Q6.out.m, Q6.out.g, Q6.out.s, Q6.out.t, ?_, ?_⟩
            · have g1 := GM.out
              have g2 := GG.out
              exact QF.out.drew.trans ((O5.out.below (by omega)).trans (O6.out.below (by omega)))
            · exact O6.out.size.trans (O5.out.size.trans QZ.out)
        · have hv : n = mostIs ms k n := by rw [mostIs, if_neg hmx]
          have HV := hide hv
          clear hv
          go_wp2
          have hv := HV.out
          have q := P.out (n) hv
          have qf := PF.out (n)
          have qz := PZ.out (n)
          generalize ((w3.setCell ⟨w2.heap.size, k, none⟩ (.int .i64 (wrap64 (cAt ss k + n)))).setCell ⟨w2.heap.size + 1, k, none⟩ (.int .i64 (n))) = w4 at q qf qz ⊢
          have Q := hide q
          have QF := hide qf
          have QZ := hide qz
          have d1 : w4.cell? ⟨w2.heap.size, k, none⟩ = some (.int .i64 (wrap64 (cAt ss k + n))) := by rw [q.cell1 k (by simp; omega), cAt_set _ _ _ (by omega)]
          have hne1 := NE1.out
          clear q qf qz c1 c2 f1 f2 P PF PZ hv hmx
          have hl2 : (ss.set k (wrap64 (cAt ss k + n))).length = 12 := by simp [hls]
          have hl3 : (ms.set k (mostIs ms k n)).length = 12 := by simp [hlm]
          have E2 := hide (cAt_set ss k (wrap64 (cAt ss k + n)) (hls ▸ hk12))
          have E3 := hide (cAt_set ms k (mostIs ms k n) (hlm ▸ hk12))
          have ST1 : Hid (∀ w5, Mt w5 gm 0 0 (ss.set k (wrap64 (cAt ss k + n))) → Only gm w4.drew w5 → Four w5 gm gg w2.heap.size (ss.set k (wrap64 (cAt ss k + n))) ms (ss.set k (wrap64 (cAt ss k + n))) (ms.set k (mostIs ms k n)) ∧ w5.cell? ⟨w2.heap.size, k, none⟩ = some (.int .i64 (wrap64 (cAt ss k + n))) ∧ w5.cell? ⟨w2.heap.size + 1, k, none⟩ = some (.int .i64 (mostIs ms k n))) := by
            intro w5 hb ho
            have h5 := Q.out.drew.turnM hb ho NE1.out NE2.out NE3.out
            refine ⟨h5, ?_, ?_⟩
            · rw [h5.cell1 k (by omega), E2.out]
            · rw [h5.cell2 k (by omega), E3.out]
          have ST2 : Hid (∀ w5 w6, Four w5 gm gg w2.heap.size (ss.set k (wrap64 (cAt ss k + n))) ms (ss.set k (wrap64 (cAt ss k + n))) (ms.set k (mostIs ms k n)) → Mt w6 gg 0 0 (ms.set k (mostIs ms k n)) → Only gg w5 w6 → Four w6 gm gg w2.heap.size (ss.set k (wrap64 (cAt ss k + n))) (ms.set k (mostIs ms k n)) (ss.set k (wrap64 (cAt ss k + n))) (ms.set k (mostIs ms k n)) ∧ w6.cell? ⟨w2.heap.size, k, none⟩ = some (.int .i64 (wrap64 (cAt ss k + n))) ∧ w6.cell? ⟨w2.heap.size + 1, k, none⟩ = some (.int .i64 (mostIs ms k n))) := by
            intro w5 w6 h5 hb ho
            have h6 := h5.turnG hb ho NE1.out NE4.out NE5.out
            refine ⟨h6, ?_, ?_⟩
            · rw [h6.cell1 k (by omega), E2.out]
            · rw [h6.cell2 k (by omega), E3.out]
          clear hl2 hl3 hne1
          have hki : (k : Int) < 12 := by omega
          have d0 : w4.cell? ⟨w2.heap.size + 1, k, none⟩ = some (.int .i64 (mostIs ms k n)) := by rw [Q.out.cell2 k (by simp; omega), E3.out]
          go_region_held3 (fun w' => w'.cell? ⟨w2.heap.size, k, none⟩ = some (.int .i64 (wrap64 (cAt ss k + n))) ∧ w'.cell? ⟨w2.heap.size + 1, k, none⟩ = some (.int .i64 (mostIs ms k n))) (first | exact ⟨d4, d5⟩ | exact ⟨d2, d3⟩ | exact ⟨d1, d0⟩)
            (first
            | (go_at_call 9; refine (add_in gm k n ss _ ?_ hls hk12).mono ?_; exact Q.out.drew.m; rintro e w5 ⟨rfl, hb5, ho5⟩; obtain ⟨q5, d2, d3⟩ := ST1.out w5 hb5 ho5; have Q5 := hide q5; have O5 := hide ho5; clear hb5 ho5 q5)
            | (go_at_call 11; refine (most_in gg k n ms _ ?_ hlm hk12).mono ?_; exact Q5.out.g; rintro e w6 ⟨rfl, hb6, ho6⟩; obtain ⟨q6, d4, d5⟩ := ST2.out _ w6 Q5.out hb6 ho6; have Q6 := hide q6; have O6 := hide ho6; clear hb6 ho6 q6))
          go_wp2
          go_roundw
          case measure => simp only [intOf]; omega
          case rel =>
            refine ⟨j + 1, ss.set k (wrap64 (cAt ss k + n)), ms.set k (mostIs ms k n), by go_num, by omega, by simp [hls], by simp [hlm], Q6.out.m, Q6.out.g, Q6.out.s, Q6.out.t, ?_, ?_⟩
            · have g1 := GM.out
              have g2 := GG.out
              exact QF.out.drew.trans ((O5.out.below (by omega)).trans (O6.out.below (by omega)))
            · exact O6.out.size.trans (O5.out.size.trans QZ.out)
      · have hd1 : decide ((j : Int) < (xs.length : Int)) = true := by simp; omega
        have hd2 : decide ((j : Int) < (ys.length : Int)) = false := by simp; omega
        go_wp2_with fail
        refine (all_any gm ss _ M.out hls).mono ?_
        rintro e w7 ⟨rfl, ha7, hf7⟩
        have hza : w2.heap.size + 1 < wr.heap.size := T.out.lt
        have F7 := hide (F.out.trans (hf7.mono F.out.size))
        have A7 := hide ha7
        have M7 := hide (M.out.below hf7 M.out.lt)
        have G7 := hide (G.out.below hf7 G.out.lt)
        have S7 := hide (S.out.below hf7 S.out.lt)
        have T7 := hide (T.out.below hf7 T.out.lt)
        have L7 := hide hza
        clear ha7 hf7 hza M G S T F Z
        generalize wr.heap.size = ba at *
        go_wp2_with fail
        refine (all_any gg ms _ G7.out hlm).mono ?_
        rintro e w8 ⟨rfl, hb8, hf8⟩
        have F8 := hide (F7.out.trans (hf8.mono F7.out.size))
        have A8 := hide (A7.out.below hf8 A7.out.lt)
        have B8 := hide hb8
        have M8 := hide (M7.out.below hf8 M7.out.lt)
        have G8 := hide (G7.out.below hf8 G7.out.lt)
        have S8 := hide (S7.out.below hf8 S7.out.lt)
        have T8 := hide (T7.out.below hf8 T7.out.lt)
        have L8 : Hid (ba < w7.heap.size) := A7.out.lt
        clear hb8 hf8 M7 G7 S7 T7 F7 A7
        generalize w7.heap.size = bb at *
        go_wp2_with fail
        refine (reset_any gm ss _ M8.out hls).mono ?_
        rintro e w9 ⟨rfl, hm9, ho9⟩
        have g0 := GM.out
        have g1 := GG.out
        have g2 := S2.out
        have g3 := L7.out
        have g4 := L8.out
        have F9 := hide (F8.out.trans (ho9.below (by omega)))
        have A9 := hide (A8.out.only ho9 (by omega))
        have B9 := hide (B8.out.only ho9 (by omega))
        have M9 := hide hm9
        have G9 := hide (G8.out.only ho9 (by omega))
        have S9 := hide (S8.out.only ho9 (by omega))
        have T9 := hide (T8.out.only ho9 (by omega))
        clear hm9 ho9 M8 G8 S8 T8 F8 A8 B8 g0 g1 g2 g3 g4
        go_wp2_with fail
        have H9 : Held w gm gg ba bb w2.heap.size ss ms w9 := ⟨M9.out, G9.out, A9.out, B9.out, S9.out, T9.out, F9.out⟩
        have HM := mk_i64
        clear A9 B9 M9 G9 S9 T9 F9
        go_region_held3 (fun w' => Held w gm gg ba bb w2.heap.size ss ms w') (first | assumption | exact Held.drew (by assumption) | exact Held.alloc (by assumption) _)
          (first
          | (go_at_call_of 18 ba; have hh := ‹Held w gm gg ba bb w2.heap.size ss ms _›; refine (same_any ba w2.heap.size _ _ ss _ hh.a hh.s hls).mono ?_; rintro e w10 ⟨rfl, s10⟩; have H10 := hh.still s10; clear s10 hh)
          | (go_at_call_of 18 bb; have hh := ‹Held w gm gg ba bb w2.heap.size ss ms _›; refine (same_any bb (w2.heap.size + 1) _ _ ms _ hh.c hh.t hlm).mono ?_; rintro e w11 ⟨rfl, s11⟩; have H11 := hh.still s11; clear s11 hh)
          | (go_at_call_of 16 gm; have hh := ‹Held w gm gg ba bb w2.heap.size ss ms _›; refine (all_v gm _ _ hh.m rfl).mono ?_; rintro e w12 ⟨bc, rfl, hc12, hf12, hq12⟩; have H12 := hh.below hf12; have C12 := hide hc12; have K12 := hide hf12; clear hc12 hf12 hq12 hh)
          | (go_at_call_of 18 bc; have hh := ‹Held w gm gg ba bb w2.heap.size ss ms _›; refine (same_any bc _ 2 2 (List.replicate 12 0) _ ?_ ?_ rfl).mono ?_; (first | exact C12.out | exact C12.out.alloc _); (first | exact Blk.new _ _ _ _ rfl | exact Blk.below (Blk.new _ _ _ _ rfl) K12.out (by simp)); rintro e w13 ⟨rfl, s13⟩; have H13 := hh.still s13; clear s13 hh)
          | (go_at_call_of 16 gg; have hh := ‹Held w gm gg ba bb w2.heap.size ss ms _›; refine (all_v gg _ _ hh.g hlm).mono ?_; rintro e w14 ⟨bd, rfl, hc14, hf14, hq14⟩; have H14 := hh.below hf14; have C14 := hide hc14; clear hc14 hf14 hq14 hh)
          | (go_at_call_of 18 bd; have hh := ‹Held w gm gg ba bb w2.heap.size ss ms _›; refine (same_any bd (w2.heap.size + 1) _ _ ms _ C14.out hh.t hlm).mono ?_; rintro e w15 ⟨rfl, s15⟩; have H15 := hh.still s15; clear s15 hh)
          | (go_at_call 6; have hh := ‹Held w gm gg ba bb w2.heap.size ss ms _›; refine (awake_any _).mono ?_; rintro e w16 ⟨rfl, f16⟩; have H16 := hh.below f16; have R16 := hide H16.f; clear f16 hh))
        all_goals (
          go_wp2
          go_ret
          exact ⟨rfl, R16.out⟩)
    · have hd1 : decide ((j : Int) < (xs.length : Int)) = false := by simp; omega
      go_wp2_with fail
      refine (all_any gm ss _ M.out hls).mono ?_
      rintro e w7 ⟨rfl, ha7, hf7⟩
      have hza : w2.heap.size + 1 < wr.heap.size := T.out.lt
      have F7 := hide (F.out.trans (hf7.mono F.out.size))
      have A7 := hide ha7
      have M7 := hide (M.out.below hf7 M.out.lt)
      have G7 := hide (G.out.below hf7 G.out.lt)
      have S7 := hide (S.out.below hf7 S.out.lt)
      have T7 := hide (T.out.below hf7 T.out.lt)
      have L7 := hide hza
      clear ha7 hf7 hza M G S T F Z
      generalize wr.heap.size = ba at *
      go_wp2_with fail
      refine (all_any gg ms _ G7.out hlm).mono ?_
      rintro e w8 ⟨rfl, hb8, hf8⟩
      have F8 := hide (F7.out.trans (hf8.mono F7.out.size))
      have A8 := hide (A7.out.below hf8 A7.out.lt)
      have B8 := hide hb8
      have M8 := hide (M7.out.below hf8 M7.out.lt)
      have G8 := hide (G7.out.below hf8 G7.out.lt)
      have S8 := hide (S7.out.below hf8 S7.out.lt)
      have T8 := hide (T7.out.below hf8 T7.out.lt)
      have L8 : Hid (ba < w7.heap.size) := A7.out.lt
      clear hb8 hf8 M7 G7 S7 T7 F7 A7
      generalize w7.heap.size = bb at *
      go_wp2_with fail
      refine (reset_any gm ss _ M8.out hls).mono ?_
      rintro e w9 ⟨rfl, hm9, ho9⟩
      have g0 := GM.out
      have g1 := GG.out
      have g2 := S2.out
      have g3 := L7.out
      have g4 := L8.out
      have F9 := hide (F8.out.trans (ho9.below (by omega)))
      have A9 := hide (A8.out.only ho9 (by omega))
      have B9 := hide (B8.out.only ho9 (by omega))
      have M9 := hide hm9
      have G9 := hide (G8.out.only ho9 (by omega))
      have S9 := hide (S8.out.only ho9 (by omega))
      have T9 := hide (T8.out.only ho9 (by omega))
      clear hm9 ho9 M8 G8 S8 T8 F8 A8 B8 g0 g1 g2 g3 g4
      go_wp2_with fail
      have H9 : Held w gm gg ba bb w2.heap.size ss ms w9 := ⟨M9.out, G9.out, A9.out, B9.out, S9.out, T9.out, F9.out⟩
      have HM := mk_i64
      clear A9 B9 M9 G9 S9 T9 F9
      go_region_held3 (fun w' => Held w gm gg ba bb w2.heap.size ss ms w') (first | assumption | exact Held.drew (by assumption) | exact Held.alloc (by assumption) _)
        (first
        | (go_at_call_of 18 ba; have hh := ‹Held w gm gg ba bb w2.heap.size ss ms _›; refine (same_any ba w2.heap.size _ _ ss _ hh.a hh.s hls).mono ?_; rintro e w10 ⟨rfl, s10⟩; have H10 := hh.still s10; clear s10 hh)
        | (go_at_call_of 18 bb; have hh := ‹Held w gm gg ba bb w2.heap.size ss ms _›; refine (same_any bb (w2.heap.size + 1) _ _ ms _ hh.c hh.t hlm).mono ?_; rintro e w11 ⟨rfl, s11⟩; have H11 := hh.still s11; clear s11 hh)
        | (go_at_call_of 16 gm; have hh := ‹Held w gm gg ba bb w2.heap.size ss ms _›; refine (all_v gm _ _ hh.m rfl).mono ?_; rintro e w12 ⟨bc, rfl, hc12, hf12, hq12⟩; have H12 := hh.below hf12; have C12 := hide hc12; have K12 := hide hf12; clear hc12 hf12 hq12 hh)
        | (go_at_call_of 18 bc; have hh := ‹Held w gm gg ba bb w2.heap.size ss ms _›; refine (same_any bc _ 2 2 (List.replicate 12 0) _ ?_ ?_ rfl).mono ?_; (first | exact C12.out | exact C12.out.alloc _); (first | exact Blk.new _ _ _ _ rfl | exact Blk.below (Blk.new _ _ _ _ rfl) K12.out (by simp)); rintro e w13 ⟨rfl, s13⟩; have H13 := hh.still s13; clear s13 hh)
        | (go_at_call_of 16 gg; have hh := ‹Held w gm gg ba bb w2.heap.size ss ms _›; refine (all_v gg _ _ hh.g hlm).mono ?_; rintro e w14 ⟨bd, rfl, hc14, hf14, hq14⟩; have H14 := hh.below hf14; have C14 := hide hc14; clear hc14 hf14 hq14 hh)
        | (go_at_call_of 18 bd; have hh := ‹Held w gm gg ba bb w2.heap.size ss ms _›; refine (same_any bd (w2.heap.size + 1) _ _ ms _ C14.out hh.t hlm).mono ?_; rintro e w15 ⟨rfl, s15⟩; have H15 := hh.still s15; clear s15 hh)
        | (go_at_call 6; have hh := ‹Held w gm gg ba bb w2.heap.size ss ms _›; refine (awake_any _).mono ?_; rintro e w16 ⟨rfl, f16⟩; have H16 := hh.below f16; have R16 := hide H16.f; clear f16 hh))
      all_goals (
        go_wp2
        go_ret
        exact ⟨rfl, R16.out⟩)
end Go.Proofs.Ytkofnjpjfnedpaa
