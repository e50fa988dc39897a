/- ShelfScript. -/
import Derived.Test.YtnlhocbpoommjaaCp8
import Derived.Test.YtnlhocbpoommjaaActs8
import Derived.Test.YtnlhocbpoommjaaAwake8
import Derived.Test.YtnlhocbpoommjaaLawLast7
import Derived.Deep.DeepCutAuto
import Derived.Deep.CutBlock
import Derived.Deep.LoopGhost
namespace Go.Proofs.Ytnlhocbpoommjaa
open Go.RowKit Go.Sort
set_option linter.unusedVariables false
set_option linter.unusedSimpArgs false
set_option maxRecDepth 20000

theorem sh_keys {g : Nat} {ps : List KV} {K : Nat → Prop} {w : World} (h : Sh.Md g ps K w) : ∀ p ∈ ps, p.1.length ≤ 65535 := by
  obtain ⟨F, v, es, h⟩ := h
  intro p hp
  rw [← h.kv] at hp
  obtain ⟨e, he, rfl⟩ := List.mem_map.1 hp
  exact (h.ks e he).2.1
theorem sel_keys {ps : List KV} (h : ∀ p ∈ ps, p.1.length ≤ 65535) (i : Int) : (keyO (selM i ps)).length ≤ 1000000 := by
  unfold selM
  split
  · simp [keyO]
  · cases hp : ps[i.toNat]? with
    | none => simp [keyO]
    | some p => have := h p (List.mem_of_getElem? hp); simp only [keyO]; omega
theorem lent_rd {w : World} {g : Nat} {ys : List Int} (hb : Blk w g 5 (u8s (lentK ys 3))) (hy : IsBytes ys) (hn : ys.length ≤ 1000000) : Rd w (some ⟨g, 0, none⟩) ys := by
  have hll := lentK_length ys 3 (Nat.le_refl _)
  have h2 := (blk_rd hb (lentK_bytes hy 3) (by rw [hll]; unfold maxLen; omega)).take ys.length
  have e : (lentK ys 3).take ys.length = ys := by simp [lentK]
  rwa [e] at h2
theorem lent_owns {w : World} {g : Nat} {ys : List Int} (hb : Blk w g 5 (u8s (lentK ys 3))) (hn : ys.length ≤ 1000000) : w.ownsRow 0 5 1 (.slice (some ⟨g, 0, none⟩) ys.length (ys.length + 3)) ys.length (u8s ys) := by
  have hll : (u8s (lentK ys 3)).length = ys.length + 3 := by rw [u8s_length]; exact lentK_length ys 3 (Nat.le_refl _)
  have o := blk_owns (base := 0) (n := ys.length) hb (Nat.zero_le _) (by omega) (by rw [hll]; unfold maxLen; omega)
  have e : (u8s (lentK ys 3)).take ys.length = u8s ys := by simp [lentK, u8s]
  rw [hll, e] at o
  exact o
theorem u8s_all (ys : List Int) : ∀ u ∈ u8s ys, ∃ q, u = .int .u8 q := by intro u hu; simp [u8s] at hu; obtain ⟨q, _, rfl⟩ := hu; exact ⟨q, rfl⟩
theorem lastV_in {k : List Int} {v : Int} {ps : List KV} (h : (k, v) ∈ ps) : lastV k ps ≠ none := by
  revert h
  refine snoc_ind (P := fun ps => (k, v) ∈ ps → lastV k ps ≠ none) (by simp) ?_ ps
  intro l q ih h
  rw [lastV_snoc]
  by_cases hq : q.1 = k
  · rw [if_pos hq]; simp
  · rw [if_neg hq]
    rcases List.mem_append.1 h with h | h
    · exact ih h
    · simp at h; rw [← h] at hq; exact absurd rfl hq
theorem ofM_same {ps : List KV} (hu : Ups ps) : ofM ps = ps := by
  refine ups_ext _ _ (ofM_ups ps) hu (fun k v => ⟨fun h => ofM_keys h, fun h => ?_⟩)
  rw [mem_ofM]
  cases hl : lastV k ps with
  | none => exact absurd hl (lastV_in h)
  | some v' =>
    have h2 := lastV_mem hl
    obtain ⟨i, hi⟩ := List.getElem?_of_mem h
    obtain ⟨j, hj⟩ := List.getElem?_of_mem h2
    have e1 := rank_at hu hi
    have e2 := rank_at hu hj
    simp only at e1 e2
    have : i = j := by omega
    subst this
    rw [hi] at hj
    simp at hj
    rw [hj]

set_option maxHeartbeats 4000000 in
theorem script8_any (es : List Ent) (a aa : Option Addr) (cap ac : Nat) (xs : List Do8) (w : World) (hp : Prs w a cap es) (hx : Acts8 w aa xs) (hxl : xs.length ≤ 9223372036854775807) :
    Calls Try.prog 7 #[.slice a es.length cap, .slice aa xs.length ac] w fun e w' => e = .returned (.bool true) ∧ Below w.heap.size w w' := by
  have G := hide (great_in es a cap 30 20 w hp (by omega) (by omega))
  have hmx := hp.mx
  cases hg : greatP es 30 20 with
  | true =>
    rw [hg] at G
    clear hg hp hx
    go_enter Try.func7, Try.ntmps7
    go_wp2_with fail
    refine G.out.mono ?_
    rintro r w1 ⟨rfl, s1⟩
    have F1 := hide (s1.below w.heap.size)
    clear s1
    go_wp2_with fail
    refine (awake8_any _).mono ?_
    rintro r wz ⟨rfl, fz⟩
    have FZ := hide (F1.out.trans (fz.mono F1.out.size))
    clear fz
    go_wp2
    go_ret
    exact ⟨rfl, FZ.out⟩
  | false =>
    rw [hg] at G
    have HG := hide (great_false hg)
    have H := hide hp
    have HX := hide hx
    clear hg hp hx
    by_cases hxx : 60 < xs.length
    · go_enter Try.func7, Try.ntmps7
      go_wp2_with fail
      refine G.out.mono ?_
      rintro r w1 ⟨rfl, s1⟩
      have F1 := hide (s1.below w.heap.size)
      clear s1
      go_wp2_with fail
      refine (awake8_any _).mono ?_
      rintro r wz ⟨rfl, fz⟩
      have FZ := hide (F1.out.trans (fz.mono F1.out.size))
      clear fz
      go_wp2
      go_ret
      exact ⟨rfl, FZ.out⟩
    · have hx60 : xs.length ≤ 60 := by omega
      go_enter Try.func7, Try.ntmps7
      go_wp2_with fail
      refine G.out.mono ?_
      rintro r w1 ⟨rfl, s1⟩
      have f1 := s1.below w.heap.size
      have h30 := HG.out.1
      have hk20 : ∀ e ∈ es, e.k.length ≤ 65535 := fun e he => by have := HG.out.2 e he; omega
      have HK20 := hide hk20
      have RP := hide (H.out.rp (by omega))
      have N1 := hide (copied_in es a cap w1 (RP.out.below f1 (Nat.le_refl _)) hk20)
      have F1 := hide f1
      clear s1 f1 hk20
      go_wp2_with fail
      refine N1.out.mono ?_
      rintro r w2 ⟨ai, ci, fs, rfl, l2, ap2, k2, f2⟩
      have hfl : fs.length = es.length := by have := congrArg List.length k2; simpa using this
      have hfk : Hid (∀ e ∈ fs, e.k.length ≤ 65535) := by
        intro e he
        have h1 : e.kv ∈ es.map Ent.kv := by rw [← k2]; exact List.mem_map_of_mem he
        obtain ⟨e', he', hkv⟩ := List.mem_map.1 h1
        have h2 : e'.k = e.k := congrArg Prod.fst hkv
        rw [← h2]
        exact HK20.out e' he'
      obtain ⟨aq, cq, eq, hr2⟩ := l2.rp
      simp only [Value.slice.injEq] at eq
      obtain ⟨rfl, -, rfl⟩ := eq
      have L2 := hide l2
      have A2 := hide ap2
      have K2 := hide k2
      have R2 := hide hr2
      have F2 := hide (F1.out.trans (f2.mono F1.out.size))
      have G2 := hide f2
      clear l2 ap2 k2 f2 hr2 N1
      by_cases h8 : 8 < es.length
      · have N3 := Sh.new_many fs ai ci w2 R2.out (by omega)
        rw [hfl] at N3 ⊢
        have HN3 := hide N3
        have q8 : ¬ ((es.length : Nat) : Int) ≤ 8 := by omega
        clear N3 hfl
        go_wp2_with fail
        refine HN3.out.mono ?_
        rintro r w3 ⟨rfl, f3⟩
        have F3 := hide (F2.out.trans (f3.mono F2.out.size))
        clear f3 HN3
        go_wp2_with fail
        refine (awake8_any _).mono ?_
        rintro r wz ⟨rfl, fz⟩
        have FZ := hide (F3.out.trans (fz.mono F3.out.size))
        clear fz
        go_wp2
        go_ret
        exact ⟨rfl, FZ.out⟩
      · cases hri : risesB (es.map Ent.kv) with
        | false =>
          have N3 := Sh.new_falls fs ai ci w2 R2.out hfk.out (by omega) (by rw [K2.out]; exact hri)
          rw [hfl] at N3 ⊢
          have HN3 := hide N3
          have q8 : ((es.length : Nat) : Int) ≤ 8 := by omega
          clear N3 hfl
          go_wp2_with fail
          refine HN3.out.mono ?_
          rintro r w3 ⟨rfl, f3⟩
          have F3 := hide (F2.out.trans (f3.mono F2.out.size))
          have RR := Rf.rises_any es a cap w3 (RP.out.below F3.out (Nat.le_refl _))
          rw [hri] at RR
          have HRR := hide RR
          clear f3 HN3 RR
          go_wp2_with fail
          refine HRR.out.mono ?_
          rintro r w4 ⟨rfl, f4⟩
          have F4 := hide (F3.out.trans (f4.mono F3.out.size))
          clear f4 HRR
          go_wp2_with fail
          refine (awake8_any _).mono ?_
          rintro r wz ⟨rfl, fz⟩
          have FZ := hide (F4.out.trans (fz.mono F4.out.size))
          clear fz
          go_wp2
          go_ret
          exact ⟨rfl, FZ.out⟩
        | true =>
          have N3 := Sh.new_ok fs ai ci w2 R2.out hfk.out (by omega) (by rw [K2.out]; exact hri)
          rw [K2.out, hfl] at N3
          rw [hfl]
          have HN3 := hide N3
          have q8 : ((es.length : Nat) : Int) ≤ 8 := by omega
          have hups := hide (Sh.ups_of_rises _ hri)
          clear N3
          go_wp2_with fail
          refine HN3.out.mono ?_
          rintro r w3 ⟨gs, rfl, m3, f3⟩
          have M3 := hide m3
          have F3 := hide (F2.out.trans (f3.mono F2.out.size))
          have G3 := hide f3
          have RR := Rf.rises_any es a cap w3 (RP.out.below F3.out (Nat.le_refl _))
          rw [hri] at RR
          have HRR := hide RR
          clear m3 f3 HN3 RR
          go_wp2_with fail
          refine HRR.out.mono ?_
          rintro r w4 ⟨rfl, f4⟩
          have F4 := hide (F3.out.trans (f4.mono F3.out.size))
          have M4 := hide ((Sh.Md.lies _ _).below M3.out f4)
          have L4 := hide ((L2.out.below G3.out).below f4)
          -- written over
          have hN : ∀ k, ((Value.slice ai fs.length ci).ownBlock = some k ∨ ∃ e ∈ fs, (Value.slice e.a e.k.length e.c).ownBlock = some k) → k < w2.heap.size := by
            rintro k (hk | ⟨e, he, hk⟩)
            · exact (L2.out.row.lt k hk).2
            · exact ((L2.out.ks e he).1.lt k hk).2
          have hs14 : w1.heap.size ≤ w4.heap.size := by have := G2.out.size; have := G3.out.size; have := f4.size; omega
          have OV := over_in fs ai ci w1.heap.size w4 L4.out A2.out hs14 w2.heap.size hN hfk.out
          rw [hfl] at OV
          have HOV := hide OV
          clear f4 HRR OV hN
          go_wp2_with fail
          refine HOV.out.mono ?_
          rintro r w5 ⟨rfl, k5⟩
          have M5 := hide ((Sh.Md.lies _ _).kp M4.out k5 (fun k _ hk => .inr (by omega)))
          have F5 : Hid (Below w.heap.size w w5) := F4.out.trans (k5.below F4.out.size (fun k hk => .inl (by have := F1.out.size; omega)))
          have NW := hide (Rf.new_any es a cap w5 (RP.out.below F5.out (Nat.le_refl _)) HK20.out (by omega))
          clear k5 HOV
          go_wp2_with fail
          refine NW.out.mono ?_
          rintro r w6 ⟨gw, rfl, m6, f6⟩
          have hbd : (es.map Ent.kv).length ≤ 8 := by simp; omega
          rw [ofM_same hups.out] at m6
          have T6 := Both.of (Sh.Md.lies gs _) (Rf.Md.lies gw _) M5.out m6 f6
          have F6 := hide (F5.out.trans (f6.mono F5.out.size))
          have hu6 := hups
          generalize es.map Ent.kv = Q0 at T6 hbd hu6
          have T6' := hide T6
          have HS2 : Hid (w.heap.size ≤ w2.heap.size) := F2.out.size
          clear T6 m6 f6 NW M5 hups hfl M3 M4 F3 F4 F5 G3 L4 hs14
          go_wp2_with fail
          go_loopw [8] (fun vi wr => ∃ (i : Nat) (Q : List KV), vi = .int .i64 i ∧ i ≤ xs.length ∧ Q.length ≤ 8 ∧ Hid (Ups Q) ∧ Hid (Both (Sh.Md gs Q) (Rf.Md gw Q) (fun k => k < w2.heap.size) wr) ∧ Hid (Below w.heap.size w wr)) (fun vi _ => (xs.length - intOf vi).toNat)
          case atStart => exact ⟨0, Q0, rfl, by omega, hbd, hu6, T6', F6⟩
          case round =>
            clear T6' F6 hu6 hbd
            obtain ⟨i, Q, rfl, hi, hQ, HU, T, F⟩ := hrel
            by_cases hin : i < xs.length
            · obtain ⟨x, hx⟩ : ∃ x, xs[i]? = some x := ⟨xs[i], List.getElem?_eq_getElem hin⟩
              obtain ⟨bA, oA, rfl, hxv, hxr, hxc⟩ := HX.out.cell hx
              obtain ⟨xa, xcap, xk, xv, xd⟩ := x
              simp only at hxv hxr hxc
              have HXR := hide hxr
              obtain ⟨y0, y1, y2⟩ := hxc wr F.out
              have hkl := (hxr wr F.out).2.1
              unfold maxLen at hkl
              have xb : Blk (wr.alloc (.cells #[.slice xa xk.length xcap, .int .u64 xv, .bool xd] 67 (0, 0))) wr.heap.size 67 [.slice xa xk.length xcap, .int .u64 xv, .bool xd] := Blk.new wr _ _ _ rfl
              have fb := (Below.refl wr.heap.size wr).alloc (Nat.le_refl _) (.cells #[.slice xa xk.length xcap, .int .u64 xv, .bool xd] 67 (0, 0))
              generalize hw7 : wr.alloc (.cells #[.slice xa xk.length xcap, .int .u64 xv, .bool xd] 67 (0, 0)) = w7 at xb fb
              have T7 := hide ((Both.lies _ _).more T.out fb)
              have F7 := hide (F.out.trans (fb.mono F.out.size))
              have XB := hide xb
              have x0 := xb.cell 0
              have x1 := xb.cell 1
              have x2 := xb.cell 2
              simp only [List.getElem?_cons_zero, List.getElem?_cons_succ] at x0 x1 x2
              have hsz7 : wr.heap.size < w7.heap.size := by rw [← hw7]; simp
              clear hx hxr hxc xb fb
              by_cases hlong : 20 < xk.length
              · go_wp2_with fail
                refine (awake8_any _).mono ?_
                rintro r wz ⟨rfl, fz⟩
                have FZ := hide (F7.out.trans (fz.mono F7.out.size))
                clear fz
                go_wp2
                go_ret
                exact ⟨rfl, FZ.out⟩
              · obtain ⟨rk, hrk⟩ : ∃ rk, rankM xk Q = rk := ⟨_, rfl⟩
                obtain ⟨ii, hii⟩ : ∃ ii, isIn xk Q = ii := ⟨_, rfl⟩
                have hrl := rank_le xk Q
                rw [hrk] at hrl
                obtain ⟨KB, hB⟩ := H8.both_b T7.out
                have FD := Rf.find_any xa xcap xk w7 hB (HXR.out w7 F7.out)
                rw [hrk, hii] at FD
                have HFD := hide FD
                have HRK := hide hrk
                have HII := hide hii
                clear FD hB hrk hii
                go_wp2_with fail
                clear y0 y1 y2 hw7
                refine HFD.out.mono ?_
                rintro r w8 ⟨rfl, f8⟩
                have T8 := hide ((Both.lies _ _).below T7.out f8)
                have F8 := hide (F7.out.trans (f8.mono F7.out.size))
                have xb8 := XB.out.below f8 XB.out.lt
                obtain ⟨KA, hA⟩ := H8.both_a T8.out
                have SD := Sh.place_any xa xcap xk w8 hA (HXR.out w8 F8.out)
                rw [HRK.out, HII.out] at SD
                have HSD := hide SD
                have XB8 := hide xb8
                have z0 := xb8.cell 0
                simp only [List.getElem?_cons_zero, List.getElem?_cons_succ] at z0
                clear f8 xb8 hA SD HFD x0 x1 x2
                go_wp2_with fail
                refine HSD.out.mono ?_
                rintro r w9 ⟨rfl, f9⟩
                have T9 := hide ((Both.lies _ _).below T8.out f9)
                have F9 := hide (F8.out.trans (f9.mono F8.out.size))
                have xb9 := XB8.out.below f9 XB8.out.lt
                have XB9 := hide xb9
                have v0 := xb9.cell 0
                have v1 := xb9.cell 1
                have v2 := xb9.cell 2
                simp only [List.getElem?_cons_zero, List.getElem?_cons_succ] at v0 v1 v2
                clear f9 xb9 HSD z0 T8 F8 XB8
                go_upto_if 97 with fail
                go_cut [] (fun wx => ∃ Q' : List KV, Q'.length ≤ 8 ∧ Ups Q' ∧ Both (Sh.Md gs Q') (Rf.Md gw Q') (fun k => k < w2.heap.size ∨ wr.heap.size ≤ k ∧ k < w7.heap.size) wx ∧ Below w.heap.size w wx)
                case first =>
                  cases xd with
                  | true =>
                    obtain ⟨K1, hK1, hA, con⟩ := T9.out.left
                    have D := Sh.drop_any xa xcap xk w9 hA (HXR.out w9 F9.out)
                    obtain ⟨vv, hvv⟩ : ∃ vv, valO (findM xk Q) = vv := ⟨_, rfl⟩
                    rw [HII.out, hvv] at D
                    have HD := hide D
                    have CON := hide con
                    have HVV := hide hvv
                    clear D con hA hvv
                    go_wp2_with fail
                    refine HD.out.mono ?_
                    rintro r w10 ⟨rfl, m10, k10⟩
                    have t10 := CON.out w10 _ (Sh.Md.lies gs _) m10 k10
                    have T10 := hide t10.1
                    have F10 : Hid (Below w.heap.size w w10) := F9.out.trans (t10.2.below F9.out.size (fun k hk => .inl (by have := HS2.out; omega)))
                    have xb10 := XB9.out.kp t10.2 (.inr ⟨Nat.le_refl _, hsz7⟩)
                    have u0 := xb10.cell 0
                    simp only [List.getElem?_cons_zero] at u0
                    obtain ⟨K2', hK2, hB, con2⟩ := T10.out.right
                    have D2 := Rf.drop_any xa xcap xk w10 hB (HXR.out w10 F10.out)
                    rw [HII.out, HVV.out] at D2
                    have HD2 := hide D2
                    have CON2 := hide con2
                    clear m10 k10 t10 xb10 hB D2 con2 HD CON v0 v1 v2
                    go_wp2_with fail
                    refine HD2.out.mono ?_
                    rintro r w11 ⟨rfl, m11, k11⟩
                    have t11 := CON2.out w11 _ (Rf.Md.lies gw _) m11 k11
                    have T11 := hide t11.1
                    have F11 : Hid (Below w.heap.size w w11) := F10.out.trans (t11.2.below F10.out.size (fun k hk => .inl (by have := HS2.out; omega)))
                    clear m11 k11 t11 HD2 CON2 u0
                    go_wp2_with fail
                    go_meet
                    case rel => exact ⟨dropM xk Q, by
                      have h1 : (dropM xk Q).length ≤ Q.length := by unfold dropM; split <;> simp <;> omega
                      omega, dropM_ups HU.out xk, T11.out, F11.out⟩
                  | false =>
                    have LE := hide (lend_any xa xk xcap w9 (HXR.out w9 F9.out) (by omega))
                    go_wp2_with fail
                    refine LE.out.mono ?_
                    rintro r w10 ⟨rfl, b10, f10⟩
                    have T10 := hide ((Both.lies _ _).more T9.out f10)
                    have F10 := hide (F9.out.trans (f10.mono F9.out.size))
                    have B10 : Hid (Blk w10 w9.heap.size 5 (u8s (lentK xk 3))) := b10
                    have XB10 := hide (XB9.out.below f10 XB9.out.lt)
                    have rd10 := lent_rd B10.out (HXR.out w9 F9.out).1 (by omega)
                    have e0 := XB10.out.cell 0
                    have e1 := XB10.out.cell 1
                    simp only [List.getElem?_cons_zero, List.getElem?_cons_succ] at e0 e1
                    obtain ⟨K1, hK1, hA, con⟩ := T10.out.left
                    have CON := hide con
                    clear LE b10 f10 con v0 v1 v2
                    by_cases hfull : ii = false ∧ Q.length = 8
                    · obtain ⟨rfl, h8⟩ := hfull
                      have PU := Sh.put_full (some ⟨w9.heap.size, 0, none⟩) (xk.length + 3) xk xv w10 hA rd10 (by omega) h8 (by rw [HII.out])
                      have HPU := hide PU
                      clear PU hA
                      go_wp2_with fail
                      refine HPU.out.mono ?_
                      rintro r w11 ⟨rfl, f11⟩
                      have T11 := hide ((Both.lies _ _).below T10.out f11)
                      have F11 := hide (F10.out.trans (f11.mono F10.out.size))
                      have B11 : Hid (Blk w11 w9.heap.size 5 (u8s (lentK xk 3))) := B10.out.below f11 B10.out.lt
                      have XB11 : Hid (Blk w11 wr.heap.size 67 [.slice xa xk.length xcap, .int .u64 xv, .bool false]) := XB10.out.below f11 XB10.out.lt
                      clear f11
                      have g0 := XB11.out.cell 0
                      simp only [List.getElem?_cons_zero] at g0
                      clear HPU e0 e1
                      have KE := hide (kept_any w9.heap.size xa xk xcap w11 B11.out (HXR.out w11 F11.out) (by omega))
                      go_wp2_with fail
                      refine KE.out.mono ?_
                      rintro r w12 ⟨rfl, s12⟩
                      have f12 := s12.below w11.heap.size
                      have T12 := hide ((Both.lies _ _).below T11.out f12)
                      have F12 := hide (F11.out.trans (f12.mono F11.out.size))
                      have B12 := hide (B11.out.below f12 B11.out.lt)
                      have XB12 := hide (XB11.out.below f12 XB11.out.lt)
                      clear s12 f12 KE g0
                      have OB := hide (over_any _ xk.length 0 (u8s xk) w12 (lent_owns B12.out (by omega)) (u8s_all xk) (by omega) (Nat.zero_le _))
                      go_wp2_with fail
                      refine OB.out.mono ?_
                      rintro r w13 ⟨rfl, g13⟩
                      have T13 := hide ((Both.lies _ _).grown T12.out g13 (fun k hk => .inr ⟨by simp [Value.ownBlock] at hk; omega, by simp [Value.ownBlock] at hk; have := B10.out.lt; omega⟩))
                      have F13 : Hid (Below w.heap.size w w13) := F12.out.grown g13 F12.out.size (fun k hk => by simp [Value.ownBlock] at hk; have := F9.out.size; omega)
                      have XB13 : Hid (Blk w13 wr.heap.size 67 [.slice xa xk.length xcap, .int .u64 xv, .bool false]) := (g13.block _ XB12.out.lt (fun e9 => by simp [Value.ownBlock] at e9; have := XB9.out.lt; omega)).trans XB12.out
                      have h0' := XB13.out.cell 0
                      have h1' := XB13.out.cell 1
                      simp only [List.getElem?_cons_zero, List.getElem?_cons_succ] at h0' h1'
                      clear g13 OB
                      obtain ⟨K9, hB9⟩ := H8.both_b T13.out
                      obtain ⟨aQ, cQ, _, dQ, _⟩ := H8.rf_hdr hB9
                      clear hB9
                      have hq8 : ((Q.length : Nat) : Int) = 8 := by omega
                      clear h8
                      go_wp2_with fail
                      go_meet
                      case rel => exact ⟨Q, hQ, HU.out, (Both.lies _ _).weaken T13.out (fun k hk => .inl hk), F13.out⟩
                    · have hroom : Q.length < 8 ∨ isIn xk Q = true := by
                        rw [HII.out]
                        cases ii with
                        | true => exact .inr rfl
                        | false => exact .inl (by have : ¬ Q.length = 8 := fun h => hfull ⟨rfl, h⟩; omega)
                      have hput : (putM xk xv Q).length ≤ 8 := by
                        rcases hroom with h | h
                        · have h1 : (putM xk xv Q).length ≤ Q.length + 1 := by
                            have := rank_le xk Q
                            unfold putM
                            split <;> simp <;> omega
                          omega
                        · rw [H8.putM_len_old h]; exact hQ
                      obtain ⟨vv, hvv⟩ : ∃ vv, valO (findM xk Q) = vv := ⟨_, rfl⟩
                      have PU := Sh.put_any (some ⟨w9.heap.size, 0, none⟩) (xk.length + 3) xk xv w10 hA rd10 (by omega) hxv hroom
                      rw [HII.out, hvv] at PU
                      have HVV := hide hvv
                      clear hvv
                      have HPU := hide PU
                      clear PU hA
                      go_wp2_with fail
                      refine HPU.out.mono ?_
                      rintro r w11 ⟨rfl, m11, k11⟩
                      have t11 := CON.out w11 _ (Sh.Md.lies gs _) m11 k11
                      have T11 := hide t11.1
                      have F11 : Hid (Below w.heap.size w w11) := F10.out.trans (t11.2.below F10.out.size (fun k hk => .inl (.inl (by have := HS2.out; omega))))
                      have B11 : Hid (Blk w11 w9.heap.size 5 (u8s (lentK xk 3))) := B10.out.kp t11.2 (.inr ⟨Nat.le_refl _, B10.out.lt⟩)
                      have XB11 : Hid (Blk w11 wr.heap.size 67 [.slice xa xk.length xcap, .int .u64 xv, .bool false]) := XB10.out.kp t11.2 (.inl (.inr ⟨Nat.le_refl _, hsz7⟩))
                      clear m11 k11 t11
                      have g0 := XB11.out.cell 0
                      simp only [List.getElem?_cons_zero] at g0
                      clear HPU e0 e1
                      have KE := hide (kept_any w9.heap.size xa xk xcap w11 B11.out (HXR.out w11 F11.out) (by omega))
                      go_wp2_with fail
                      refine KE.out.mono ?_
                      rintro r w12 ⟨rfl, s12⟩
                      have f12 := s12.below w11.heap.size
                      have T12 := hide ((Both.lies _ _).below T11.out f12)
                      have F12 := hide (F11.out.trans (f12.mono F11.out.size))
                      have B12 := hide (B11.out.below f12 B11.out.lt)
                      have XB12 := hide (XB11.out.below f12 XB11.out.lt)
                      clear s12 f12 KE g0
                      have OB := hide (over_any _ xk.length 0 (u8s xk) w12 (lent_owns B12.out (by omega)) (u8s_all xk) (by omega) (Nat.zero_le _))
                      go_wp2_with fail
                      refine OB.out.mono ?_
                      rintro r w13 ⟨rfl, g13⟩
                      have T13 := hide ((Both.lies _ _).grown T12.out g13 (fun k hk => .inr ⟨by simp [Value.ownBlock] at hk; omega, by simp [Value.ownBlock] at hk; have := B10.out.lt; omega⟩))
                      have F13 : Hid (Below w.heap.size w w13) := F12.out.grown g13 F12.out.size (fun k hk => by simp [Value.ownBlock] at hk; have := F9.out.size; omega)
                      have XB13 : Hid (Blk w13 wr.heap.size 67 [.slice xa xk.length xcap, .int .u64 xv, .bool false]) := (g13.block _ XB12.out.lt (fun e9 => by simp [Value.ownBlock] at e9; have := XB9.out.lt; omega)).trans XB12.out
                      have h0' := XB13.out.cell 0
                      have h1' := XB13.out.cell 1
                      simp only [List.getElem?_cons_zero, List.getElem?_cons_succ] at h0' h1'
                      clear g13 OB
                      obtain ⟨K9, hB9⟩ := H8.both_b T13.out
                      obtain ⟨aQ, cQ, _, dQ, _⟩ := H8.rf_hdr hB9
                      clear hB9
                      obtain ⟨K8, hK8, hB, con8⟩ := T13.out.right
                      have PW := Rf.put_any xa xcap xk xv w13 hB (HXR.out w13 F13.out) (by omega) hxv (by omega)
                      rw [HII.out, HVV.out] at PW
                      have HPW := hide PW
                      have CON8 := hide con8
                      clear PW con8 hB
                      have hdec : (ii = true) ∨ (ii = false ∧ ((Q.length : Int) == 8) = false) := by
                        cases ii with
                        | true => exact .inl rfl
                        | false => exact .inr ⟨rfl, by have : ¬ Q.length = 8 := fun h => hfull ⟨rfl, h⟩; simp; omega⟩
                      clear hfull hroom
                      rcases hdec with rfl | ⟨rfl, hq8⟩
                      · go_wp2_with fail
                        refine HPW.out.mono ?_
                        rintro r w14 ⟨rfl, m14, k14⟩
                        have t14 := CON8.out w14 _ (Rf.Md.lies gw _) m14 k14
                        have T14 := hide ((Both.lies _ _).weaken t14.1 (fun k hk => .inl hk : ∀ k, (k < w2.heap.size ∨ wr.heap.size ≤ k ∧ k < w7.heap.size) → _))
                        have F14 : Hid (Below w.heap.size w w14) := F13.out.trans (t14.2.below F13.out.size (fun k hk => .inl (.inl (by have := HS2.out; omega))))
                        clear m14 k14 t14 HPW CON8 h0' h1'
                        go_wp2_with fail
                        go_meet
                        case rel => exact ⟨putM xk xv Q, hput, putM_ups HU.out xk xv, T14.out, F14.out⟩
                      · go_wp2_with fail
                        refine HPW.out.mono ?_
                        rintro r w14 ⟨rfl, m14, k14⟩
                        have t14 := CON8.out w14 _ (Rf.Md.lies gw _) m14 k14
                        have T14 := hide ((Both.lies _ _).weaken t14.1 (fun k hk => .inl hk : ∀ k, (k < w2.heap.size ∨ wr.heap.size ≤ k ∧ k < w7.heap.size) → _))
                        have F14 : Hid (Below w.heap.size w w14) := F13.out.trans (t14.2.below F13.out.size (fun k hk => .inl (.inl (by have := HS2.out; omega))))
                        clear m14 k14 t14 HPW CON8 h0' h1'
                        go_wp2_with fail
                        go_meet
                        case rel => exact ⟨putM xk xv Q, hput, putM_ups HU.out xk xv, T14.out, F14.out⟩
                case rest =>
                obtain ⟨Q', hQ', hU', t', f'⟩ := hcut
                have HU' := hide hU'
                have TC := hide t'
                have FC := hide f'
                clear hU' t' f' T9 F9 XB9 v0 v1 v2 T7 F7 XB
                obtain ⟨o, ho⟩ : ∃ o, selM (rk : Int) Q' = o := ⟨_, rfl⟩
                obtain ⟨KA, hA⟩ := H8.both_a TC.out
                have SA := Sh.select_any (rk : Int) wc hA (by omega) (by omega)
                rw [ho] at SA
                have hk65 : (keyO o).length ≤ 1000000 := by rw [← ho]; exact sel_keys (sh_keys hA) _
                have HO := hide ho
                obtain ⟨kk, hkk⟩ : ∃ kk, keyO o = kk := ⟨_, rfl⟩
                obtain ⟨vv, hvv⟩ : ∃ vv, valO o = vv := ⟨_, rfl⟩
                obtain ⟨bb, hbb⟩ : ∃ bb, Option.isSome o = bb := ⟨_, rfl⟩
                have HKL20 : Hid (kk.length ≤ 1000000) := by rw [← hkk]; exact hk65
                have HSA := hide SA
                have HKK := hide hkk
                have HVV := hide hvv
                have HBB := hide hbb
                clear ho SA hA hkk hvv hbb hk65
                go_wp2_with fail
                refine HSA.out.mono ?_
                rintro r w16 ⟨a6, c6, rfl, o6, b6, f6⟩
                rw [HKK.out] at o6 b6 ⊢
                rw [HVV.out, HBB.out]
                have T16 := hide ((Both.lies _ _).more TC.out f6)
                have LT16 : Hid (∀ k, (Value.slice a6 kk.length c6).ownBlock = some k → k < w16.heap.size) := fun k hk => (o6.lt k hk).2
                have O16 := hide o6
                have B16 := hide b6
                have F16 := hide (FC.out.trans (f6.mono FC.out.size))
                have S16 := hide f6.size
                clear o6 b6 f6 HSA
                have xp : Blk (w16.alloc (.cells #[.slice a6 kk.length c6, .int .u64 vv] 54 (0, 0))) w16.heap.size 54 [.slice a6 kk.length c6, .int .u64 vv] := Blk.new w16 _ _ _ rfl
                have fp := (Below.refl w16.heap.size w16).alloc (Nat.le_refl _) (.cells #[.slice a6 kk.length c6, .int .u64 vv] 54 (0, 0))
                generalize hw17 : w16.alloc (.cells #[.slice a6 kk.length c6, .int .u64 vv] 54 (0, 0)) = w17 at xp fp
                have T17 := hide ((Both.lies _ _).below T16.out fp)
                have O17 := hide (O16.out.below fp (Nat.le_refl _))
                have F17 := hide (F16.out.trans (fp.mono F16.out.size))
                have XP := hide xp
                obtain ⟨KB, hB⟩ := H8.both_b T17.out
                have SB := Rf.select_any (rk : Int) w17 hB (by omega) (by omega)
                rw [HO.out] at SB
                have HSB := hide SB
                have S17 := hide fp.size
                clear xp fp hB SB T16 O16 F16
                go_wp2_with fail
                clear hw17
                refine HSB.out.mono ?_
                rintro r w18 ⟨a8, c8, rfl, o8, b8, f8⟩
                rw [HKK.out] at o8 b8 ⊢
                rw [HVV.out, HBB.out]
                have xq : Blk (w18.alloc (.cells #[.slice a8 kk.length c8, .int .u64 vv] 54 (0, 0))) w18.heap.size 54 [.slice a8 kk.length c8, .int .u64 vv] := Blk.new w18 _ _ _ rfl
                have fq := f8.alloc f8.size (.cells #[.slice a8 kk.length c8, .int .u64 vv] 54 (0, 0))
                have o19 := o8.alloc (.cells #[.slice a8 kk.length c8, .int .u64 vv] 54 (0, 0))
                generalize hw19 : w18.alloc (.cells #[.slice a8 kk.length c8, .int .u64 vv] 54 (0, 0)) = w19 at xq fq o19
                have T19 := hide ((Both.lies _ _).below T17.out fq)
                have O19 := hide (O17.out.below fq (Nat.le_refl _))
                have F19 := hide (F17.out.trans (fq.mono F17.out.size))
                have XP19 := hide (XP.out.below fq XP.out.lt)
                have p0 := XP19.out.cell 0
                have p1 := XP19.out.cell 1
                have q0 := xq.cell 0
                have q1 := xq.cell 1
                simp only [List.getElem?_cons_zero, List.getElem?_cons_succ] at p0 p1 q0 q1
                obtain ⟨aq, cq, eq, rq, -⟩ := owns_rd o19 b8
                simp only [Value.slice.injEq] at eq
                obtain ⟨rfl, -, rfl⟩ := eq
                obtain ⟨ap, cp, ep, rp, -⟩ := owns_rd O19.out B16.out
                simp only [Value.slice.injEq] at ep
                obtain ⟨rfl, -, rfl⟩ := ep
                have SS := fun d => same_b a6 a8 kk kk c6 c8 (w19.drewN d) (rp.drewN d) (rq.drewN d)
                rw [decide_eq_true rfl] at SS
                have HS := hide SS
                obtain ⟨KA9, hA9⟩ := H8.both_a T19.out
                have LL9 : Hid (∀ n, Calls Try.prog 48 #[.pointer (some ⟨gs, 0, none⟩)] (w19.drewN n) fun r w' => r = .returned (.int .i64 (Q'.length : Nat)) ∧ w' = w19.drewN n) := fun n => Sh.len_any (w19.drewN n) ((Sh.Md.lies gs Q').below hA9 (Below.drewN' (Below.refl _ w19) n))
                obtain ⟨KB9, hB9⟩ := H8.both_b T19.out
                obtain ⟨aR, cR, _, d9, _⟩ := H8.rf_hdr hB9
                have S19 := hide fq.size
                clear o8 b8 f8 xq fq o19 rq rp SS hA9 hB9 HSB XP O17 T17 F17
                go_wp2_with fail
                clear hw19
                go_quiet (first
                  | (go_at_call 48; exact Calls.quiet_of_same (LL9.out _))
                  | (go_at_call 38; exact Calls.quiet_of (HS.out _)))
                have T20 := hide ((Both.lies _ _).below T19.out (Below.drewN' (Below.refl _ w19) nq))
                have F20 := hide (F19.out.trans ((Below.drewN' (Below.refl _ w19) nq).mono F19.out.size))
                have O20 := hide (O19.out.below (Below.drewN' (Below.refl _ w19) nq) (Nat.le_refl _))
                have XP20 := hide (XP19.out.below (Below.drewN' (Below.refl _ w19) nq) XP19.out.lt)
                have S20 : Hid ((w19.drewN nq).heap.size = w19.heap.size) := rfl
                generalize hw20 : w19.drewN nq = w20 at T20 F20 O20 XP20 S20 ⊢
                clear hw20 d9 HS LL9 p0 p1 q0 q1 T19 O19 F19 XP19
                have p0 := XP20.out.cell 0
                simp only [List.getElem?_cons_zero] at p0
                have hkl20 : kk.length ≤ 1000000 := HKL20.out
                have OV := hide (over_any (.slice a6 kk.length c6) kk.length wc.heap.size (u8s kk) w20 O20.out (u8s_all kk) hkl20 (by have := S16.out; have := S17.out; have := S19.out; have := S20.out; omega))
                go_wp2_with fail
                refine OV.out.mono ?_
                rintro r w21 ⟨rfl, g21⟩
                have T21 := hide ((Both.lies _ _).weaken ((Both.lies _ _).grown T20.out g21 (fun k hk => .inr ⟨(O20.out.lt k hk).1, LT16.out k hk⟩)) (fun k hk => .inl (.inl hk) : ∀ k, k < w2.heap.size → _))
                have F21 : Hid (Below w.heap.size w w21) := F20.out.grown g21 F20.out.size (fun k hk => by have := (O20.out.lt k hk).1; have := FC.out.size; omega)
                clear g21 OV p0
                go_wp2
                go_roundw
                case rel => exact ⟨i + 1, Q', by go_num, by omega, hQ', HU', T21, F21⟩
                case measure => simp [intOf]; omega
            · go_wp2_with fail
              refine (awake8_any _).mono ?_
              rintro r wz ⟨rfl, fz⟩
              have FZ := hide (F.out.trans (fz.mono F.out.size))
              clear fz
              go_wp2
              go_ret
              exact ⟨rfl, FZ.out⟩
end Go.Proofs.Ytnlhocbpoommjaa
