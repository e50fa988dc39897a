/- ModelLast. -/
import Derived.Test.YtahlbebkcoofkaaArg7
import Derived.Deep.RegionHeld3
namespace Go.Proofs.Ytahlbebkcoofkaa
set_option maxRecDepth 20000
open Go.RowKit Go.Sort
set_option linter.unusedVariables false

set_option maxHeartbeats 1000000 in
theorem great_big (n : Nat) (a : Option Addr) (c most long : Nat) (w : World) (hn : n ≤ 9223372036854775807) (hm : most ≤ 1000) (hl : long ≤ 1000) (hgt : most < n) :
    Calls Try.prog 7 #[.slice a n c, .int .i64 (most : Int), .int .i64 (long : Int)] w fun r w' => r = .returned (.bool true) ∧ Still w w' := by
  have hd : decide (n ≤ most) = false := by simp; omega
  have hd' : decide ((n : Int) ≤ (most : Int)) = false := by simp; omega
  have hpos : 0 < n := by omega
  go_enter Try.func7, Try.ntmps7
  go_wp2
  refine wp_loop_rounds 1 ?_
  rw [rounds_succ]
  go_wp2
  go_ret
  exact ⟨rfl, 0, rfl⟩
/-- GreatPairs of what came in. -/
theorem great_in (es : List Ent) (a : Option Addr) (cap most long : Nat) (w : World) (h : Prs w a cap es) (hm : most ≤ 1000) (hl : long ≤ 1000) :
    Calls Try.prog 7 #[.slice a es.length cap, .int .i64 (most : Int), .int .i64 (long : Int)] w fun r w' => r = .returned (.bool (greatP es most long)) ∧ Still w w' := by
  by_cases hgt : most < es.length
  · have : greatP es most long = true := by unfold greatP; simp [hgt]
    rw [this]
    exact great_big es.length a cap most long w h.mx hm hl hgt
  · exact great_any es a cap most long w (h.rp (by omega)) hm hl (fun e he => by have := (h.ok e he).1.2.1; unfold maxLen at this; omega)

theorem lastV_ups {ps : List KV} (h : Ups ps) (k : List Int) (v : Int) : lastV k ps = some v ↔ (k, v) ∈ ps := by
  constructor
  · exact lastV_mem
  · intro hm
    induction ps with
    | nil => simp at hm
    | cons p ps ih =>
      have h' := List.pairwise_cons.1 h
      simp only [lastV]
      rcases List.mem_cons.1 hm with rfl | hm
      · have : lastV k ps = none := lastV_none (fun q hq e => by
          have := h'.1 q hq
          rw [e, (cmpK_zero _ _).2 rfl] at this
          omega)
        rw [this]
        simp
      · rw [ih h'.2 hm]
theorem ofM_self {ps : List KV} (h : Ups ps) : ofM ps = ps := ups_ext _ _ (ofM_ups ps) h (fun k v => by rw [mem_ofM, lastV_ups h])
theorem find_ofM (ps : List KV) (k : List Int) : valO (findM k (ofM ps)) = (lastV k ps).getD 0 ∧ isIn k (ofM ps) = (lastV k ps).isSome := by
  have hu := ofM_ups ps
  cases hl : lastV k ps with
  | none =>
    have hi : isIn k (ofM ps) = false := by
      cases hi : isIn k (ofM ps) with
      | false => rfl
      | true =>
        obtain ⟨v, hv⟩ := isIn_true hi
        have := (mem_ofM ps k v).1 (List.mem_of_getElem? hv)
        rw [hl] at this
        cases this
    refine ⟨?_, by rw [hi]; rfl⟩
    unfold findM
    rw [hi]; rfl
  | some v =>
    have hm := (mem_ofM ps k v).2 hl
    have hi := (isIn_iff hu k).2 ⟨v, hm⟩
    refine ⟨?_, by rw [hi]; rfl⟩
    obtain ⟨u, hu2⟩ := isIn_true hi
    have := (mem_ofM ps k u).1 (List.mem_of_getElem? hu2)
    rw [hl] at this
    cases this
    unfold findM
    rw [if_pos hi, hu2]; rfl
theorem putM_len {ps : List KV} (k : List Int) (v : Int) : (putM k v ps).length = if isIn k ps then ps.length else ps.length + 1 := by
  have := rank_le k ps
  unfold putM
  cases hi : isIn k ps with
  | true =>
    have := isIn_lt hi
    simp
    omega
  | false =>
    simp
    omega

theorem Rp.at5 {w : World} {b off : Nat} {es : List Ent} (h : Rp w (some ⟨b, off, none⟩) es) {i : Nat} {e : Ent} (he : es[i]? = some e) : w.cell? ⟨b, off + i * 2, none⟩ = some (.slice e.a e.k.length e.c) ∧ w.cell? ⟨b, off + i * 2 + 1, none⟩ = some (.int .u64 e.v) := by
  obtain ⟨b', off', ea, c0, c1⟩ := h.cells he
  simp only [Option.some.injEq, Addr.mk.injEq] at ea
  obtain ⟨rfl, rfl, -⟩ := ea
  exact ⟨c0, c1⟩
theorem Lst.nil_of {B : Nat} {w : World} {a : Option Addr} {c : Nat} {fs : List Ent} (l : Lst B w (.slice a fs.length c) fs) : a = none → fs = [] ∧ c = 0 := by
  intro h
  subst h
  rcases l.row.2 with ⟨e, h0⟩ | ⟨g, cap, cur, e, _⟩
  · simp only [Value.slice.injEq] at e
    exact ⟨List.eq_nil_of_length_eq_zero h0, e.2.2⟩
  · simp only [Value.slice.injEq] at e
    cases e.1
theorem Lst.rps {B : Nat} {w : World} {a : Option Addr} {c : Nat} {fs : List Ent} (l : Lst B w (.slice a fs.length c) fs) : Rp w a fs := by
  obtain ⟨a', c', e, h⟩ := l.rp
  simp only [Value.slice.injEq] at e
  obtain ⟨rfl, -, rfl⟩ := e
  exact h
section
variable {A : Shape} {gn : Nat} {N : List KV} {K : Nat → Prop} {w : World}
theorem n_put (T : Both A (Md gn N) K w) (ka : Option Addr) (kc : Nat) (k : List Int) (u : Int) (ht : Rd w ka k) (hk : k.length ≤ 65535) (hu : 0 ≤ u ∧ u ≤ 18446744073709551615) (hn : N.length < 1000000) :
    Calls Try.prog 18 #[.pointer (some ⟨gn, 0, none⟩), .slice ka k.length kc, .int .u64 u] w fun r w' => r = .returned (.tuple #[.int .u64 (valO (findM k N)), .bool (isIn k N), .int .i64 0]) ∧ Both A (Md gn (putM k u N)) K w' ∧ Kp K w w' := by
  obtain ⟨K1, hK, B, C⟩ := T.right
  exact (put_any ka kc k u w B ht hk hu hn).mono fun e w' ⟨h1, h2, h3⟩ => ⟨h1, C w' _ (Md.lies _ _) h2 h3⟩
theorem n_is (T : Both A (Md gn N) K w) : ∃ K1, Md gn N K1 w := by
  obtain ⟨K1, hK, B, C⟩ := T.right
  exact ⟨K1, B⟩
theorem m_is {gm : Nat} {M : List KV} {B : Shape} (T : Both (Md gm M) B K w) : ∃ K1, Md gm M K1 w := by
  obtain ⟨K1, hK, A, C⟩ := T.left
  exact ⟨K1, A⟩
end

set_option maxHeartbeats 4000000 in
set_option maxRecDepth 20000 in
theorem last_any (es : List Ent) (a ka : Option Addr) (cap kc : Nat) (k : List Int) (w : World) (hp : Prs w a cap es) (hk : Rd w ka k) :
    Calls Try.prog 6 #[.slice a es.length cap, .slice ka k.length kc] w fun e w' => e = .returned (.bool true) ∧ Below w.heap.size w w' := by
  have G := hide (great_in es a cap 40 10 w hp (by omega) (by omega))
  have hkl := hk.2.1
  unfold maxLen at hkl
  have hmx := hp.mx
  cases hg : greatP es 40 10 with
  | true =>
    rw [hg] at G
    clear hg hp hk
    go_enter Try.func6, Try.ntmps6
    go_wp2_with fail
    refine G.out.mono ?_
    rintro r w1 ⟨rfl, s1⟩
    have F1 := hide (s1.below w.heap.size)
    clear s1
    go_wp2_with fail
    refine (awake_any w1).mono ?_
    rintro r w2 ⟨rfl, f2⟩
    have F2 := hide (F1.out.trans (f2.mono F1.out.size))
    clear f2
    go_wp2
    go_ret
    exact ⟨rfl, F2.out⟩
  | false =>
    rw [hg] at G
    have HG := hide (great_false hg)
    have H := hide hp
    have HK := hide hk
    clear hg hp hk
    by_cases hkk : 10 < k.length
    · go_enter Try.func6, Try.ntmps6
      go_wp2_with fail
      refine G.out.mono ?_
      rintro r w1 ⟨rfl, s1⟩
      have F1 := hide (s1.below w.heap.size)
      clear s1
      go_wp2_with fail
      refine (awake_any w1).mono ?_
      rintro r w2 ⟨rfl, f2⟩
      have F2 := hide (F1.out.trans (f2.mono F1.out.size))
      clear f2
      go_wp2
      go_ret
      exact ⟨rfl, F2.out⟩
    · go_enter Try.func6, Try.ntmps6
      go_wp2_with fail
      refine G.out.mono ?_
      rintro r w1 ⟨rfl, s1⟩
      have f1 := s1.below w.heap.size
      have h40 := HG.out.1
      have RP := hide (H.out.rp (by omega))
      have N1 := new_any es a cap w1 (RP.out.below f1 (Nat.le_refl _)) (fun e he => by have := HG.out.2 e he; omega) H.out.nl
      have F1 := hide f1
      clear s1 f1
      go_wp2_with fail
      refine N1.mono ?_
      rintro r w2 ⟨gm, rfl, m2, f2⟩
      have M2 := hide m2
      have F2 := hide (F1.out.trans (f2.mono F1.out.size))
      have hw1 : Hid (w.heap.size ≤ w1.heap.size) := F1.out.size
      clear m2 f2 N1
      go_wp2_with fail
      refine (new_nil w2).mono ?_
      rintro r w3 ⟨gn, rfl, n3, f3⟩
      have T3 : Hid (Both (Md gm (ofM (es.map Ent.kv))) (Md gn (ofM ((es.take 0).map Ent.kv))) (fun k => k < w.heap.size) w3) :=
        Both.of (Md.lies _ _) (Md.lies _ _) ((Md.lies _ _).weaken M2.out (fun k hk => by have := hw1.out; omega)) n3 f3
      have F3 := hide (F2.out.trans (f3.mono F2.out.size))
      clear n3 f3 M2
      go_wp2_with fail
      go_loopw [7, 8, 9] (fun vv vo vi wr => ∃ (i : Nat) (lv : Int) (lo : Bool), vv = .int .u64 lv ∧ vo = .bool lo ∧ vi = .int .i64 i ∧ i ≤ es.length ∧ Hid (lv = (lastV k ((es.take i).map Ent.kv)).getD 0 ∧ lo = (lastV k ((es.take i).map Ent.kv)).isSome) ∧ Hid (Both (Md gm (ofM (es.map Ent.kv))) (Md gn (ofM ((es.take i).map Ent.kv))) (fun k => k < w.heap.size) wr) ∧ Hid (Below w.heap.size w wr)) (fun _ _ vi _ => (es.length - intOf vi).toNat)
      case atStart => exact ⟨0, 0, false, rfl, rfl, rfl, by omega, ⟨rfl, rfl⟩, T3, F3⟩
      case round =>
        clear T3 F3
        obtain ⟨i, lv, lo, rfl, rfl, rfl, hi, HV, T, F⟩ := hrel
        by_cases hin : i < es.length
        · obtain ⟨e, he⟩ : ∃ e, es[i]? = some e := ⟨es[i], List.getElem?_eq_getElem hin⟩
          obtain ⟨b, off, rfl, c0, c1⟩ := (RP.out.below F.out (Nat.le_refl _)).cells he
          have HE := hide he
          have hme := List.mem_of_getElem? he
          have hke : Hid (e.k.length ≤ 10) := HG.out.2 e hme
          have hrd : Hid (Rd wr e.a e.k) := (RP.out.2.1 e hme).1.below F.out (Nat.le_refl _)
          have hvv := hide (RP.out.2.1 e hme).2
          have hN := ofM_len ((es.take i).map Ent.kv)
          have hN2 : (ofM ((es.take i).map Ent.kv)).length ≤ i := Nat.le_trans hN (by simp; omega)
          have htk : Hid ((es.take (i + 1)).map Ent.kv = (es.take i).map Ent.kv ++ [e.kv]) := by
            show _ = _
            rw [List.take_succ_eq_append_getElem hin, List.map_append]
            have : es[i] = e := (List.getElem?_eq_some_iff.1 he).2
            rw [this]; rfl
          have hsn : Hid (putM e.k e.v (ofM ((es.take i).map Ent.kv)) = ofM ((es.take (i + 1)).map Ent.kv)) := by
            show _ = _
            rw [htk.out, ofM_snoc]; rfl
          have P := n_put ((Both.lies _ _).still T.out ⟨1, rfl⟩ : Both (Md gm (ofM (es.map Ent.kv))) (Md gn (ofM ((es.take i).map Ent.kv))) (fun k => k < w.heap.size) wr.drew) e.a e.c e.k e.v hrd.out.drew (by have := hke.out; omega) hvv.out (by omega)
          rw [hsn.out] at P
          have hlen : Hid (isIn e.k (ofM ((es.take i).map Ent.kv)) = true → (ofM ((es.take (i + 1)).map Ent.kv)).length ≤ i) := by
            intro h9
            rw [← hsn.out, putM_len, if_pos h9]
            exact hN2
          generalize valO (findM e.k (ofM ((es.take i).map Ent.kv))) = pv at P
          generalize isIn e.k (ofM ((es.take i).map Ent.kv)) = pi at P hlen
          have HP := hide P
          clear he hme hN hN2 P
          go_wp2_with fail
          have g4 : wr.drew.cell? ⟨b, off + i * 2, none⟩ = some (.slice e.a e.k.length e.c) ∧ wr.drew.cell? ⟨b, off + i * 2 + 1, none⟩ = some (.int .u64 e.v) := ⟨c0, c1⟩
          clear c0 c1
          go_region_held3 (fun w' => w'.cell? ⟨b, off + i * 2, none⟩ = some (.slice e.a e.k.length e.c) ∧ w'.cell? ⟨b, off + i * 2 + 1, none⟩ = some (.int .u64 e.v)) (first | exact g5 | exact g4)
            (first | (go_at_call 18; refine HP.out.mono ?_; rintro r w5 ⟨rfl, t5, k5⟩; have T5 := hide t5; have F5 : Hid (Below w.heap.size w w5) := F.out.trans ((Below.drewN' (Below.refl _ wr) 1).trans (k5.below (F.out.size : w.heap.size ≤ wr.drew.heap.size) (fun k hk => hk))); have g5 := (RP.out.below F5.out (Nat.le_refl _)).at5 HE.out; clear t5 k5))
          have SB := hide (same_any e.a ka e.k k e.c kc w5 ((RP.out.2.1 e (List.mem_of_getElem? HE.out)).1.below F5.out (Nat.le_refl _)) (HK.out.below F5.out (Nat.le_refl _)))
          obtain ⟨g5a, g5b⟩ := g5
          clear g4
          cases pi with
          | false =>
            go_wp2_with fail
            refine SB.out.mono ?_
            rintro r w7 ⟨rfl, n7, hw7⟩
            have T7 : Hid (Both (Md gm (ofM (es.map Ent.kv))) (Md gn (ofM ((es.take (i + 1)).map Ent.kv))) (fun k => k < w.heap.size) w7) := (Both.lies _ _).still T5.out ⟨n7, hw7⟩
            have F7 : Hid (Below w.heap.size w w7) := by rw [hw7]; exact Below.drewN' F5.out n7
            have g7 := (RP.out.below F7.out (Nat.le_refl _)).at5 HE.out
            obtain ⟨g7a, g7b⟩ := g7
            clear hw7
            by_cases hs : e.k = k
            · rw [decide_eq_true hs]
              have HV2 : Hid (e.v = (lastV k ((es.take (i + 1)).map Ent.kv)).getD 0 ∧ true = (lastV k ((es.take (i + 1)).map Ent.kv)).isSome) := by
                rw [htk.out, lastV_snoc, if_pos (show e.kv.1 = k from hs)]
                exact ⟨rfl, rfl⟩
              clear hs
              go_wp2
              go_roundw
              case rel => exact ⟨i + 1, e.v, true, rfl, rfl, by go_num, by omega, HV2, T7, F7⟩
              case measure => simp [intOf]; omega
            · rw [decide_eq_false hs]
              have HV2 : Hid (lv = (lastV k ((es.take (i + 1)).map Ent.kv)).getD 0 ∧ lo = (lastV k ((es.take (i + 1)).map Ent.kv)).isSome) := by
                rw [htk.out, lastV_snoc, if_neg (show ¬ e.kv.1 = k from hs)]
                exact HV.out
              clear hs
              go_wp2
              go_roundw
              case rel => exact ⟨i + 1, lv, lo, rfl, rfl, by go_num, by omega, HV2, T7, F7⟩
              case measure => simp [intOf]; omega
          | true =>
            have hl9 := hlen.out rfl
            obtain ⟨K9, N9⟩ := n_is T5.out
            have LN := hide (len_any w5 N9)
            have hl10 : Hid ((ofM ((es.take (i + 1)).map Ent.kv)).length ≤ i) := hl9
            generalize (ofM ((es.take (i + 1)).map Ent.kv)).length = nl at LN hl9
            clear N9
            go_wp2_with fail
            refine LN.out.mono ?_
            rintro r w6 ⟨rfl, hw6⟩
            subst hw6
            go_wp2_with fail
            refine SB.out.mono ?_
            rintro r w7 ⟨rfl, n7, hw7⟩
            have T7 : Hid (Both (Md gm (ofM (es.map Ent.kv))) (Md gn (ofM ((es.take (i + 1)).map Ent.kv))) (fun k => k < w.heap.size) w7) := (Both.lies _ _).still T5.out ⟨n7, hw7⟩
            have F7 : Hid (Below w.heap.size w w7) := by rw [hw7]; exact Below.drewN' F5.out n7
            have g7 := (RP.out.below F7.out (Nat.le_refl _)).at5 HE.out
            obtain ⟨g7a, g7b⟩ := g7
            clear hw7
            by_cases hs : e.k = k
            · rw [decide_eq_true hs]
              have HV2 : Hid (e.v = (lastV k ((es.take (i + 1)).map Ent.kv)).getD 0 ∧ true = (lastV k ((es.take (i + 1)).map Ent.kv)).isSome) := by
                rw [htk.out, lastV_snoc, if_pos (show e.kv.1 = k from hs)]
                exact ⟨rfl, rfl⟩
              clear hs
              go_wp2
              go_roundw
              case rel => exact ⟨i + 1, e.v, true, rfl, rfl, by go_num, by omega, HV2, T7, F7⟩
              case measure => simp [intOf]; omega
            · rw [decide_eq_false hs]
              have HV2 : Hid (lv = (lastV k ((es.take (i + 1)).map Ent.kv)).getD 0 ∧ lo = (lastV k ((es.take (i + 1)).map Ent.kv)).isSome) := by
                rw [htk.out, lastV_snoc, if_neg (show ¬ e.kv.1 = k from hs)]
                exact HV.out
              clear hs
              go_wp2
              go_roundw
              case rel => exact ⟨i + 1, lv, lo, rfl, rfl, by go_num, by omega, HV2, T7, F7⟩
              case measure => simp [intOf]; omega
        · obtain rfl : i = es.length := by omega
          rw [List.take_length] at HV T
          have HFD := hide (find_ofM (es.map Ent.kv) k)
          have HMU := hide (ofM_ups (es.map Ent.kv))
          have HML : Hid (∀ p ∈ ofM (es.map Ent.kv), p.1.length ≤ 10) := by
            intro p hp
            obtain ⟨e, he, hkv⟩ := List.mem_map.1 (ofM_keys hp)
            rw [← hkv]
            exact HG.out.2 e he
          have hxv : Hid (valO (findM k (ofM (es.map Ent.kv))) = lv) := by show _ = _; rw [HFD.out.1, HV.out.1]
          have hxo : Hid (isIn k (ofM (es.map Ent.kv)) = lo) := by show _ = _; rw [HFD.out.2, HV.out.2]
          clear HFD HV
          generalize ofM (es.map Ent.kv) = M at *
          obtain ⟨KA, MA⟩ := m_is T.out
          have C1 := hide (all_any wr MA)
          clear MA
          go_wp2_with fail
          refine C1.out.mono ?_
          rintro r w4 ⟨a4, c4, f4s, rfl, l4, k4, f4⟩
          have hkl4 : ∀ e ∈ f4s, e.k.length ≤ 65535 := fun e he => by
            have := HML.out e.kv (by rw [← k4]; exact List.mem_map_of_mem he)
            have h9 : e.k.length ≤ 10 := this
            omega
          have N4 := new_any f4s a4 c4 w4 l4.rps hkl4 l4.nil_of
          rw [k4, ofM_self HMU.out] at N4
          have HN4 := hide N4
          have T4 := hide ((Both.lies _ _).below T.out f4)
          have F4 := hide (F.out.trans (f4.mono F.out.size))
          clear N4 l4 k4 f4 hkl4 C1
          go_wp2_with fail
          refine HN4.out.mono ?_
          rintro r w5 ⟨ga, rfl, m5, f5⟩
          have A5 := hide m5
          have T5 := hide ((Both.lies _ _).below T4.out f5)
          have F5 := hide (F4.out.trans (f5.mono F4.out.size))
          clear m5 f5 HN4 T4 F4
          obtain ⟨KB, MB⟩ := m_is T5.out
          have G5 := get_any ka kc k w5 MB (HK.out.below F5.out (Nat.le_refl _))
          rw [hxv.out, hxo.out] at G5
          have HG5 := hide G5
          clear MB G5
          go_wp2_with fail
          refine HG5.out.mono ?_
          rintro r w6 ⟨rfl, f6⟩
          have A6 := hide ((Md.lies _ _).below A5.out f6)
          have T6 := hide ((Both.lies _ _).below T5.out f6)
          have F6 := hide (F5.out.trans (f6.mono F5.out.size))
          clear f6 HG5 A5 T5 F5
          obtain ⟨KC, MC⟩ := m_is T6.out
          have C6 := hide (all_any w6 MC)
          clear MC
          go_wp2_with fail
          refine C6.out.mono ?_
          rintro r w7 ⟨a7, c7, f7s, rfl, l7, k7, f7⟩
          have L7 := hide l7
          have A7 := hide ((Md.lies _ _).below A6.out f7)
          have T7 := hide ((Both.lies _ _).below T6.out f7)
          have F7 := hide (F6.out.trans (f7.mono F6.out.size))
          have K7 := hide k7
          clear l7 k7 f7 C6 A6 T6 F6
          obtain ⟨KD, ND⟩ := n_is T7.out
          have C7 := hide (all_any w7 ND)
          clear ND
          go_wp2_with fail
          refine C7.out.mono ?_
          rintro r w8 ⟨a8, c8, f8s, rfl, l8, k8, f8⟩
          have L8 := hide (L7.out.below f8)
          have S8 := samePairs_any f7s f8s a7 a8 c7 c8 w8 L8.out.rps l8.rps
          rw [K7.out, k8, decide_eq_true rfl] at S8
          have HS8 := hide S8
          have A8 := hide ((Md.lies _ _).below A7.out f8)
          have T8 := hide ((Both.lies _ _).below T7.out f8)
          have F8 := hide (F7.out.trans (f8.mono F7.out.size))
          clear l8 k8 f8 S8 C7 L7 L8 A7 T7 F7 K7
          go_wp2_with fail
          refine HS8.out.mono ?_
          rintro r w9 ⟨rfl, s9⟩
          have f9 := s9.below w8.heap.size
          have A9 := hide ((Md.lies _ _).below A8.out f9)
          have T9 := hide ((Both.lies _ _).below T8.out f9)
          have F9 := hide (F8.out.trans (f9.mono F8.out.size))
          clear s9 f9 HS8 A8 T8 F8
          have C9 := hide (all_any w9 A9.out)
          go_wp2_with fail
          refine C9.out.mono ?_
          rintro r x7 ⟨b7, d7, h7s, rfl, l7, k7, f7⟩
          have L7 := hide l7
          have T7 := hide ((Both.lies _ _).below T9.out f7)
          have F7 := hide (F9.out.trans (f7.mono F9.out.size))
          have K7 := hide k7
          clear l7 k7 f7 C9 A9 T9 F9
          obtain ⟨KE, NE⟩ := n_is T7.out
          have C7 := hide (all_any x7 NE)
          clear NE
          go_wp2_with fail
          refine C7.out.mono ?_
          rintro r x8 ⟨b8, d8, h8s, rfl, l8, k8, f8⟩
          have L8 := hide (L7.out.below f8)
          have S8 := samePairs_any h7s h8s b7 b8 d7 d8 x8 L8.out.rps l8.rps
          rw [K7.out, k8, decide_eq_true rfl] at S8
          have HS8 := hide S8
          have F8 := hide (F7.out.trans (f8.mono F7.out.size))
          clear l8 k8 f8 S8 C7 L7 L8 T7 F7 K7
          go_wp2_with fail
          refine HS8.out.mono ?_
          rintro r x9 ⟨rfl, s9⟩
          have F9 := hide (F8.out.trans ((s9.below x8.heap.size).mono F8.out.size))
          clear s9 HS8 F8
          go_wp2_with fail
          refine (awake_any x9).mono ?_
          rintro r y1 ⟨rfl, f1⟩
          have FZ := hide (F9.out.trans (f1.mono F9.out.size))
          clear f1
          go_wp2
          go_ret
          exact ⟨rfl, FZ.out⟩
end Go.Proofs.Ytahlbebkcoofkaa
