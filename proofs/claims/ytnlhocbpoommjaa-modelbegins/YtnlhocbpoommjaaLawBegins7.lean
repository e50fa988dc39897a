/- ModelBegins. -/
import Derived.Test.YtnlhocbpoommjaaBeg7
import Derived.Deep.DeepCutAuto
import Derived.Deep.CutBlock
import Derived.Deep.LoopGhost
namespace Go.Proofs.Ytnlhocbpoommjaa
set_option maxRecDepth 20000
open Go.RowKit Go.Sort
set_option linter.unusedVariables false

set_option maxHeartbeats 4000000 in
set_option maxRecDepth 20000 in
theorem begins7_any (es : List Ent) (a ka : Option Addr) (cap kc : Nat) (k : List Int) (w : World) (hp : Prs w a cap es) (hk : Rd w ka k) (hkc : k.length ≤ kc) :
    Calls Try.prog 5 #[.slice a es.length cap, .slice ka k.length kc] w fun e w' => e = .returned (.bool true) ∧ Below w.heap.size w w' := by
  have G := hide (great_in es a cap 30 15 w hp (by omega) (by omega))
  have hkl := hk.2.1
  unfold maxLen at hkl
  have hmx := hp.mx
  cases hg : greatP es 30 15 with
  | true =>
    rw [hg] at G
    clear hg hp hk
    go_enter Try.func5, Try.ntmps5
    go_wp2_with fail
    refine G.out.mono ?_
    rintro r w1 ⟨rfl, s1⟩
    have F1 := hide (s1.below w.heap.size)
    clear s1
    go_wp2_with fail
    refine (awake_any w1).mono ?_
    rintro r w2 ⟨rfl, f2⟩
    have F2 := hide (F1.out.trans (f2.mono F1.out.size))
    clear f2
    go_wp2
    go_ret
    exact ⟨rfl, F2.out⟩
  | false =>
    rw [hg] at G
    have HG := hide (great_false hg)
    have H := hide hp
    have HK := hide hk
    clear hg hp hk
    by_cases hkk : 30 < k.length
    · go_enter Try.func5, Try.ntmps5
      go_wp2_with fail
      refine G.out.mono ?_
      rintro r w1 ⟨rfl, s1⟩
      have F1 := hide (s1.below w.heap.size)
      clear s1
      go_wp2_with fail
      refine (awake_any w1).mono ?_
      rintro r w2 ⟨rfl, f2⟩
      have F2 := hide (F1.out.trans (f2.mono F1.out.size))
      clear f2
      go_wp2
      go_ret
      exact ⟨rfl, F2.out⟩
    · go_enter Try.func5, Try.ntmps5
      go_wp2_with fail
      refine G.out.mono ?_
      rintro r w1 ⟨rfl, s1⟩
      have f1 := s1.below w.heap.size
      have h40 := HG.out.1
      have RP := hide (H.out.rp (by omega))
      have N1 := new_any es a cap w1 (RP.out.below f1 (Nat.le_refl _)) (fun e he => by have := HG.out.2 e he; omega) H.out.nl
      have F1 := hide f1
      clear s1 f1
      go_wp2_with fail
      refine N1.mono ?_
      rintro r w2 ⟨g, rfl, m2, f2⟩
      have hu2 := hide (ofM_ups (es.map Ent.kv))
      have hl2 := Nat.le_trans (ofM_len (es.map Ent.kv)) (show (es.map Ent.kv).length ≤ 30 by simp; omega)
      generalize ofM (es.map Ent.kv) = M at m2 hu2 hl2
      have M2 := hide m2
      have F2 := hide (F1.out.trans (f2.mono F1.out.size))
      clear m2 f2 N1
      have hk30 : k.length ≤ 30 := by omega
      go_wp2_with fail
      go_loopw [6, 7] (fun vn vi wr => ∃ (i : Nat) (nv : Int), vn = .int .i64 nv ∧ vi = .int .i64 i ∧ i ≤ k.length + 1 ∧ -1 ≤ nv ∧ nv ≤ 30 ∧ Hid (nv = pnM k M i) ∧ Hid (Md g M (fun k => k < w1.heap.size) wr) ∧ Hid (Below w.heap.size w wr)) (fun _ vi _ => (k.length + 1 - intOf vi).toNat)
      case atStart => exact ⟨0, -1, rfl, rfl, by omega, by omega, by omega, rfl, M2, F2⟩
      case round =>
        clear M2 F2
        obtain ⟨i, nv, rfl, rfl, hi, hn0, hn1, HV, MR, F⟩ := hrel
        by_cases hin : i ≤ k.length
        · have hrd := (HK.out.below F.out (Nat.le_refl _)).take i
          have G := get_any ka kc (k.take i) wr MR.out hrd
          rw [show (k.take i).length = i by simp; omega] at G
          have hcap : Hid (i ≤ k.length) := hin
          cases hp : isIn (k.take i) M with
          | true =>
            rw [hp] at G
            have HV2 : Hid ((i : Int) = pnM k M (i + 1)) := by show _ = _; simp only [pnM]; rw [hp]; rfl
            generalize valO (findM (k.take i) M) = gv at G
            have HG2 := hide G
            clear G hrd hp
            go_wp2_with fail
            refine HG2.out.mono ?_
            rintro r w5 ⟨rfl, f5⟩
            have M5 := hide ((Md.lies _ _).below MR.out f5)
            have F5 := hide (F.out.trans (f5.mono F.out.size))
            clear f5 HG2
            go_wp2
            go_roundw
            case rel => exact ⟨i + 1, i, rfl, by go_num, by omega, by omega, by omega, HV2, M5, F5⟩
            case measure => simp [intOf]; omega
          | false =>
            rw [hp] at G
            have HV2 : Hid (nv = pnM k M (i + 1)) := by show _ = _; simp only [pnM]; rw [hp]; exact HV.out
            generalize valO (findM (k.take i) M) = gv at G
            have HG2 := hide G
            clear G hrd hp
            go_wp2_with fail
            refine HG2.out.mono ?_
            rintro r w5 ⟨rfl, f5⟩
            have M5 := hide ((Md.lies _ _).below MR.out f5)
            have F5 := hide (F.out.trans (f5.mono F.out.size))
            clear f5 HG2
            go_wp2
            go_roundw
            case rel => exact ⟨i + 1, nv, rfl, by go_num, by omega, by omega, by omega, HV2, M5, F5⟩
            case measure => simp [intOf]; omega
        · obtain rfl : i = k.length + 1 := by omega
          clear hi
          have LG := hide (longest_any ka kc k wr MR.out (HK.out.below F.out (Nat.le_refl _)) (by omega))
          have LP := hide (long_pn hu2.out k)
          rw [← HV.out] at LP
          obtain ⟨kk, hkk2⟩ : ∃ kk, keyO (longM k M) = kk := ⟨_, rfl⟩
          obtain ⟨vv, hvv2⟩ : ∃ vv, valO (longM k M) = vv := ⟨_, rfl⟩
          obtain ⟨bb, hbb2⟩ : ∃ bb, Option.isSome (longM k M) = bb := ⟨_, rfl⟩
          have LP2 : Hid ((nv = -1 ∧ bb = false) ∨ ∃ j : Nat, j ≤ k.length ∧ nv = (j : Int) ∧ kk = k.take j ∧ bb = true) := by
            rcases LP.out with ⟨e1, e2⟩ | ⟨j, v0, hj, e1, e2⟩
            · exact .inl ⟨e1, by rw [← hbb2, e2]; rfl⟩
            · exact .inr ⟨j, hj, e1, by rw [← hkk2, e2]; rfl, by rw [← hbb2, e2]; rfl⟩
          go_wp2_with fail
          refine LG.out.mono ?_
          rintro r w5 ⟨a5, c5, rfl, o5, b5, f5⟩
          rw [hkk2] at o5 b5 ⊢
          rw [hvv2, hbb2]
          have RD5 := hide (owns_rd o5 b5)
          have MM := hide ((Md.lies _ _).below MR.out f5)
          have F5 := hide (F.out.trans (f5.mono F.out.size))
          clear o5 b5 f5 LG MR LP hkk2 hvv2 hbb2 HV
          go_wp2_with fail
          have x6 : Blk (w5.alloc (.cells #[.slice a5 kk.length c5, .int .u64 vv] 54 (0, 0))) w5.heap.size 54 [.slice a5 kk.length c5, .int .u64 vv] := Blk.new w5 _ _ _ rfl
          have f6 := below_alloc w5 (.cells #[.slice a5 kk.length c5, .int .u64 vv] 54 (0, 0))
          generalize hw6 : w5.alloc (.cells #[.slice a5 kk.length c5, .int .u64 vv] 54 (0, 0)) = w6 at x6 f6 ⊢
          clear hw6
          have M6 := hide ((Md.lies _ _).below MM.out f6)
          have F6 := hide (F5.out.trans (f6.mono F5.out.size))
          have HF6 := hide f6
          have q0 := x6.cell 0
          simp only [List.getElem?_cons_zero] at q0
          clear x6 f6 MM
          go_cut [67] (fun v wx => v = .bool false ∧ Below w6.heap.size w6 wx)
          case first =>
            rcases LP2.out with ⟨e1, e2⟩ | ⟨j, hj, e1, e2, e3⟩
            · subst e1 e2
              go_quiet (fail)
              go_wp2_with fail
              go_meet
              case rel => exact ⟨rfl, Below.drewN' (Below.refl _ _) _⟩
            · subst e1 e3
              obtain ⟨a9, c9, e9, r9, _⟩ := RD5.out
              simp only [Value.slice.injEq] at e9
              obtain ⟨rfl, -, rfl⟩ := e9
              have r6 := r9.below HF6.out (Nat.le_refl _)
              have k6 := (HK.out.below F6.out (Nat.le_refl _)).take j
              have S := fun d => same_any a5 ka kk (k.take j) c5 kc (w6.drewN d) (r6.drewN d) (k6.drewN d)
              rw [show (k.take j).length = j by simp; omega, decide_eq_true e2] at S
              have HS := hide S
              have hjk : j ≤ kc := by omega
              clear r6 k6 S r9 e2
              go_quiet (first | (go_at_call 38; exact Calls.quiet_of (HS.out _)))
              go_wp2_with fail
              go_meet
              case rel => exact ⟨rfl, Below.drewN' (Below.refl _ _) _⟩
          case rest =>
          obtain ⟨rfl, f7⟩ := hcut
          have M7 := hide ((Md.lies _ _).below M6.out f7)
          have F7 := hide (F6.out.trans (f7.mono F6.out.size))
          clear f7 q0 M6 F6 HF6 RD5 LP2 F5 F
          have R7 := hide (rank_any ka kc k wc M7.out (HK.out.below F7.out (Nat.le_refl _)))
          have hrl := rank_le k M
          obtain ⟨rk, hrk⟩ : ∃ rk, rankM k M = rk := ⟨_, rfl⟩
          rw [hrk] at R7 hrl
          have HRK := hide hrk
          clear hrk
          go_wp2_with fail
          refine R7.out.mono ?_
          rintro r w8 ⟨rfl, f8⟩
          have M8 := hide ((Md.lies _ _).below M7.out f8)
          have F8 := hide (F7.out.trans (f8.mono F7.out.size))
          clear f8 R7 M7 F7
          have FR := from_any none 0 [] (rk : Int) w8 M8.out (Rd.nil _ _) (by omega) (by omega)
          rw [from_ahead] at FR
          have HFR := hide FR
          clear FR
          go_wp2_with fail
          refine HFR.out.mono ?_
          rintro r w9 ⟨a9, c9, f9s, rfl, l9, k9, f9⟩
          have L9 := hide (l9.down (B' := w.heap.size) F8.out.size)
          have K9 := hide k9
          have M9 := hide ((Md.lies _ _).more M8.out f9)
          have HA9 : Hid (∀ x, (Value.slice a9 f9s.length c9).ownBlock = some x → w8.heap.size ≤ x ∧ x < w9.heap.size) := fun x hx => l9.row.lt x hx
          have F9 := hide (F8.out.trans (f9.mono F8.out.size))
          have hl9 : Hid (f9s.length = rk) := by have := congrArg List.length k9; simp at this; show _ = _; omega
          clear l9 k9 f9 HFR M8 F8
          have FB := from_any ka kc k ((40 : Nat) : Int) w9 M9.out (HK.out.below F9.out (Nat.le_refl _)) (by omega) (by omega)
          rw [from_behind M k 40 (by omega), HRK.out] at FB
          have HFB := hide FB
          clear FB
          go_wp2_with fail
          refine HFB.out.mono ?_
          rintro r w10 ⟨a10, c10, f10s, rfl, l10, k10, f10⟩
          have L10 := hide (l10.down (B' := w.heap.size) F9.out.size)
          have L9b := hide (L9.out.below f10)
          have K10 := hide k10
          have M10 := hide ((Md.lies _ _).below M9.out f10)
          have F10 := hide (F9.out.trans (f10.mono F9.out.size))
          have hl10 : Hid (f10s.length = M.length - rk) := by have := congrArg List.length k10; simp at this; show _ = _; omega
          clear l10 k10 f10 HFB M9 F9 L9
          go_wp2_with fail
          go_loopw [15] (fun vi wr => ∃ i : Nat, vi = .int .i64 i ∧ i ≤ M.length ∧ Hid (Md g M (fun k => k < w1.heap.size ∨ w8.heap.size ≤ k ∧ k < w9.heap.size) wr) ∧ Hid (Below w10.heap.size w10 wr)) (fun vi _ => (M.length - intOf vi).toNat)
          case atStart => exact ⟨0, rfl, by omega, M10, Below.refl _ _⟩
          case round =>
            obtain ⟨i, rfl, hi, MR, FR⟩ := hrel
            have LR := hide (len_any wr MR.out)
            go_wp2_with fail
            refine LR.out.mono ?_
            rintro r x1 ⟨rfl, hx1⟩
            subst hx1
            by_cases hin : i < M.length
            · obtain ⟨p, hp⟩ : ∃ p, M[i]? = some p := ⟨M[i], List.getElem?_eq_getElem hin⟩
              have SR := select_any (i : Int) x1 MR.out (by omega) (by omega)
              have hsel : selM (i : Int) M = some p := by unfold selM; rw [if_neg (by omega)]; simpa using hp
              rw [hsel] at SR
              have HSR := hide SR
              have HRP := hide (rank_at hu2.out hp)
              clear SR hsel hp
              go_wp2_with fail
              refine HSR.out.mono ?_
              rintro r x2 ⟨b2, d2, rfl, o2, y2, g2⟩
              simp only [keyO, valO, Option.isSome_some] at o2 y2 ⊢
              obtain ⟨b3, d3, e3, r3, _⟩ := owns_rd o2 y2
              simp only [Value.slice.injEq] at e3
              obtain ⟨rfl, -, rfl⟩ := e3
              have g3 := below_alloc x2 (.cells #[.slice b2 p.1.length d2, .int .u64 p.2] 54 (0, 0))
              have x3 : Blk (x2.alloc (.cells #[.slice b2 p.1.length d2, .int .u64 p.2] 54 (0, 0))) x2.heap.size 54 [.slice b2 p.1.length d2, .int .u64 p.2] := Blk.new x2 _ _ _ rfl
              have q3 := x3.cell 0
              simp only [List.getElem?_cons_zero] at q3
              have M3 := hide ((Md.lies _ _).below ((Md.lies _ _).below MR.out g2) g3)
              have F3 := hide (FR.out.trans ((g2.trans (g3.mono g2.size)).mono FR.out.size))
              have RK := rank_any b2 d2 p.1 _ M3.out (r3.below g3 (Nat.le_refl _))
              rw [HRP.out] at RK
              have HRK3 := hide RK
              clear o2 y2 g2 g3 x3 r3 RK HSR
              go_wp2_with fail
              refine HRK3.out.mono ?_
              rintro r x4 ⟨rfl, g4⟩
              have M4 := hide ((Md.lies _ _).below M3.out g4)
              have F4 := hide (F3.out.trans (g4.mono F3.out.size))
              clear g4 HRK3 q3
              go_wp2
              go_roundw
              case rel => exact ⟨i + 1, by go_num, by omega, M4, F4⟩
              case measure => simp [intOf]; omega
            · obtain rfl : i = M.length := by omega
              have hd1 : ((f9s.length : Int) == (rk : Int)) = true := by have := hl9.out; simp; omega
              have hsum : (f9s.length : Int) + (f10s.length : Int) = (M.length : Int) := by have := hl9.out; have := hl10.out; omega
              have HSUM := hide hsum
              have hd2 : ((f9s.length : Int) + (f10s.length : Int) == (M.length : Int)) = true := by simp; omega
              have hb9 : f9s.length ≤ 30 := by have := hl9.out; omega
              have hb10 : f10s.length ≤ 30 := by have := hl10.out; omega
              clear hsum hin
              have LE := hide (len_any x1 MR.out)
              go_wp2_with fail
              refine LE.out.mono ?_
              rintro r x2 ⟨rfl, hx2⟩
              subst hx2
              have L9c := L9b.out.below FR.out
              have L10c := L10.out.below FR.out
              have FX := hide (F10.out.trans (FR.out.mono F10.out.size))
              obtain ⟨aA, cA, wA, rA, hrA, fA, gA, sA⟩ := lst_append L9c L10c FX.out.size (by omega)
              have MA : Md g M (fun k => k < w1.heap.size ∨ w8.heap.size ≤ k ∧ k < w9.heap.size) wA := (Md.lies g M).kp MR.out (K' := fun k => (Value.slice a9 f9s.length c9).ownBlock ≠ some k) ⟨fA.os, fA.tape, fA.output, sA, fun k hk hl => gA k hl hk⟩ (fun k hl hk e => hk (.inr (HA9.out k e)))
              have HMA := hide MA
              have HFA := hide (FX.out.trans fA)
              have HRA := hide hrA
              have HKV : Hid ((f9s ++ f10s).map Ent.kv = M) := by show _ = _; rw [List.map_append, K9.out, K10.out, List.take_append_drop]
              have CA := hide (all_any wA MA)
              clear L9c L10c hrA fA gA sA MA FX
              go_wp2_with (at_builtin; refine wpList_append_run' ?hg _ _ _ _ rfl _ _ _ _ rfl rfl rA ?_; case hg => kernel_rfl)
              refine CA.out.mono ?_
              rintro r y1 ⟨b1, d1, h1s, rfl, l1, k1, f1⟩
              have S1 := samePairs_any (f9s ++ f10s) h1s aA b1 cA d1 y1 (HRA.out.below f1 (Nat.le_refl _)) l1.rps
              rw [HKV.out, k1, decide_eq_true rfl, List.length_append] at S1
              have HS1 := hide S1
              have G1 := hide (HFA.out.trans (f1.mono HFA.out.size))
              clear S1 l1 k1 f1 rA CA
              go_wp2_with fail
              refine HS1.out.mono ?_
              rintro r y2 ⟨rfl, s2⟩
              have G2 := hide (G1.out.trans ((s2.below y1.heap.size).mono G1.out.size))
              clear s2 HS1
              go_wp2_with fail
              refine (awake_any y2).mono ?_
              rintro r y3 ⟨rfl, f3⟩
              have G3 := hide (G2.out.trans (f3.mono G2.out.size))
              clear f3
              go_wp2
              go_ret
              exact ⟨rfl, G3.out⟩
end Go.Proofs.Ytnlhocbpoommjaa
