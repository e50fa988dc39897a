/- SpanKeeps. -/
import Derived.Test.YtaoabjcbolncoaaKeep6
import Derived.Test.YtaoabjcbolncoaaArg6
import Derived.Deep.DeepCutAuto
import Derived.Deep.CutBlock
import Derived.Deep.LoopGhost
namespace Go.Proofs.Ytaoabjcbolncoaa
open Go.RowKit
set_option linter.unusedVariables false
set_option linter.unusedSimpArgs false

/-- How much is cut off string i. -/
def cN (zs : List Int) (i : Nat) (xs : List Int) : Nat := if i < zs.length then (lowK (zs.getD i 0) ((xs.length + 1 : Nat) : Int)).toNat else 0
theorem cN_le (zs : List Int) (i : Nat) (xs : List Int) : cN zs i xs ≤ xs.length := by
  unfold cN
  split
  · have := lowK_range (zs.getD i 0) ((xs.length + 1 : Nat) : Int) (by omega)
    omega
  · omega
def csA (ss : List Str6) (k : Nat) : Strs := (ss.take k).map (fun x => some x.xs)
def csB (ss : List Str6) (zs : List Int) (k : Nat) : Strs := ss.mapIdx (fun i x => some (if i < k then x.xs.drop (cN zs i x.xs) else x.xs))
def csC (ss : List Str6) (zs : List Int) (k : Nat) : Strs := ss.mapIdx (fun i x => if i < k then none else some (x.xs.drop (cN zs i x.xs)))
theorem csA_length (ss : List Str6) (k : Nat) (h : k ≤ ss.length) : (csA ss k).length = k := by simp [csA]; omega
theorem csA_succ (ss : List Str6) (k : Nat) (x : Str6) (h : ss[k]? = some x) : csA ss k ++ [some x.xs] = csA ss (k + 1) := by
  unfold csA
  rw [List.take_add_one, h]
  simp
theorem csA_all (ss : List Str6) (zs : List Int) : csA ss ss.length = csB ss zs 0 := by
  unfold csA csB
  rw [List.take_length]
  apply List.ext_getElem?
  intro i
  simp [List.getElem?_mapIdx]
theorem csB_length (ss : List Str6) (zs : List Int) (k : Nat) : (csB ss zs k).length = ss.length := by simp [csB]
theorem csC_length (ss : List Str6) (zs : List Int) (k : Nat) : (csC ss zs k).length = ss.length := by simp [csC]
theorem csB_get (ss : List Str6) (zs : List Int) (k : Nat) (x : Str6) (h : ss[k]? = some x) : (csB ss zs k)[k]? = some (some x.xs) := by simp [csB, List.getElem?_mapIdx, h]
theorem csB_get' (ss : List Str6) (zs : List Int) (k : Nat) (x : Str6) (h : ss[k]? = some x) : (csB ss zs (k + 1))[k]? = some (some (x.xs.drop (cN zs k x.xs))) := by simp [csB, List.getElem?_mapIdx, h]
theorem csB_succ (ss : List Str6) (zs : List Int) (k : Nat) (x : Str6) (h : ss[k]? = some x) : (csB ss zs k).set k (some (x.xs.drop (cN zs k x.xs))) = csB ss zs (k + 1) := by
  have hk := (List.getElem?_eq_some_iff.1 h).1
  apply List.ext_getElem?
  intro j
  rw [List.getElem?_set]
  split
  · rename_i e
    subst e
    rw [if_pos (by rw [csB_length]; exact hk), csB_get' ss zs k x h]
  · rename_i e
    simp only [csB, List.getElem?_mapIdx]
    cases ss[j]? with
    | none => rfl
    | some y =>
      simp only [Option.map_some]
      by_cases hj : j < k
      · rw [if_pos hj, if_pos (by omega)]
      · rw [if_neg hj, if_neg (by omega)]
theorem csB_all (ss : List Str6) (zs : List Int) : csB ss zs ss.length = csC ss zs 0 := by
  unfold csB csC
  apply List.ext_getElem?
  intro i
  simp only [List.getElem?_mapIdx]
  cases h : ss[i]? with
  | none => rfl
  | some y =>
    have := (List.getElem?_eq_some_iff.1 h).1
    simp [this]
theorem csC_get (ss : List Str6) (zs : List Int) (k : Nat) (x : Str6) (h : ss[k]? = some x) : (csC ss zs k)[k]? = some (some (x.xs.drop (cN zs k x.xs))) := by simp [csC, List.getElem?_mapIdx, h]
theorem csC_succ (ss : List Str6) (zs : List Int) (k : Nat) (hk : k < ss.length) : (csC ss zs k).set k none = csC ss zs (k + 1) := by
  apply List.ext_getElem?
  intro j
  rw [List.getElem?_set]
  split
  · rename_i e
    subst e
    rw [if_pos (by rw [csC_length]; exact hk)]
    simp [csC, List.getElem?_mapIdx, hk]
  · rename_i e
    simp only [csC, List.getElem?_mapIdx]
    cases ss[j]? with
    | none => rfl
    | some y =>
      simp only [Option.map_some]
      by_cases hj : j < k
      · rw [if_pos hj, if_pos (by omega)]
      · rw [if_neg hj, if_neg (by omega)]
theorem total_none : ∀ cs : Strs, (∀ x ∈ cs, x = none) → total cs = 0
  | [], _ => rfl
  | x :: cs, h => by
    have h1 := h x (by simp)
    subst h1
    simp only [total, lenO]
    rw [total_none cs (fun y hy => h y (by simp [hy]))]
theorem csC_total (ss : List Str6) (zs : List Int) : total (csC ss zs ss.length) = 0 := by
  apply total_none
  intro x hx
  obtain ⟨i, hi, e⟩ := List.getElem_of_mem hx
  simp only [csC, List.getElem_mapIdx] at e
  rw [← e, if_pos (by simpa [csC] using hi)]
theorem csA_total (ss : List Str6) : ∀ k, (∀ (j : Nat) (x : Str6), j < k → ss[j]? = some x → x.xs.length ≤ 40) → k ≤ ss.length → total (csA ss k) ≤ 40 * k
  | 0, _, _ => by simp [csA, total]
  | k + 1, h, hk => by
    obtain ⟨x, hx⟩ : ∃ x, ss[k]? = some x := ⟨_, List.getElem?_eq_getElem (by omega)⟩
    have := csA_total ss k (fun j x hj => h j x (by omega)) (by omega)
    rw [← csA_succ ss k x hx, total_append]
    have := h k x (by omega) hx
    simp [total, lenO]
    omega

theorem Bss.cell {w : World} {a : Option Addr} {ss : List Str6} (h : Bss w a ss) {k : Nat} {x : Str6} (hx : ss[k]? = some x) : ∃ b off, a = some ⟨b, off, none⟩ ∧ ∀ W, Kp (fun k => k < w.heap.size) w W → W.cell? ⟨b, off + k, none⟩ = some x.val := by
  rcases h.2 with h0 | ⟨b, off, e, hb, hc⟩
  · rw [h0] at hx; simp at hx
  · refine ⟨b, off, e, fun W K => ?_⟩
    have := hc k x hx
    rw [World.cell?_of_block (w := w) (w' := W) (a := ⟨b, off + k, none⟩) (K.block b hb hb)]
    exact this
theorem Ints.cell {w : World} {a : Option Addr} {zs : List Int} (h : Ints w a zs) {k : Nat} (hk : k < zs.length) : ∃ b off, a = some ⟨b, off, none⟩ ∧ ∀ W, Kp (fun k => k < w.heap.size) w W → W.cell? ⟨b, off + k, none⟩ = some (.int .i64 (zs.getD k 0)) := by
  rcases h.2 with h0 | ⟨b, off, e, hb, hc⟩
  · rw [h0] at hk; simp at hk
  · refine ⟨b, off, e, fun W K => ?_⟩
    have := hc k hk
    rw [World.cell?_of_block (w := w) (w' := W) (a := ⟨b, off + k, none⟩) (K.block b hb hb)]
    exact this

theorem set_same {α : Type} (l : List α) (i : Nat) (a : α) (h : l[i]? = some a) : l.set i a = l := by
  apply List.ext_getElem?
  intro j
  rw [List.getElem?_set]
  by_cases e : i = j
  · subst e
    rw [if_pos rfl, if_pos (List.getElem?_eq_some_iff.1 h).1, h]
  · rw [if_neg e]
theorem same_yes (a b : Option Addr) (xs : List Int) (n m ca cb : Nat) (w : World) (hn : n = xs.length) (hm : m = xs.length) (ha : Rd w a xs) (hb : Rd w b xs) :
    Calls Try.prog 20 #[.slice a n ca, .slice b m cb] w fun e w' => e = .returned (.bool true) ∧ Still w w' := by
  subst hn
  rw [hm]
  have h := same_b a b xs xs ca cb w ha hb
  rwa [decide_eq_true rfl] at h
set_option maxRecDepth 20000 in
set_option maxHeartbeats 6400000 in
theorem keeps_any (a c : Option Addr) (ss : List Str6) (zs : List Int) (ca cc : Nat) (w : World) (ha : Bss w a ss) (hz : Ints w c zs) :
    Calls Try.prog 4 #[.slice a ss.length ca, .slice c zs.length cc] w fun e w' => e = .returned (.bool true) ∧ Below w.heap.size w w' := by
  have A := hide ha
  have Z := hide hz
  clear ha hz
  by_cases hla : 20 < ss.length
  · have hlai : (20 : Int) < (ss.length : Int) := by omega
    go_enter Try.func4, Try.ntmps4
    go_wp2_with (go_at_call 6; refine (awake_any _).mono ?_; rintro e w' ⟨rfl, hw⟩)
    go_ret
    exact ⟨rfl, hw⟩
  have hla' : ¬ (20 < (ss.length : Int)) := by omega
  by_cases hlz : 20 < zs.length
  · have hlzi : (20 : Int) < (zs.length : Int) := by omega
    go_enter Try.func4, Try.ntmps4
    go_wp2_with (go_at_call 6; refine (awake_any _).mono ?_; rintro e w' ⟨rfl, hw⟩)
    go_ret
    exact ⟨rfl, hw⟩
  have hlz' : ¬ (20 < (zs.length : Int)) := by omega
  go_enter Try.func4, Try.ntmps4
  go_wp2_with fail
  refine (new_v _ 1000 (by omega) (by omega)).mono ?_
  rintro e w1 ⟨g, rfl, a1, k1⟩
  have A1 := hide a1
  have K1 := hide k1
  clear a1 k1
  go_wp2_with fail
  go_loopw [6, 7, 8] (fun vu vh v wr => ∃ (k : Nat) (ah : Option Addr) (ch : Nat), vu = .int .i64 (total (csA ss k)) ∧ vh = .slice ah k ch ∧ v = .int .i64 k ∧ k ≤ ss.length ∧ (∀ (j : Nat) (x : Str6), j < k → ss[j]? = some x → x.xs.length ≤ 40) ∧ Sp g 1000 (csA ss k) [] (KB w.heap.size (.slice ah k ch)) wr ∧ wr.ownsRow w.heap.size 28 1 (.slice ah k ch) k (u32s (handK k)) ∧ Kp (fun k => k < w.heap.size) w wr) (fun _ _ v _ => ss.length - (intOf v).toNat)
  case atStart => exact ⟨0, none, 0, rfl, rfl, rfl, by omega, fun j x hj => by omega, (Sp.lies _ _ _ _).kb0 A1.out, World.ownsRow_nil _ _ _ _, K1.out⟩
  case round =>
    obtain ⟨k, ah, ch, rfl, rfl, rfl, hk, h40, ha, ho, hkp⟩ := hrel
    have A2 := hide ha
    have O2 := hide ho
    have K2 := hide hkp
    have H40 := hide h40
    clear ha ho hkp h40 A1 K1
    by_cases h1 : k < ss.length
    · obtain ⟨x, hx⟩ : ∃ x, ss[k]? = some x := ⟨_, List.getElem?_eq_getElem h1⟩
      have HX := hide hx
      obtain ⟨hbd, hsl⟩ := A.out.1 x (List.mem_of_getElem? hx)
      obtain ⟨b, off, rfl, hcx⟩ := A.out.cell hx
      have c0 := hcx wr K2.out
      have CX := hide hcx
      clear hcx
      have BD := hide ((hbd.kp K2.out).up (K' := KB w.heap.size (.slice ah k ch)) (fun k hk => .inl hk))
      clear hx hbd hsl
      obtain ⟨xa, xc, xs⟩ := x
      dsimp only [Str6.val] at c0 BD CX
      by_cases h40 : 40 < xs.length
      · have h40i : (40 : Int) < (xs.length : Int) := by omega
        go_wp2_with (go_at_call 6; refine (awake_any _).mono ?_; rintro e w5 ⟨rfl, f5⟩; have F5 := hide f5; clear f5)
        go_ret
        exact ⟨rfl, (K2.out.below (Nat.le_refl _) (fun k hk => hk)).trans (F5.out.mono K2.out.size)⟩
      have h40i : ¬ (40 < (xs.length : Int)) := by omega
      have ht := csA_total ss k H40.out hk
      have P := put_new A2.out (by rw [csA_length ss k hk]; omega) xa xs xc BD.out (by omega)
      rw [csA_length ss k hk, csA_succ ss k ⟨xa, xc, xs⟩ HX.out] at P
      have hT : total (csA ss (k + 1)) = total (csA ss k) + xs.length := by rw [← csA_succ ss k ⟨xa, xc, xs⟩ HX.out, total_append]; simp [total, lenO]
      have HT := hide hT
      have HP := hide P
      clear P hT
      generalize hu : (total (csA ss k) : Int) = u
      have hub : 0 ≤ u ∧ u ≤ 1000 := by omega
      have HU := hide hu
      clear hu ht
      go_wp2_with fail
      refine HP.out.mono ?_
      rintro e w3 ⟨rfl, a3, k3⟩
      have A3 := hide a3
      have K3 := hide (K2.out.trans k3.kb)
      have O3 := hide (owns_kb O2.out k3)
      clear a3 k3
      have hlh : (handK k).length = k := handK_length k
      have o3' : w3.ownsRow w.heap.size 28 1 (.slice ah k ch) (handK k).length (u32s (handK k)) := by rw [hlh]; exact O3.out
      obtain ⟨av, cv, w4, r4, o4, g4, hv4⟩ := append_u32 w3 w.heap.size (.slice ah k ch) (handK k) ((k + 1 : Nat) : Int) (k + 1) rfl o3' (by omega) (by have := K3.out.size; omega)
      rw [hlh] at r4 o4 hv4
      have o4' : w4.ownsRow w.heap.size 28 1 (.slice av (k + 1) cv) (k + 1) (u32s (handK (k + 1))) := by
        rw [handK_succ, handK_length] at o4
        exact o4
      obtain ⟨a4, k4⟩ := (Sp.lies _ _ _ _).app A3.out K3.out.size O3.out g4 hv4 o4'
      have A4 := hide a4
      have K4 := hide (K3.out.trans k4)
      have O4 := hide o4'
      have c4 := CX.out w4 K4.out
      clear a4 k4 o4 o4' g4 hv4 o3' hlh
      go_wp2_with (at_builtin; refine wpList_append_run rfl _ _ _ _ rfl _ _ _ _ rfl rfl r4 ?_)
      go_roundw
      case measure => simp only [intOf]; omega
      case rel =>
        refine ⟨k + 1, av, cv, ?_, rfl, by go_num, by omega, ?_, A4.out, O4.out, K4.out⟩
        · rw [HT.out]
          have := HU.out
          congr 1
          omega
        · intro j y hj hy
          by_cases e : j = k
          · subst e
            have := HX.out
            rw [hy] at this
            cases this
            show xs.length ≤ 40
            omega
          · exact H40.out j y (by omega) hy
    · obtain rfl : k = ss.length := by omega
      have A5 := hide A2.out
      rw [csA_all ss zs] at A5
      have e5 : total (csA ss ss.length) = total (csB ss zs 0) := by rw [csA_all ss zs]
      rw [e5]
      have ht0 := csA_total ss ss.length H40.out (Nat.le_refl _)
      rw [e5] at ht0
      have HT0 := hide ht0
      clear e5 ht0 A2
      go_wp2_with fail
      go_loopw [6, 11] (fun vu v wq => ∃ (k : Nat), vu = .int .i64 (total (csB ss zs k)) ∧ v = .int .i64 k ∧ k ≤ ss.length ∧ total (csB ss zs k) ≤ 1000 ∧ Sp g 1000 (csB ss zs k) [] (KB w.heap.size (.slice ah ss.length ch)) wq ∧ wq.ownsRow w.heap.size 28 1 (.slice ah ss.length ch) ss.length (u32s (handK ss.length)) ∧ Kp (fun k => k < w.heap.size) w wq) (fun _ v _ => ss.length - (intOf v).toNat)
      case atStart => exact ⟨0, rfl, rfl, by omega, by have := HT0.out; omega, A5.out, O2.out, K2.out⟩
      case round =>
        rename_i wq _ _ _
        obtain ⟨k, rfl, rfl, hk, htk, ha, ho, hkp⟩ := hrel
        have A6 := hide ha
        have O6 := hide ho
        have K6 := hide hkp
        clear ha ho hkp A5 O2 K2
        by_cases h2 : k < ss.length
        · obtain ⟨x, hx⟩ : ∃ x, ss[k]? = some x := ⟨_, List.getElem?_eq_getElem h2⟩
          have HX := hide hx
          obtain ⟨hbd, hsl⟩ := A.out.1 x (List.mem_of_getElem? hx)
          obtain ⟨b, off, rfl, hcx⟩ := A.out.cell hx
          have CX := hide hcx
          have HSL := hide hsl
          have HBD := hide hbd
          have h40x := H40.out k x h2 hx
          clear hcx hx hbd hsl
          obtain ⟨xa, xc, xs⟩ := x
          dsimp only [Str6.val] at CX HSL HBD h40x
          have hb2 := csB_get ss zs k ⟨xa, xc, xs⟩ HX.out
          dsimp only at hb2
          have HB2 := hide hb2
          have hcl := cN_le zs k xs
          obtain ⟨gh, chh, he⟩ := owns_slice O6.out (by omega)
          simp only [Value.slice.injEq] at he
          obtain ⟨rfl, -, rfl⟩ := he
          have HC : Hid (∀ W : World, W.ownsRow w.heap.size 28 1 (.slice (some ⟨gh, 0, none⟩) ss.length ch) ss.length (u32s (handK ss.length)) → W.cell? ⟨gh, k, none⟩ = some (.int .u32 ((k : Int) + 1))) := fun W o => (o.cellAt k (by omega)).trans (handK_get _ _ h2)
          have c1 := HC.out _ O6.out
          have c0 := CX.out _ K6.out
          have hT := total_set (csB ss zs k) k (some xs) (some (xs.drop (cN zs k xs))) hb2
          have hsucc := csB_succ ss zs k ⟨xa, xc, xs⟩ HX.out
          dsimp only at hsucc
          rw [hsucc] at hT
          simp only [lenO, List.length_drop] at hT
          have HT := hide hT
          have HSU := hide hsucc
          have htx := total_get (csB ss zs k) k _ hb2
          simp only [lenO] at htx
          clear hb2 hT hsucc
          go_upto_if 75 with fail
          go_cut [6, 12] (fun vu vn wx => vu = .int .i64 (total (csB ss zs (k + 1))) ∧ vn = .int .i64 (cN zs k xs : Nat) ∧ total (csB ss zs (k + 1)) ≤ 1000 ∧ Sp g 1000 (csB ss zs (k + 1)) [] (KB w.heap.size (.slice (some ⟨gh, 0, none⟩) ss.length ch)) wx ∧ wx.ownsRow w.heap.size 28 1 (.slice (some ⟨gh, 0, none⟩) ss.length ch) ss.length (u32s (handK ss.length)) ∧ Kp (fun k => k < w.heap.size) w wx)
          case first =>
            by_cases hz : k < zs.length
            · obtain ⟨bz, oz, rfl, hcz⟩ := Z.out.cell hz
              have cz := hcz _ K6.out
              have hzr := Z.out.1 (zs.getD k 0) (by rw [List.getD_eq_getElem?_getD, List.getElem?_eq_getElem hz]; exact List.getElem_mem _)
              obtain ⟨cn, hcn, hcn2, L⟩ := low_nat (zs.getD k 0) (xs.length + 1) hzr.1 hzr.2 (by omega) (by omega)
              have hcnn : cN zs k xs = cn := by unfold cN; rw [if_pos hz]; exact hcn2.symm
              have HL := hide L
              rw [hcnn] at HT HSU hcl
              have HCN := hide hcnn
              rw [nat_succ] at HL
              clear L hcz hzr hcn2 hcnn
              generalize hzv : zs.getD k 0 = zv at *
              generalize hu : (total (csB ss zs k) : Int) = u
              have hub : 0 ≤ u ∧ u ≤ 1000 := by omega
              have HU := hide hu
              clear hu
              go_wp2_with fail
              go_quiet (first | (go_at_call 24; exact Calls.quiet_of_same (HL.out _)))
              go_wp2_with fail
              have S7 : Still wr (wr.drewN nq).drew := ⟨nq + 1, rfl⟩
              have A7 := hide ((Sp.lies _ _ _ _).still A6.out S7)
              have O7 : Hid ((wr.drewN nq).drew.ownsRow w.heap.size 28 1 (.slice (some ⟨gh, 0, none⟩) ss.length ch) ss.length (u32s (handK ss.length))) := O6.out
              have K7 := hide (K6.out.trans (S7.kp _))
              have g7 : (wr.drewN nq).drew.cell? ⟨gh, k, none⟩ = some (.int .u32 ((k : Int) + 1)) ∧ (wr.drewN nq).drew.cell? ⟨b, off + k, none⟩ = some (.slice xa xs.length xc) := ⟨c1, c0⟩
              have C1 := cut_has A7.out (by rw [csB_length]; omega) k cn xs HB2.out hcl
              rw [HSU.out] at C1
              have hb3 : (csB ss zs (k + 1))[k]? = some (some (xs.drop cn)) := by
                have := csB_get' ss zs k ⟨xa, xc, xs⟩ HX.out
                dsimp only at this
                rw [HCN.out] at this
                exact this
              have C2 : Hid (∀ W, Sp g 1000 (csB ss zs (k + 1)) [] (KB w.heap.size (.slice (some ⟨gh, 0, none⟩) ss.length ch)) W → Calls Try.prog 14 #[.pointer (some ⟨g, 0, none⟩), .int .u32 ((k : Int) + 1), .int .i64 (IntKind.i64.wrap ((xs.length : Int) + 1))] W fun e w' => e = .returned (.int .i64 2) ∧ Still W w') := fun W hW =>
                cut_out hW (by rw [csB_length]; omega) k _ (xs.drop cn) hb3 (.inr (by rw [IntKind.wrap_i64]; simp only [List.length_drop]; omega))
              clear S7 hb3 c1 c0
              go_region_held3 (fun w' => w'.cell? ⟨gh, k, none⟩ = some (.int .u32 ((k : Int) + 1)) ∧ w'.cell? ⟨b, off + k, none⟩ = some (.slice xa xs.length xc)) (first | exact g9 | exact g8 | exact g7)
                (first
                | (go_at_call_of 14 cn; refine C1.mono ?_; rintro e w8 ⟨rfl, a8, k8⟩; have A8 := hide a8; have O8 := hide (owns_kb O7.out k8); have K8 := hide (K7.out.trans k8.kb); have g8 : w8.cell? ⟨gh, k, none⟩ = some (.int .u32 ((k : Int) + 1)) ∧ w8.cell? ⟨b, off + k, none⟩ = some (.slice xa xs.length xc) := ⟨HC.out _ O8.out, CX.out _ K8.out⟩; clear a8 k8)
                | (go_at_call_of 14 (List.length xs); refine (C2.out _ A8.out).mono ?_; rintro e w9 ⟨rfl, s9⟩; have A9 := hide ((Sp.lies _ _ _ _).still A8.out s9); have O9 := hide (owns_kp O8.out (s9.kp (fun _ => True)) (fun _ _ => trivial)); have K9 := hide (K8.out.trans (s9.kp _)); have g9 : w9.cell? ⟨gh, k, none⟩ = some (.int .u32 ((k : Int) + 1)) ∧ w9.cell? ⟨b, off + k, none⟩ = some (.slice xa xs.length xc) := ⟨HC.out _ O9.out, CX.out _ K9.out⟩; clear s9))
              go_wp2_with fail
              go_meet
              case rel =>
                rw [HCN.out]
                refine ⟨?_, rfl, ?_, A9.out, O9.out, K9.out⟩
                · have h3 := HT.out
                  have h4 := HU.out
                  congr 1
                  omega
                · have h3 := HT.out
                  omega
            · have hcnn : cN zs k xs = 0 := by unfold cN; rw [if_neg hz]
              have hzi : ¬ ((k : Int) < (zs.length : Int)) := by omega
              rw [hcnn, List.drop_zero, set_same _ _ _ HB2.out] at HSU
              have A7 := hide A6.out
              rw [HSU.out] at A7
              have hte : total (csB ss zs k) = total (csB ss zs (k + 1)) := by rw [← HSU.out]
              have HK := hide htk
              have HTE := hide hte
              have HCN := hide hcnn
              clear HSU hte htk hcnn
              go_wp2_with fail
              go_meet
              case rel =>
                rw [HCN.out, ← HTE.out]
                exact ⟨rfl, rfl, HK.out, A7.out, O6.out, K6.out⟩
          case rest =>
            obtain ⟨rfl, rfl, htk2, ha7, ho7, hk7⟩ := hcut
            have A7 := hide ha7
            have O7 := hide ho7
            have K7 := hide hk7
            have d1 := HC.out _ ho7
            have HTK := hide htk2
            clear ha7 ho7 hk7 htk2 c0 c1 HT HSU htx
            have hb3 := csB_get' ss zs k ⟨xa, xc, xs⟩ HX.out
            dsimp only at hb3
            generalize hcn : cN zs k xs = cn at *
            have G := a_get A7.out (by rw [csB_length]; omega) k (xs.drop cn) hb3
            have HG := hide G
            clear G hb3
            have hlen : (xs.drop cn).length = xs.length - cn := by simp
            have hbx : IsBytes (xs.drop cn) := fun x hx => HBD.out.1.1 x (List.mem_of_mem_drop hx)
            have HB := hide hbx
            have HLN := hide hlen
            clear hbx hlen
            generalize hys : xs.drop cn = ys at *
            have HYS := hide hys
            clear hys
            go_wp2_with fail
            refine HG.out.mono ?_
            rintro e w5 ⟨rfl, b5, f5⟩
            have A8 := hide ((Sp.lies _ _ _ _).below A7.out f5)
            have K8 := hide (K7.out.trans ((Kp.of_below f5).mono (fun k hk => Nat.lt_of_lt_of_le hk K7.out.size)))
            have O8 := hide (owns_same O7.out (fun q hq => f5.block q (O7.out.lt q hq).2))
            have c5 := CX.out _ K8.out
            have RD5 := hide (HBD.out.kp K8.out)
            have X : Hid (∀ (b' : Option Addr) (c' : Nat), Rd w5 b' ys → Calls Try.prog 20 #[.slice (some ⟨wc.heap.size, 0, none⟩) ys.length ys.length, .slice b' (xs.length - cn) c'] w5 fun e w' => e = .returned (.bool true) ∧ Sp g 1000 (csB ss zs (k + 1)) [] (KB w.heap.size (.slice (some ⟨gh, 0, none⟩) ss.length ch)) w' ∧ w'.ownsRow w.heap.size 28 1 (.slice (some ⟨gh, 0, none⟩) ss.length ch) ss.length (u32s (handK ss.length)) ∧ Kp (fun k => k < w.heap.size) w w') := fun b' c' hr =>
              (same_yes _ _ ys _ _ _ _ _ rfl HLN.out.symm (blk_rd b5 HB.out (by rw [HLN.out]; unfold maxLen; omega)) hr).mono fun e w' ⟨he, hs⟩ => ⟨he, (Sp.lies _ _ _ _).still A8.out hs, owns_kp O8.out (hs.kp (fun _ => True)) (fun _ _ => trivial), K8.out.trans (hs.kp _)⟩
            clear b5 f5
            rcases HSL.out with ⟨hl0, hc0⟩ | ⟨bx, ox, rfl, hlc⟩
            · subst hc0
              obtain rfl : cn = 0 := by omega
              have Y := X.out xa 0 (by rw [List.eq_nil_of_length_eq_zero (show ys.length = 0 by rw [HLN.out]; omega)]; exact Rd.nil _ _)
              rw [hl0] at Y
              have HY := hide Y
              clear Y X
              go_wp2_with fail
              refine HY.out.mono ?_
              rintro e w6 ⟨rfl, a6, o6, k6⟩
              have A9 := hide a6
              have O9 := hide o6
              have K9 := hide k6
              clear a6 o6 k6
              go_wp2_with fail
              go_roundw
              case measure => simp only [intOf]; omega
              case rel => exact ⟨k + 1, rfl, by go_num, by omega, HTK.out, A9.out, O9.out, K9.out⟩
            · have RX := hide (RD5.out.1.drop cn)
              rw [HYS.out] at RX
              by_cases hcc : xc = cn
              · have Y := X.out (some ⟨bx, ox, none⟩) 0 (by rw [List.eq_nil_of_length_eq_zero (show ys.length = 0 by rw [HLN.out]; omega)]; exact Rd.nil _ _)
                have HY := hide Y
                clear Y X RX
                go_wp2_with fail
                refine HY.out.mono ?_
                rintro e w6 ⟨rfl, a6, o6, k6⟩
                have A9 := hide a6
                have O9 := hide o6
                have K9 := hide k6
                clear a6 o6 k6
                go_wp2_with fail
                go_roundw
                case measure => simp only [intOf]; omega
                case rel => exact ⟨k + 1, rfl, by go_num, by omega, HTK.out, A9.out, O9.out, K9.out⟩
              · have Y := X.out (some ⟨bx, ox + cn, none⟩) (xc - cn) RX.out
                have HY := hide Y
                clear Y X RX
                go_wp2_with fail
                refine HY.out.mono ?_
                rintro e w6 ⟨rfl, a6, o6, k6⟩
                have A9 := hide a6
                have O9 := hide o6
                have K9 := hide k6
                clear a6 o6 k6
                go_wp2_with fail
                go_roundw
                case measure => simp only [intOf]; omega
                case rel => exact ⟨k + 1, rfl, by go_num, by omega, HTK.out, A9.out, O9.out, K9.out⟩
        · obtain rfl : k = ss.length := by omega
          have A7 := hide A6.out
          rw [csB_all ss zs] at A7
          have e7 : total (csB ss zs ss.length) = total (csC ss zs 0) := by rw [csB_all ss zs]
          rw [e7]
          clear e7 A6 htk
          have hl7 : (csC ss zs 0).length = ss.length := csC_length ss zs 0
          have U := a_used A7.out
          have V := a_live A7.out (by rw [hl7]; omega)
          simp only [hl7, List.length_nil, Nat.sub_zero] at V
          have HU := hide U
          have HV := hide V
          clear U V hl7
          generalize (total (csC ss zs 0) : Int) = u at *
          go_wp2_with fail
          refine HU.out.mono ?_
          rintro e w7 ⟨rfl, rfl⟩
          go_wp2_with fail
          refine HV.out.mono ?_
          rintro e w8 ⟨rfl, s8⟩
          have A8 := hide ((Sp.lies _ _ _ _).still A7.out s8)
          have O8 := hide (owns_kp O6.out (s8.kp (fun _ => True)) (fun _ _ => trivial))
          have K8 := hide (K6.out.trans (s8.kp _))
          clear s8 A7 O6 K6 HU HV
          go_wp2_with fail
          go_loopw [15] (fun v wq => ∃ (k : Nat), v = .int .i64 k ∧ k ≤ ss.length ∧ Sp g 1000 (csC ss zs k) (handK k) (KB w.heap.size (.slice ah ss.length ch)) wq ∧ wq.ownsRow w.heap.size 28 1 (.slice ah ss.length ch) ss.length (u32s (handK ss.length)) ∧ Kp (fun k => k < w.heap.size) w wq) (fun v _ => ss.length - (intOf v).toNat)
          case atStart => exact ⟨0, rfl, by omega, A8.out, O8.out, K8.out⟩
          case round =>
            obtain ⟨k, rfl, hk, ha, ho, hkp⟩ := hrel
            have A9 := hide ha
            have O9 := hide ho
            have K9 := hide hkp
            clear ha ho hkp A8 O8 K8
            by_cases h3 : k < ss.length
            · obtain ⟨x, hx⟩ : ∃ x, ss[k]? = some x := ⟨_, List.getElem?_eq_getElem h3⟩
              obtain ⟨gh, chh, he⟩ := owns_slice O9.out (by omega)
              simp only [Value.slice.injEq] at he
              obtain ⟨rfl, -, rfl⟩ := he
              have c1 := (O9.out.cellAt k (by omega)).trans (handK_get ss.length k h3)
              have D := drop_has A9.out (by rw [csC_length]; omega) k _ (csC_get ss zs k x hx)
              rw [csC_succ ss zs k h3, handK_succ] at D
              have HD := hide D
              clear D hx
              go_wp2_with fail
              refine HD.out.mono ?_
              rintro e w9 ⟨rfl, a9, k9⟩
              have A10 := hide a9
              have O10 := hide (owns_kb O9.out k9)
              have K10 := hide (K9.out.trans k9.kb)
              clear a9 k9
              go_wp2_with fail
              go_roundw
              case measure => simp only [intOf]; omega
              case rel => exact ⟨k + 1, by go_num, by omega, A10.out, O10.out, K10.out⟩
            · obtain rfl : k = ss.length := by omega
              have U := a_used A9.out
              rw [csC_total] at U
              have V := a_live A9.out (by rw [csC_length]; omega)
              rw [csC_length, handK_length, Nat.sub_self] at V
              have HU := hide U
              have HV := hide V
              clear U V
              go_wp2_with fail
              refine (put_nil none 0 0).mono ?_
              rintro e w10 ⟨rfl, rfl⟩
              go_wp2_with fail
              refine HU.out.mono ?_
              rintro e w11 ⟨rfl, rfl⟩
              go_wp2_with fail
              refine HV.out.mono ?_
              rintro e w12 ⟨rfl, s12⟩
              have K12 := hide (K9.out.trans (s12.kp _))
              clear s12
              go_wp2_with fail
              refine (used_nil _).mono ?_
              rintro e w13 ⟨rfl, rfl⟩
              go_wp2_with fail
              refine (drop_nil _ _).mono ?_
              rintro e w14 ⟨rfl, rfl⟩
              go_wp2_with fail
              refine (awake_any _).mono ?_
              rintro e w15 ⟨rfl, f15⟩
              have F15 := hide f15
              clear f15
              go_wp2_with fail
              go_ret
              exact ⟨rfl, (K12.out.below (Nat.le_refl _) (fun k hk => hk)).trans (F15.out.mono K12.out.size)⟩
end Go.Proofs.Ytaoabjcbolncoaa
