/- The document's map: Longest. -/
import Derived.Test.YtahlbebkcoofkaaRfF
namespace Go.Proofs.Ytahlbebkcoofkaa.Rf
open Go.RowKit Go.Sort Go.Proofs.Ytahlbebkcoofkaa
set_option linter.unusedVariables false
set_option linter.unusedSimpArgs false
set_option maxRecDepth 20000

theorem long_none {k : List Int} {ps : List KV} (h : ∀ (j : Nat) (p : KV), ps[j]? = some p → beg k p = false) : longM k ps = none := by
  unfold longM
  have : ps.filter (beg k) = [] := by
    rw [List.filter_eq_nil_iff]
    intro p hp
    obtain ⟨j, hj⟩ := List.getElem?_of_mem hp
    rw [h j p hj]; simp
  rw [this]; rfl
theorem long_at {k : List Int} {ps : List KV} {i : Nat} {p : KV} (hp : ps[i]? = some p) (hb : beg k p = true) (h : ∀ (j : Nat) (q : KV), ps[j]? = some q → i < j → beg k q = false) : longM k ps = some p := by
  have hi := (List.getElem?_eq_some_iff.1 hp).1
  have he := (List.getElem?_eq_some_iff.1 hp).2
  unfold longM
  have e : ps = ps.take i ++ (p :: ps.drop (i + 1)) := by
    conv => lhs; rw [← List.take_append_drop i ps, List.drop_eq_getElem_cons hi, he]
  have h2 : (ps.drop (i + 1)).filter (beg k) = [] := by
    rw [List.filter_eq_nil_iff]
    intro q hq
    obtain ⟨j, hj, hg⟩ := mem_dropI hq
    rw [h j q hg (by omega)]; simp
  rw [e, List.filter_append, List.filter_cons, if_pos hb, h2]
  simp
set_option maxHeartbeats 1000000 in
theorem longest_any {g : Nat} {ps : List KV} {K : Nat → Prop} (ka : Option Addr) (kc : Nat) (k : List Int) (w : World) (h : Md g ps K w) (ht : Rd w ka k) :
    Calls Try.prog 50 #[.pointer (some ⟨g, 0, none⟩), .slice ka k.length kc] w fun r w' => Ans w w' (longM k ps) r := by
  have hl2 := MdF.small h
  have f0 : Below w.heap.size w (w.alloc (boxP none 0 0 0)) := (Below.refl _ w).alloc (Nat.le_refl _) _
  have x0 : Blk (w.alloc (boxP none 0 0 0)) w.heap.size 54 [.slice none 0 0, .int .u64 0] := Blk.new w _ _ _ rfl
  have hm := (Md.lies g ps).below h f0
  have ht0 := ht.below f0 (Nat.le_refl _)
  unfold boxP at f0 x0 hm ht0
  generalize hw0 : (w.alloc (.cells #[.slice none 0 0, .int .u64 0] 54 (0, 0))) = w0 at f0 x0 hm ht0
  have HM := hide hm
  have HT := hide ht0
  have F0 := hide f0
  have X0 := hide x0
  obtain ⟨a0, c0, d0⟩ : ∃ a0 c0, w0.cell? ⟨g, 0, none⟩ = some (.slice a0 ps.length c0) := by
    obtain ⟨F, v, es, h'⟩ := hm
    obtain ⟨a, c, rfl, hr⟩ := h'.rp
    have d0 := h'.hd.cell 0
    simp only [List.getElem?_cons_zero] at d0
    rw [← h'.len] at d0
    exact ⟨a, c, d0⟩
  clear hm ht0 f0 x0 h ht
  go_enter Try.func50, Try.ntmps50
  go_wp2_with fail
  go_loopw [6] (fun vi wr => ∃ n : Nat, vi = .int .i64 ((n : Int) - 1) ∧ n ≤ ps.length ∧ Hid (∀ (j : Nat) (q : KV), ps[j]? = some q → n ≤ j → beg k q = false) ∧ Hid (Below w0.heap.size w0 wr)) (fun vi _ => (intOf vi + 1).toNat)
  case atStart => exact ⟨ps.length, rfl, Nat.le_refl _, fun j q hq hj => by have := (List.getElem?_eq_some_iff.1 hq).1; omega, Below.refl _ _⟩
  case round =>
    clear d0
    obtain ⟨n, rfl, hn, HA, F⟩ := hrel
    rcases n with _ | m
    · have HN := hide (long_none (k := k) (ps := ps) (fun j q hq => HA.out j q hq (by omega)))
      have x2 := X0.out.below F.out X0.out.lt
      have k0 := x2.cell 0
      have k1 := x2.cell 1
      have k2 := x2.frozen 0
      have k3 := x2.frozen 1
      simp only [List.getElem?_cons_zero, List.getElem?_cons_succ] at k0 k1
      have X2 := hide x2
      have F2 := hide (F0.out.trans (F.out.mono F0.out.size))
      clear x2
      go_wp2_with fail
      have hb := X2.out.pair (x' := .slice none 0 0) (y' := .int .u64 0)
      refine bodyPost_ret (results_pair2 rfl _ _ w.heap.size _ _ rfl hb) rfl ?_
      rw [HN.out]
      exact ans_none _ _ ((F2.out.setCell (by show _ ≤ w.heap.size; omega) _).setCell (by show _ ≤ w.heap.size; omega) _)
    · obtain ⟨p, hp⟩ : ∃ p, ps[m]? = some p := ⟨ps[m], List.getElem?_eq_getElem (by omega)⟩
      have hmw := (Md.lies g ps).below HM.out F.out
      obtain ⟨b, c, ea, ec, d0, c0, c1, hrd⟩ : ∃ (b c : Nat) (ea : Option Addr) (ec : Nat), wr.cell? ⟨g, 0, none⟩ = some (.slice (some ⟨b, 0, none⟩) ps.length c) ∧ wr.cell? ⟨b, m * 2, none⟩ = some (.slice ea p.1.length ec) ∧ wr.cell? ⟨b, m * 2 + 1, none⟩ = some (.int .u64 p.2) ∧ Rd wr ea p.1 := by
        obtain ⟨F9, v, es, h'⟩ := hmw
        obtain ⟨b, c, e, rfl, he, hk, hil, c0, c1⟩ := h'.cells hp
        have d0 := h'.hd.cell 0
        simp only [List.getElem?_cons_zero] at d0
        rw [← h'.len] at d0
        have hks := h'.ks e (List.mem_of_getElem? he)
        subst hk
        exact ⟨b, c, e.a, e.c, d0, c0, c1, hks.1.1⟩
      have B := rbegins_any ka ea k p.1 kc ec wr (HT.out.below F.out (Nat.le_refl _)) hrd
      have hbe : ((common k p.1 : Int) == (p.1.length : Int)) = beg k p := by
        unfold beg
        rw [Bool.eq_iff_iff]
        simp
        omega
      rw [hbe] at B
      have HP := hide hp
      have HMW := hide hmw
      have hmb : m < ps.length := by omega
      cases hbv : beg k p with
      | true =>
        rw [hbv] at B
        have HB := hide B
        have HN := hide (long_at hp hbv (fun j q hq hj => HA.out j q hq (by omega)))
        have hsel : selM (m : Int) ps = some p := by
          unfold selM
          rw [if_neg (by omega)]
          simpa using hp
        have S := fun w' (f : Below wr.heap.size wr w') => select_any (m : Int) w' ((Md.lies g ps).below hmw f) (by omega) (by omega)
        rw [hsel] at S
        have HS := hide S
        clear B S hsel hbv hbe hrd hp hmw
        go_wp2_with fail
        refine HB.out.mono ?_
        rintro r w1 ⟨rfl, n1, hw1⟩
        have f1 : Below wr.heap.size wr w1 := by rw [hw1]; exact Below.drewN' (Below.refl _ _) _
        have S1 := HS.out _ f1
        have F1 := hide f1
        clear f1 hw1 c0 c1 d0
        go_wp2_with fail
        refine S1.mono ?_
        rintro r w2 ⟨a2, c2, rfl, o2, hb2, f2⟩
        simp only [keyO, valO, Option.isSome_some] at o2 hb2 ⊢
        have g2 := F.out.trans ((F1.out.trans (f2.mono F1.out.size)).mono F.out.size)
        have x2 := X0.out.below g2 X0.out.lt
        have k0 := x2.cell 0
        have k1 := x2.cell 1
        have k2 := x2.frozen 0
        have k3 := x2.frozen 1
        simp only [List.getElem?_cons_zero, List.getElem?_cons_succ] at k0 k1
        have X2 := hide x2
        have O := hide o2
        have HB2 := hide hb2
        have F2 := hide (F0.out.trans (g2.mono F0.out.size))
        have FS : Hid (w.heap.size < w1.heap.size) := by have := F1.out.size; have := F.out.size; have := X0.out.lt; show _ < _; omega
        clear x2 o2 hb2 f2 g2 S1
        go_wp2_with fail
        have hbx := X2.out.pair (x' := .slice a2 p.1.length c2) (y' := .int .u64 p.2)
        refine bodyPost_ret (results_pair2 rfl _ _ w.heap.size _ _ rfl hbx) rfl ?_
        rw [HN.out]
        exact ans_box _ _ rfl rfl rfl O.out HB2.out F2.out FS.out
      | false =>
        rw [hbv] at B
        have HB := hide B
        have HA2 : Hid (∀ (j : Nat) (q : KV), ps[j]? = some q → m ≤ j → beg k q = false) := fun j q hq hj => by
          by_cases e9 : j = m
          · subst e9; rw [hp] at hq; cases hq; exact hbv
          · exact HA.out j q hq (by omega)
        clear B hbv hbe hrd hp hmw
        go_wp2_with fail
        refine HB.out.mono ?_
        rintro r w1 ⟨rfl, n1, hw1⟩
        have F1 : Hid (Below w0.heap.size w0 w1) := by show Below _ _ _; rw [hw1]; exact F.out.trans (Below.drewN' (Below.refl _ _) _ |>.mono F.out.size)
        clear hw1 c0 c1 d0
        go_wp2
        go_roundw
        case rel => exact ⟨m, by go_num, by omega, HA2, F1⟩
        case measure => simp [intOf]
end Go.Proofs.Ytahlbebkcoofkaa.Rf
