/- The document's map: From. -/
import Derived.Test.YtahlbebkcoofkaaRfG
import Derived.Test.YtahlbebkcoofkaaCp8
namespace Go.Proofs.Ytahlbebkcoofkaa.Rf
open Go.RowKit Go.Sort Go.Proofs.Ytahlbebkcoofkaa
set_option linter.unusedVariables false
set_option linter.unusedSimpArgs false
set_option maxRecDepth 20000

/-- A list that is answered, to be read. -/
def RAns (w w' : World) (ps : List KV) (r : Ending) : Prop := ∃ a c fs, r = .returned (.slice a fs.length c) ∧ Rp w' a fs ∧ fs.map Ent.kv = ps ∧ Below w.heap.size w w'
set_option maxHeartbeats 2000000 in
theorem from_any {g : Nat} {ps : List KV} {K : Nat → Prop} (ka : Option Addr) (kc : Nat) (k : List Int) (n : Int) (w : World) (h : Md g ps K w) (ht : Rd w ka k) (h0 : -9223372036854775808 ≤ n) (h1 : n ≤ 9223372036854775807) :
    Calls Try.prog 55 #[.pointer (some ⟨g, 0, none⟩), .slice ka k.length kc, .int .i64 n] w fun r w' => RAns w w' (fromM k n ps) r := by
  have hl2 := MdF.small h
  have R := hide (rank_any ka kc k w h ht)
  have hrl := rank_le k ps
  unfold fromM
  obtain ⟨rk, hrk⟩ : ∃ rk, rankM k ps = rk := ⟨_, rfl⟩
  rw [hrk] at R hrl ⊢
  have H := hide h
  clear h ht hrk
  go_enter Try.func55, Try.ntmps55
  go_wp2_with fail
  refine R.out.mono ?_
  rintro r w1 ⟨rfl, f1⟩
  have F1 := hide f1
  clear f1 R
  go_wp2_with fail
  go_loopw [7, 8] (fun vo vi wr => ∃ (i : Nat) (ao : Option Addr) (co : Nat) (fs : List Ent), vo = .slice ao fs.length co ∧ vi = .int .i64 i ∧ i ≤ ps.length ∧ Hid (i = rk + fs.length) ∧ Hid (fs.length = 0 ∨ (fs.length : Int) ≤ n) ∧ Hid (fs.map Ent.kv = (ps.drop rk).take fs.length) ∧ Hid (Lk w.heap.size wr (.slice ao fs.length co) fs) ∧ Hid (Below w.heap.size w wr)) (fun _ vi _ => (ps.length - intOf vi).toNat)
  case atStart => exact ⟨rk, none, 0, [], rfl, rfl, hrl, by show _ = _; simp, .inl rfl, by show _ = _; simp, Lk.nil _ _, F1⟩
  case round =>
    clear F1
    obtain ⟨i, ao, co, fs, rfl, rfl, hi, HI, HJ, HK, L, F⟩ := hrel
    have hfl : fs.length ≤ 1000000 := L.out.ln
    obtain ⟨fl, hfe⟩ : ∃ fl, fs.length = fl := ⟨_, rfl⟩
    by_cases hin : i < ps.length
    · obtain ⟨p, hp⟩ : ∃ p, ps[i]? = some p := ⟨ps[i], List.getElem?_eq_getElem hin⟩
      have hmw := (Md.lies g ps).below H.out F.out
      obtain ⟨b, c, e, d0, c0, c1, hkv, hrd, hel, hev⟩ : ∃ (b c : Nat) (e : Ent), wr.cell? ⟨g, 0, none⟩ = some (.slice (some ⟨b, 0, none⟩) ps.length c) ∧ wr.cell? ⟨b, i * 2, none⟩ = some (.slice e.a e.k.length e.c) ∧ wr.cell? ⟨b, i * 2 + 1, none⟩ = some (.int .u64 e.v) ∧ e.kv = p ∧ Rd wr e.a e.k ∧ e.k.length ≤ 65535 ∧ 0 ≤ e.v ∧ e.v ≤ 18446744073709551615 := by
        obtain ⟨F9, v, es, h'⟩ := hmw
        obtain ⟨b, c, e, rfl, he, hk, hil, c0, c1⟩ := h'.cells hp
        have d0 := h'.hd.cell 0
        simp only [List.getElem?_cons_zero] at d0
        rw [← h'.len] at d0
        have hks := h'.ks e (List.mem_of_getElem? he)
        exact ⟨b, c, e, d0, c0, c1, hk, hks.1.1, hks.2.1, hks.2.2⟩
      rw [hfe]
      by_cases hjn : (fl : Int) < n
      · have C := hide (pair_any e wr hrd (by omega))
        have HKV := hide hkv
        have HP := hide hp
        have HFE := hide hfe
        clear hrd hkv hp hmw hfe
        go_wp2_with fail
        refine C.out.mono ?_
        rintro r w6 ⟨a6, c6, rfl, o6, b6, f6⟩
        simp only [Ent.kv] at o6 b6 ⊢
        have l6 := L.out.below f6
        have hB6 : w.heap.size ≤ w6.heap.size := by have := F.out.size; have := f6.size; omega
        obtain ⟨a7, c7, w7, r7, l7, f7⟩ := lk_push l6 hB6 ⟨a6, c6, e.k, e.v⟩ (owns_down o6 F.out.size) b6 hev (by have h1 := HI.out; have h2 := HFE.out; omega)
        rw [HFE.out] at r7 l7
        have L7 := hide l7
        have F7 : Hid (Below w.heap.size w w7) := F.out.trans ((f6.mono F.out.size).trans f7)
        simp only at r7
        clear o6 b6 f6 l6 l7 f7 C c0 c1 d0
        go_wp2_with (at_builtin; refine wpList_append_run rfl _ _ _ _ rfl _ _ _ _ rfl rfl r7 ?_)
        have hlen : (fs ++ [(⟨a6, c6, e.k, e.v⟩ : Ent)]).length = fl + 1 := by have := HFE.out; simp; omega
        have L8 : Hid (Lk w.heap.size w7 (.slice a7 (fs ++ [(⟨a6, c6, e.k, e.v⟩ : Ent)]).length c7) (fs ++ [⟨a6, c6, e.k, e.v⟩])) := by rw [hlen]; exact L7.out
        have HK8 : Hid ((fs ++ [(⟨a6, c6, e.k, e.v⟩ : Ent)]).map Ent.kv = (ps.drop rk).take (fs ++ [(⟨a6, c6, e.k, e.v⟩ : Ent)]).length) := by
          show _ = _
          have h2 := HFE.out
          rw [hlen, List.map_append, HK.out, h2, List.take_add_one, List.getElem?_drop]
          rw [show rk + fl = i by have h1 := HI.out; omega, HP.out, ← HKV.out]
          rfl
        go_roundw
        case rel => exact ⟨i + 1, a7, c7, _, by rw [hlen], by go_num, by omega, by show _ = _; rw [hlen]; have h1 := HI.out; have h2 := HFE.out; omega, .inr (by rw [hlen]; omega), HK8, L8, F7⟩
        case measure => simp [intOf]; omega
      · obtain ⟨aq, cq, eq, hr⟩ := L.out.rp
        simp only [Value.slice.injEq] at eq
        obtain ⟨rfl, -, rfl⟩ := eq
        have HR := hide hr
        have hfin : Hid (fs.map Ent.kv = (ps.drop rk).take n.toNat) := by
          show _ = _
          rw [HK.out, hfe]
          rcases HJ.out with h9 | h9
          · rw [show fl = 0 by omega, show n.toNat = 0 by omega]
          · rw [show n.toNat = fl by omega]
        have HFE := hide hfe
        clear hr hrd hkv hp hmw hfe
        go_wp2
        go_ret
        exact ⟨ao, co, fs, by rw [HFE.out]; rfl, HR.out, hfin.out, F.out⟩
    · obtain rfl : i = ps.length := by omega
      obtain ⟨aq, cq, eq, hr⟩ := L.out.rp
      simp only [Value.slice.injEq] at eq
      obtain ⟨rfl, -, rfl⟩ := eq
      have HR := hide hr
      obtain ⟨a0, c0, d0⟩ : ∃ a0 c0, wr.cell? ⟨g, 0, none⟩ = some (.slice a0 ps.length c0) := by
        obtain ⟨F9, v, es, h'⟩ := (Md.lies g ps).below H.out F.out
        obtain ⟨a, c, rfl, hr⟩ := h'.rp
        have d0 := h'.hd.cell 0
        simp only [List.getElem?_cons_zero] at d0
        rw [← h'.len] at d0
        exact ⟨a, c, d0⟩
      have hfin : Hid (fs.map Ent.kv = (ps.drop rk).take n.toNat) := by
        have h1 := HI.out
        show _ = _
        rw [HK.out, List.take_of_length_le (by rw [List.length_drop]; omega)]
        rcases HJ.out with h9 | h9
        · rw [List.drop_eq_nil_of_le (by omega)]; simp
        · rw [List.take_of_length_le (by rw [List.length_drop]; omega)]
      clear hr hfe
      go_wp2
      go_ret
      exact ⟨ao, co, fs, rfl, HR.out, hfin.out, F.out⟩
end Go.Proofs.Ytahlbebkcoofkaa.Rf
