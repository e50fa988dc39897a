/- shape.kept. -/
import Derived.Test.YtnedcoomldmhhaaTr20
import Derived.Test.YtnedcoomldmhhaaCp8
namespace Go.Proofs.Ytnedcoomldmhhaa
set_option maxRecDepth 20000
open Go.RowKit Go.Sort
set_option linter.unusedVariables false
set_option linter.unusedSimpArgs false

theorem owns_down {w : World} {B B' : Nat} {e : TypeId} {z n : Nat} {v : Value} {xs : List Value} (h : w.ownsRow B e z v n xs) (hb : B' ≤ B) : w.ownsRow B' e z v n xs := by
  refine ⟨h.1, ?_⟩
  rcases h.2 with h2 | ⟨g, cap, cur, h1, h2, h3⟩
  · exact .inl h2
  · exact .inr ⟨g, cap, cur, h1, by omega, h3⟩
/-- What a key lies in. -/
def keyBlock (e : Ent) : Option Nat := (Value.slice e.a e.k.length e.c).ownBlock
theorem apart_app {fs hs : List Ent} {N : Nat} (h1 : Apart fs) (h2 : Apart hs) (b1 : ∀ e ∈ fs, ∀ k, keyBlock e = some k → k < N) (b2 : ∀ e ∈ hs, ∀ k, keyBlock e = some k → N ≤ k) : Apart (fs ++ hs) := by
  unfold Apart
  rw [List.pairwise_append]
  refine ⟨h1, h2, fun x hx y hy k hk hk2 => ?_⟩
  have := b1 x hx k hk
  have := b2 y hy k hk2
  omega
theorem lst_ks {B : Nat} {w : World} {es : List Ent} (h : Own B w es) : (∀ e ∈ es, w.ownsRow B 5 1 (.slice e.a e.k.length e.c) e.k.length (u8s e.k) ∧ IsBytes e.k ∧ 0 ≤ e.v ∧ e.v ≤ 18446744073709551615) ∧ Apart es := by
  refine ⟨fun e he => ?_, ?_⟩
  · obtain ⟨b, h1, h2, h3, h4, h5, h6, h7⟩ := h.ks e he
    have hz : (u8s e.k).toArray.toList.take (e.k.length * 1) = u8s e.k := List.take_of_length_le (by simp [u8s])
    exact ⟨⟨by simp [u8s], .inr ⟨b, e.k.length, (u8s e.k).toArray, by rw [h1, h4], h2, h3, Nat.le_refl _, by unfold maxLen; omega, by simp [u8s], hz⟩⟩, h5, h7⟩
  · refine List.Pairwise.imp_of_mem ?_ h.ds
    intro x y hx hy hne k hk hk2
    obtain ⟨b, h1, _⟩ := h.ks x hx
    obtain ⟨b2, h2, _⟩ := h.ks y hy
    rw [h1] at hk
    rw [h2] at hk2
    simp [Value.ownBlock] at hk hk2
    exact hne (by rw [h1, h2, hk, hk2])
/-- all = append(all, pairs...). -/
theorem lk_more {B : Nat} {w : World} {a b : Option Addr} {c d : Nat} {fs hs : List Ent} (l : Rf.Lk B w (.slice a fs.length c) fs) (h : Rp w b hs) (hk : ∀ e ∈ hs, w.ownsRow B 5 1 (.slice e.a e.k.length e.c) e.k.length (u8s e.k) ∧ IsBytes e.k ∧ 0 ≤ e.v ∧ e.v ≤ 18446744073709551615) (hB : B ≤ w.heap.size) (hn : fs.length + hs.length ≤ 1000000) :
    ∃ a' c' w', (Builtin.append_ #[26, 26] 26 #[.slice a fs.length c, .slice b hs.length d]).run Try.prog w = .ok (.slice a' (fs.length + hs.length) c') w' ∧ Rf.Lk B w' (.slice a' (fs.length + hs.length) c') (fs ++ hs) ∧ Below B w w' := by
  obtain ⟨v', w', r, o', g, ho, _, _⟩ := append_pairs w 26 26 B _ fs.length _ l.row _ hs.length _ (h.src Try.underlying26 d) (by omega) hB
  obtain ⟨a', c', rfl⟩ := owns_slice' o'
  have keep : ∀ (x : Ent), w.ownsRow B 5 1 (.slice x.a x.k.length x.c) x.k.length (u8s x.k) → w'.ownsRow B 5 1 (.slice x.a x.k.length x.c) x.k.length (u8s x.k) := fun x hx => by
    refine owns_same hx (fun k hk => ?_)
    have hlt := (hx.lt k hk).2
    refine g.block k hlt (fun e9 => ?_)
    rcases hx.2 with ⟨e0, _⟩ | ⟨b, cap, cur, e0, _, hg, _⟩
    · rw [e0] at hk; simp [Value.ownBlock] at hk
    · have hbk : b = k := by rw [e0] at hk; simpa [Value.ownBlock] using hk
      subst hbk
      have hg' : Blk w b 5 cur.toList := hg
      exact owns_apart l.row hg' (by decide) e9.symm
  refine ⟨a', c', w', r, ⟨?_, fun x hx => ?_, by simp; omega⟩, (Below.refl _ w).grown g hB (fun k hk => (l.row.lt k hk).1)⟩
  · rw [← flat_append] at o'
    simpa using o'
  · rcases List.mem_append.1 hx with hx | hx
    · exact ⟨keep x (l.ks x hx).1, (l.ks x hx).2⟩
    · exact ⟨keep x (hk x hx).1, (hk x hx).2⟩
def keptOne (c : PC) : List KV := if c.kind = 11 then c.pairs else if 0 < ownK c then [(c.key, c.val)] else []
def keptP (cs : List PC) : List KV := cs.flatMap keptOne
set_option maxHeartbeats 3200000 in
theorem kept_any (a : Option Addr) (cs : List Cel) (g : Nat) (n2 k m : Nat) (w : World) (h : Rc w a cs) (hk : ∀ c ∈ cs, c.key.length ≤ 65535 ∧ c.ps.length ≤ 8 ∧ ∀ e ∈ c.ps, e.k.length ≤ 65535) :
    Calls Try.prog 30 #[.agg #[.slice a cs.length k, .slice (some ⟨g, 0, none⟩) n2 m]] w fun r w' => ∃ a' c' fs, r = .returned (.slice a' fs.length c') ∧ Rf.Lk w.heap.size w' (.slice a' fs.length c') fs ∧ Apart fs ∧ fs.map Ent.kv = keptP (cs.map Cel.pure) ∧ Below w.heap.size w w' := by
  have hn := h.1
  have H := hide h
  have HK := hide hk
  have X0 := hide (Blk.new w 61 [.slice a cs.length k, .slice (some ⟨g, 0, none⟩) n2 m] _ rfl)
  have F0 := hide ((Below.refl w.heap.size w).alloc (Nat.le_refl _) (.cells #[.slice a cs.length k, .slice (some ⟨g, 0, none⟩) n2 m] 61 (0, 0)))
  clear h hk
  go_enter Try.func30, Try.ntmps30
  go_wp2_with fail
  go_loopw [3, 9] (fun va vi wr => ∃ (i : Nat) (ao : Option Addr) (co : Nat) (fs : List Ent), vi = .int .i64 i ∧ va = .slice ao fs.length co ∧ i ≤ cs.length ∧ fs.length ≤ 8 * i ∧ Hid (Below w.heap.size w wr) ∧ Hid (Rf.Lk w.heap.size wr (.slice ao fs.length co) fs) ∧ Hid (Apart fs) ∧ Hid (fs.map Ent.kv = keptP ((cs.map Cel.pure).take i))) (fun _ vi _ => (cs.length - intOf vi).toNat)
  case atStart => exact ⟨0, none, 0, [], rfl, rfl, by omega, by simp, F0.out, Rf.Lk.nil _ _, List.Pairwise.nil, by show _ = _; simp [keptP]⟩
  case round =>
    clear X0 F0
    obtain ⟨i, ao, co, fs, rfl, rfl, hi, hfl, F, LK, AP, HM⟩ := hrel
    by_cases hin : i < cs.length
    · obtain ⟨c, hc⟩ : ∃ c, cs[i]? = some c := ⟨cs[i], List.getElem?_eq_getElem hin⟩
      have hme := List.mem_of_getElem? hc
      have h1 := H.out.below F.out (Nat.le_refl _)
      have hok := h1.2.1 c hme
      obtain ⟨b, off, rfl, c0, c1, c2, c3, c4, c5, c6, c7, c8⟩ := h1.cells hc
      have f1 : Below wr.heap.size wr (wr.alloc (.cells c.fields.toArray 40 (0, 0))) := (Below.refl _ wr).alloc (Nat.le_refl _) _
      have F2 := hide (F.out.trans (f1.mono F.out.size))
      have CB := hide (Blk.new wr 40 c.fields _ rfl)
      have LK2 := hide (LK.out.below f1)
      have OK2 := hide (hok.below f1 (Nat.le_refl _))
      have hnb : Hid (∀ e ∈ fs, ∀ k, keyBlock e = some k → k < wr.heap.size) := fun e he k hk => ((LK.out.ks e he).1.lt k hk).2
      have hsz : wr.heap.size ≤ (wr.alloc (.cells c.fields.toArray 40 (0, 0))).heap.size := by simp
      have SZ := hide hsz
      have htk : Hid (keptP ((cs.map Cel.pure).take (i + 1)) = keptP ((cs.map Cel.pure).take i) ++ keptOne c.pure) := by
        show _ = _
        rw [List.take_add_one]
        simp [keptP, hc]
      have hkl := HK.out c hme
      simp only [Cel.fields] at F2 CB LK2 OK2 SZ
      clear f1 h1 hok hme hsz hc
      by_cases hk11 : c.kind = 11
      · have hk' : (c.kind == 11) = true := by simpa using hk11
        have hone : Hid (keptOne c.pure = c.ps.map Ent.kv) := by show _ = _; unfold keptOne; rw [if_pos (show c.pure.kind = 11 from hk11)]; rfl
        simp only [hk11] at F2 CB LK2 OK2 SZ
        go_wp2_with fail
        generalize World.alloc _ _ = w2 at F2 CB LK2 OK2 SZ ⊢
        clear c0 c1 c2 c3 c4 c5 c6 c7 c8
        refine (copies_l c.ps c.pa c.pc w2 OK2.out.2.2.2.2.2.2.2 (fun e he => by have := hkl.2.2 e he; omega)).mono ?_
        rintro r w3 ⟨a3, c3, hs, rfl, l3, k3, f3⟩
        have hlen : hs.length = c.ps.length := by have := congrArg List.length k3; simpa using this
        obtain ⟨ks3, ap3⟩ := lst_ks l3.own
        obtain ⟨a3', c3', e3, r3⟩ := l3.rp
        simp only [Value.slice.injEq] at e3
        obtain ⟨rfl, -, rfl⟩ := e3
        have hB : w.heap.size ≤ w3.heap.size := Nat.le_trans F2.out.size f3.size
        have hks : ∀ e ∈ hs, w3.ownsRow w.heap.size 5 1 (.slice e.a e.k.length e.c) e.k.length (u8s e.k) ∧ IsBytes e.k ∧ 0 ≤ e.v ∧ e.v ≤ 18446744073709551615 := fun e he => ⟨owns_down (ks3 e he).1 F2.out.size, (ks3 e he).2⟩
        obtain ⟨a4, c4, w4, r4, l4, f4⟩ := lk_more (d := c3) (LK2.out.below f3) r3 hks hB (by omega)
        have A4 : Hid (Apart (fs ++ hs)) := apart_app (N := wr.heap.size) AP.out ap3 hnb.out (fun e he k hk => by
          have h5 := ((ks3 e he).1.lt k hk).1
          have h6 := SZ.out
          omega)
        have L4 := hide l4
        have F4 := hide (F2.out.trans ((f3.mono F2.out.size).trans f4))
        have M4 : Hid ((fs ++ hs).map Ent.kv = keptP ((cs.map Cel.pure).take (i + 1))) := by show _ = _; rw [List.map_append, HM.out, k3, htk.out, hone.out]
        have hl4 : Hid ((fs ++ hs).length = fs.length + hs.length) := List.length_append
        have hb4 : fs.length + hs.length ≤ 8 * (i + 1) := by omega
        clear hlen l3 k3 f3 ks3 ap3 r3 hks f4 l4
        go_wp2_with (at_builtin; refine wpList_append_run rfl _ _ _ _ rfl _ _ _ _ rfl rfl r4 ?_)
        go_roundw
        case rel => exact ⟨i + 1, a4, c4, fs ++ hs, by go_num, by rw [hl4.out], by omega, by rw [hl4.out]; omega, F4.out, by show Rf.Lk _ _ _ _; rw [hl4.out]; exact L4.out, A4.out, M4.out⟩
        case measure => simp [intOf]; omega
      · have hk' : (c.kind == 11) = false := by simpa using hk11
        have OA := hide (fun w' => own_any c w')
        go_wp2_with fail
        generalize World.alloc _ _ = w2 at F2 CB LK2 OK2 SZ ⊢
        clear c0 c1 c2 c3 c4 c5 c6 c7 c8
        refine (OA.out _).mono ?_
        rintro r w3 ⟨rfl, f3⟩
        have F3 := hide (F2.out.trans (f3.mono F2.out.size))
        have CB3 := hide (CB.out.below f3 CB.out.lt)
        have LK3 := hide (LK2.out.below f3)
        have OK3 := hide (OK2.out.below f3 (Nat.le_refl _))
        have SZ3 := hide (Nat.le_trans SZ.out f3.size)
        clear f3 F2 CB LK2 OK2 SZ OA
        by_cases how : 0 < ownK c.pure
        · have hone : Hid (keptOne c.pure = [(c.key, c.val)]) := by show _ = _; unfold keptOne; rw [if_neg (show ¬ c.pure.kind = 11 from hk11), if_pos how]; rfl
          have c6 := CB3.out.cell 6
          have c7 := CB3.out.cell 7
          simp only [List.getElem?_cons_zero, List.getElem?_cons_succ] at c6 c7
          generalize ownK c.pure = ow at *
          have kd := OK3.out.2.2.2.2.2.2.1
          have vd := OK3.out.2.2.2.2.2.1
          have kb := kd.1
          go_wp2_with fail
          refine (copied_any ⟨c.ka, c.kc, c.key, c.val⟩ w3 kd (by show c.key.length ≤ _; omega)).mono ?_
          rintro r w4 ⟨q, hq, rfl, b4, f4⟩
          have hB : w.heap.size ≤ w4.heap.size := Nat.le_trans F3.out.size f4.size
          have ho : w4.ownsRow w.heap.size 5 1 (.slice (some ⟨q, 0, none⟩) c.key.length c.key.length) c.key.length (u8s c.key) := by
            have hz : (u8s c.key).toArray.toList.take (c.key.length * 1) = u8s c.key := List.take_of_length_le (by simp [u8s])
            exact ⟨by simp [u8s], .inr ⟨q, c.key.length, (u8s c.key).toArray, rfl, Nat.le_trans F3.out.size hq, b4, Nat.le_refl _, by unfold maxLen; omega, by simp [u8s], hz⟩⟩
          obtain ⟨a5, c5, w5, r5, l5, f5⟩ := Rf.lk_push (LK3.out.below f4) hB ⟨some ⟨q, 0, none⟩, c.key.length, c.key, c.val⟩ ho kb vd (by omega)
          have A5 : Hid (Apart (fs ++ [⟨some ⟨q, 0, none⟩, c.key.length, c.key, c.val⟩])) := apart_app (N := wr.heap.size) AP.out (List.pairwise_singleton _ _) hnb.out (fun e he k hk => by
            simp at he
            subst he
            simp [keyBlock, Value.ownBlock] at hk
            have := SZ3.out
            omega)
          have L5 := hide l5
          have F5 := hide (F3.out.trans ((f4.mono F3.out.size).trans f5))
          have M5 : Hid ((fs ++ [(⟨some ⟨q, 0, none⟩, c.key.length, c.key, c.val⟩ : Ent)]).map Ent.kv = keptP ((cs.map Cel.pure).take (i + 1))) := by show _ = _; rw [List.map_append, HM.out, htk.out, hone.out]; rfl
          have hl5 : Hid ((fs ++ [(⟨some ⟨q, 0, none⟩, c.key.length, c.key, c.val⟩ : Ent)]).length = fs.length + 1) := by show _ = _; simp
          clear f4 l5 f5 ho b4 hq
          go_wp2_with (at_builtin; refine wpList_append_run rfl _ _ _ _ rfl _ _ _ _ rfl rfl r5 ?_)
          go_roundw
          case rel => exact ⟨i + 1, a5, c5, _, by go_num, by rw [hl5.out], by omega, by rw [hl5.out]; omega, F5.out, by show Rf.Lk _ _ _ _; rw [hl5.out]; exact L5.out, A5.out, M5.out⟩
          case measure => simp [intOf]; omega
        · have hone : Hid (keptOne c.pure = []) := by show _ = _; unfold keptOne; rw [if_neg (show ¬ c.pure.kind = 11 from hk11), if_neg how]
          generalize ownK c.pure = ow at *
          go_wp2_with fail
          go_roundw
          case rel => exact ⟨i + 1, ao, co, fs, by go_num, rfl, by omega, by omega, F3.out, LK3.out, AP.out, by show _ = _; rw [htk.out, hone.out, List.append_nil, HM.out]⟩
          case measure => simp [intOf]; omega
    · obtain rfl : i = cs.length := by omega
      have hfin : Hid (fs.map Ent.kv = keptP (cs.map Cel.pure)) := by
        show _ = _
        rw [HM.out, List.take_of_length_le (by simp)]
      go_wp2
      go_ret
      exact ⟨ao, co, fs, rfl, LK.out, AP.out, hfin.out, F.out⟩
end Go.Proofs.Ytnedcoomldmhhaa
