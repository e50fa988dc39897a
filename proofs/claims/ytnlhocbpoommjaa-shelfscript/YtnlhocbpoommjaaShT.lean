/- byFirst; Split. -/
import Derived.Test.YtnlhocbpoommjaaShS
namespace Go.Proofs.Ytnlhocbpoommjaa
open Go.RowKit Go.Sort
set_option linter.unusedVariables false
set_option maxRecDepth 20000

/-- One pair more, by its first byte. -/
def grpF (st : Int × List (List KV)) (p : KV) : Int × List (List KV) :=
  (p.1.headD 0, if p.1.headD 0 ≠ st.1 then st.2 ++ [[(p.1.drop 1, p.2)]] else st.2.dropLast ++ [st.2.getLastD [] ++ [(p.1.drop 1, p.2)]])
def grpM (ps : List KV) : Int × List (List KV) := ps.foldl grpF (-1, [])
theorem grpM_snoc (ps : List KV) (p : KV) : grpM (ps ++ [p]) = grpF (grpM ps) p := by simp [grpM]
theorem grpM_take {ps : List KV} {i : Nat} {p : KV} (h : ps[i]? = some p) : grpM (ps.take (i + 1)) = grpF (grpM (ps.take i)) p := by
  rw [List.take_add_one, h]; exact grpM_snoc _ _
theorem grpF_ne (st : Int × List (List KV)) (p : KV) : (grpF st p).2 ≠ [] := by
  unfold grpF; split <;> simp
theorem grpM_nil_iff (ps : List KV) : (grpM ps).2 = [] ↔ ps = [] := by
  refine snoc_ind (P := fun ps => (grpM ps).2 = [] ↔ ps = []) ?_ ?_ ps
  · simp [grpM]
  · intro l a _
    rw [grpM_snoc]
    simp [grpF_ne]

theorem grpF_same {la : Int} {L : List (List KV)} {x : List KV} {p : KV} (h : p.1.headD 0 = la) : grpF (la, L ++ [x]) p = (la, L ++ [x ++ [(p.1.drop 1, p.2)]]) := by
  unfold grpF
  rw [if_neg (fun hh => hh h), h]
  simp
theorem grpF_new {la : Int} {L : List (List KV)} {p : KV} (h : p.1.headD 0 ≠ la) : grpF (la, L) p = (p.1.headD 0, L ++ [[(p.1.drop 1, p.2)]]) := by
  unfold grpF
  rw [if_pos h]
/-- A key without its first byte. -/
theorem tail_rd {w : World} {b off : Nat} {k : List Int} (h : Rd w (some ⟨b, off, none⟩) k) : Rd w (some ⟨b, off + 1, none⟩) (k.drop 1) ∧ (k.length = 1 → Rd w (some ⟨b, off, none⟩) (k.drop 1)) := by
  refine ⟨h.drop 1, fun h1 => ?_⟩
  have e : k.drop 1 = [] := List.drop_eq_nil_of_le (by omega)
  rw [e]
  exact ⟨by intro x hx; simp at hx, by simp [maxLen], .inl rfl⟩

set_option maxHeartbeats 4000000 in
theorem byFirst_any (es : List Ent) (a : Option Addr) (c : Nat) (w : World) (h : Rp w a es) (hk : ∀ e ∈ es, e.k ≠ [] ∧ e.k.length ≤ 65535 ∧ e.c = e.k.length) :
    Calls Try.prog 78 #[.slice a es.length c] w fun r w' => ∃ a' c' gs, r = .returned (.slice a' gs.length c') ∧ LL w.heap.size w' (.slice a' gs.length c') gs ∧ gs.map (fun x => x.2.map Ent.kv) = (grpM (es.map Ent.kv)).2 ∧ Below w.heap.size w w' := by
  have hn := h.1
  have H := hide h
  have HK := hide hk
  clear h hk
  go_enter Try.func78, Try.ntmps78
  go_wp2_with fail
  go_loopw [3, 4, 11] (fun vl vla vi wr => ∃ (i : Nat) (al : Option Addr) (cl : Nat) (gs : List (Value × List Ent)) (la : Int), vl = .slice al gs.length cl ∧ vla = .int .i64 la ∧ vi = .int .i64 i ∧ i ≤ es.length ∧ Hid (gs.length ≤ i) ∧ Hid (∀ x ∈ gs, x.2.length ≤ i) ∧ Hid ((la, gs.map (fun x => x.2.map Ent.kv)) = grpM ((es.map Ent.kv).take i)) ∧ Hid (gs = [] → la = -1) ∧ Hid (Below w.heap.size w wr) ∧ Hid (LL w.heap.size wr (.slice al gs.length cl) gs)) (fun _ _ vi _ => (es.length - intOf vi).toNat)
  case atStart => exact ⟨0, none, 0, [], -1, rfl, rfl, rfl, by omega, by show _ ≤ _; simp, by intro x hx; simp at hx, rfl, fun _ => rfl, Below.refl _ _, LL.nil _ _⟩
  case round =>
    obtain ⟨i, al, cl, gs, la, rfl, rfl, rfl, hi, GL, GX, GM, GN, FW, LW⟩ := hrel
    by_cases hin : i < es.length
    · obtain ⟨e, he⟩ : ∃ e, es[i]? = some e := ⟨es[i], List.getElem?_eq_getElem hin⟩
      obtain ⟨b0, off0, rfl, c0, c1⟩ := (H.out.below FW.out (Nat.le_refl _)).cells he
      have hme := List.mem_of_getElem? he
      have hke := HK.out e hme
      have hok := H.out.2.1 e hme
      obtain ⟨ea, ec, ek, ev⟩ := e
      simp only at hke hok c0 c1
      obtain ⟨hk0, hk1, rfl⟩ := hke
      obtain ⟨x, kt, rfl⟩ : ∃ x kt, ek = x :: kt := by cases ek with | nil => exact absurd rfl hk0 | cons x kt => exact ⟨x, kt, rfl⟩
      have hrd : Rd wr ea (x :: kt) := hok.1.below FW.out (Nat.le_refl _)
      obtain ⟨b1, o1, rfl, hkc⟩ : ∃ b1 o1, ea = some ⟨b1, o1, none⟩ ∧ wr.cell? ⟨b1, o1, none⟩ = some (.int .u8 x) := by
        rcases hrd.2.2 with h | ⟨b1, o1, h1, h2⟩
        · simp at h
        · refine ⟨b1, o1, h1, ?_⟩
          have := h2 0 (by simp)
          simpa using this
      have hx := hrd.1 x (by simp)
      simp only [List.length_cons] at c0 hk1
      have hgm : Hid (grpM ((es.map Ent.kv).take (i + 1)) = grpF (la, gs.map (fun x => x.2.map Ent.kv)) (x :: kt, ev)) := by
        show _ = _
        rw [grpM_take (p := (x :: kt, ev)) (by simp [he]; rfl), ← GM.out]
      have hlt1 := World.block_lt_of_cell? wr _ hkc
      have f4 : Below wr.heap.size wr (wr.alloc (.cells #[.slice (some ⟨b1, o1, none⟩) (kt.length + 1) (kt.length + 1), .int .u64 ev] 54 (0, 0))) := (Below.refl _ wr).alloc (Nat.le_refl _) _
      have x4 : Blk (wr.alloc (.cells #[.slice (some ⟨b1, o1, none⟩) (kt.length + 1) (kt.length + 1), .int .u64 ev] 54 (0, 0))) wr.heap.size 54 [.slice (some ⟨b1, o1, none⟩) (kt.length + 1) (kt.length + 1), .int .u64 ev] := Blk.new wr _ _ _ rfl
      have l4 := LW.out.below f4
      have F4 := hide f4
      have X4 := hide x4
      have L4 := hide l4
      have k4 := (f4.cell (p := ⟨b1, o1, none⟩) hlt1).trans hkc
      have p4 := x4.cell 0
      simp only [List.getElem?_cons_zero] at p4
      have RD := hide hok.1
      have OK2 := hide hok.2
      have hxl := hx
      clear f4 x4 l4 hrd hok he hme hkc GM
      generalize hw4 : wr.alloc (.cells #[.slice (some ⟨b1, o1, none⟩) (kt.length + 1) (kt.length + 1), .int .u64 ev] 54 (0, 0)) = w4 at F4 X4 L4 k4 p4
      go_upto_if 22 with fail
      go_cut [3, 4] (fun vl vla wx => ∃ (al2 : Option Addr) (cl2 : Nat) (gs2 : List (Value × List Ent)) (y : Value) (fs : List Ent), vl = .slice al2 (gs2.length + 1) cl2 ∧ vla = .int .i64 x ∧ Hid (LL w.heap.size wx (.slice al2 (gs2.length + 1) cl2) (gs2 ++ [(y, fs)])) ∧ Hid (Below w.heap.size w wx) ∧ Hid (Blk wx wr.heap.size 54 [.slice (some ⟨b1, o1, none⟩) (kt.length + 1) (kt.length + 1), .int .u64 ev]) ∧ Hid (fs.length ≤ i ∧ gs2.length ≤ i ∧ ∀ x ∈ gs2, x.2.length ≤ i) ∧ Hid ((x, gs2.map (fun x => x.2.map Ent.kv) ++ [fs.map Ent.kv ++ [(kt, ev)]]) = grpF (la, gs.map (fun x => x.2.map Ent.kv)) (x :: kt, ev)))
      case first =>
        by_cases hne : x = la
        · have hd : ((x : Int) != la) = false := by simpa using hne
          have hgs : gs ≠ [] := fun h => by have := GN.out h; omega
          obtain ⟨gs2, ⟨y, fs⟩, hgs2⟩ : ∃ gs2 yf, gs = gs2 ++ [yf] := ⟨gs.dropLast, gs.getLast hgs, (List.dropLast_concat_getLast hgs).symm⟩
          have HG := hide hgs2
          have L5 : Hid (LL w.heap.size w4 (.slice al (gs2.length + 1) cl) (gs2 ++ [(y, fs)])) := by
            have h1 := L4.out
            rw [hgs2] at h1
            show LL _ _ _ _
            simpa using h1
          have hlen : gs.length = gs2.length + 1 := by rw [hgs2]; simp
          have HN := hide hne
          rw [hlen]
          clear hgs2 hgs hne k4 p4 c0 c1
          go_wp2_with fail
          go_meet
          case rel =>
            refine ⟨al, cl, gs2, y, fs, rfl, by rw [HN.out], L5, FW.out.trans (F4.out.mono FW.out.size), X4, ⟨GX.out (y, fs) (by rw [HG.out]; simp), by have := GL.out; omega, fun z hz => GX.out z (by rw [HG.out]; simp [hz])⟩, ?_⟩
            show _ = _
            rw [HG.out, List.map_append]
            have := grpF_same (la := la) (L := gs2.map (fun x => x.2.map Ent.kv)) (x := fs.map Ent.kv) (p := (x :: kt, ev)) HN.out
            rw [HN.out]
            rw [HN.out] at this
            exact this.symm
        · have hd : ((x : Int) != la) = true := by simpa using hne
          have hB4 : w.heap.size ≤ w4.heap.size := by have := FW.out.size; have := F4.out.size; omega
          obtain ⟨a5, c5, w5, r5, l5, f5, k5⟩ := ll_none L4.out hB4 (by have := GL.out; omega)
          have L5 := hide l5
          have F5 := hide f5
          have X5 : Hid (Blk w5 wr.heap.size 54 [.slice (some ⟨b1, o1, none⟩) (kt.length + 1) (kt.length + 1), .int .u64 ev]) := (k5 _ X4.out.lt (owns_apart L4.out.row X4.out (by decide))).trans X4.out
          have HN := hide hne
          clear hne k4 p4 c0 c1 l5 f5 k5
          go_wp2_with (at_builtin; refine wpList_append_run rfl _ _ _ _ rfl _ _ _ _ rfl rfl r5 ?_)
          go_meet
          case rel =>
            refine ⟨a5, c5, gs, .slice none 0 0, [], rfl, rfl, L5, (FW.out.trans (F4.out.mono FW.out.size)).trans F5.out, X5, ⟨by simp, GL.out, GX.out⟩, ?_⟩
            exact (grpF_new (la := la) (L := gs.map (fun x => x.2.map Ent.kv)) (p := (x :: kt, ev)) HN.out).symm
      case rest =>
      obtain ⟨al2, cl2, gs2, y, fs, rfl, rfl, LC, FC, XC, BC, GC⟩ := hcut
      obtain ⟨b, ay, cy, rfl, rfl, m0, _, hbl⟩ := LC.out.last
      have m1 : wc.drew.cell? ⟨b, gs2.length, none⟩ = some (.slice ay fs.length cy) := m0
      have p0 : wc.drew.cell? ⟨wr.heap.size, 0, none⟩ = some (.slice (some ⟨b1, o1, none⟩) (kt.length + 1) (kt.length + 1)) := XC.out.cell 0
      have p1 : wc.drew.cell? ⟨wr.heap.size, 1, none⟩ = some (.int .u64 ev) := XC.out.cell 1
      have hbb : Hid (IsBytes kt) := fun z hz => RD.out.1 z (by simp [hz])
      have hktl : kt.length ≤ 65534 := by omega
      have HRD : Hid (∀ w', Below w.heap.size w w' → Rd w' (some ⟨b1, o1 + 1, none⟩) kt ∧ (kt.length = 0 → Rd w' (some ⟨b1, o1, none⟩) kt)) := fun w' f => by
        have h1 := tail_rd (RD.out.below f (Nat.le_refl _))
        exact ⟨h1.1, fun h => h1.2 (by simpa using h)⟩
      have FD : Hid (Below w.heap.size w wc.drew) := Below.drewN' FC.out 1
      have hgb : gs2.length < 1000000 := by have := BC.out.2.1; omega
      have hw64 : wrap64 (gs2.length : Int) = (gs2.length : Int) := by unfold wrap64; omega
      have hli : (gs2.length : Int) < (gs2.length : Int) + 1 := by omega
      have hl1 : (1 : Int) ≤ (kt.length : Int) + 1 := by omega
      obtain ⟨o2, ho2⟩ : ∃ o2, (if kt = [] then some (⟨b1, o1, none⟩ : Addr) else some ⟨b1, o1 + 1, none⟩) = some ⟨b1, o2, none⟩ := by
        by_cases h : kt = []
        · exact ⟨o1, by rw [if_pos h]⟩
        · exact ⟨o1 + 1, by rw [if_neg h]⟩
      have hrd2 : Hid (∀ w', Below w.heap.size w w' → Rd w' (some ⟨b1, o2, none⟩) kt) := fun w' f => by
        have h1 := HRD.out w' f
        rw [← ho2]
        by_cases h : kt = []
        · rw [if_pos h]; exact h1.2 (by rw [h]; rfl)
        · rw [if_neg h]; exact h1.1
      have HC := hide (copied_any ⟨some ⟨b1, o2, none⟩, kt.length, kt, ev⟩ wc.drew (hrd2.out _ FD.out) (by show kt.length ≤ _; omega))
      have PUSH : Hid (∀ (w6 : World) (q : Nat), wc.drew.heap.size ≤ q → Blk w6 q 5 (u8s kt) → Below wc.drew.heap.size wc.drew w6 → w6.cell? ⟨b, gs2.length, none⟩ = some (.slice ay fs.length cy) ∧ (w6.alloc (.cells #[.slice (some ⟨q, 0, none⟩) kt.length kt.length, .int .u64 ev] 54)).cell? ⟨b, gs2.length, none⟩ = some (.slice ay fs.length cy) ∧
          ∃ a7 c7 w7, (Builtin.append_ #[22, 22] 22 #[.slice ay fs.length cy, .slice (some ⟨w6.heap.size, 0, none⟩) 1 1]).run Try.prog (w6.alloc (.cells #[.slice (some ⟨q, 0, none⟩) kt.length kt.length, .int .u64 ev] 54)) = .ok (.slice a7 (fs.length + 1) c7) w7 ∧
          w7.cell? ⟨b, gs2.length, none⟩ = some (.slice ay fs.length cy) ∧ w7.frozen? ⟨b, gs2.length, none⟩ = false ∧
          LL w.heap.size (w7.setCell ⟨b, gs2.length, none⟩ (.slice a7 (fs.length + 1) c7)) (.slice (some ⟨b, 0, none⟩) (gs2.length + 1) cl2) (gs2 ++ [(.slice a7 (fs.length + 1) c7, fs ++ [⟨some ⟨q, 0, none⟩, kt.length, kt, ev⟩])]) ∧ Below w.heap.size w (w7.setCell ⟨b, gs2.length, none⟩ (.slice a7 (fs.length + 1) c7))) := by
        intro w6 q hq b6 f6
        have l6 := (LC.out.below (Below.drewN' (Below.refl _ wc) 1)).below f6
        obtain ⟨b', ay', cy', e1, e2, m6, _, _⟩ := l6.last
        simp only [Option.some.injEq, Addr.mk.injEq] at e1
        obtain ⟨rfl, -, -⟩ := e1
        have m6b := ((Below.refl w6.heap.size w6).alloc (Nat.le_refl _) (.cells #[.slice (some ⟨q, 0, none⟩) kt.length kt.length, .int .u64 ev] 54)).cell (p := ⟨b, gs2.length, none⟩) (World.block_lt_of_cell? w6 _ m6)
        rw [m6] at m6b
        have hsw : w.heap.size ≤ wc.heap.size := FC.out.size
        have hq' : wc.heap.size ≤ q := hq
        have hs6 : w.heap.size ≤ w6.heap.size := by have h6 := f6.size; have h7 : wc.drew.heap.size = wc.heap.size := rfl; omega
        have hqn : ∀ e ∈ fs, e.a ≠ some ⟨q, 0, none⟩ := fun e he hea => by
          obtain ⟨bb, h1, _, h3, _⟩ := (LC.out.ls (_, fs) (List.mem_append_right _ (List.mem_singleton.2 rfl))).own.ks e he
          rw [h1] at hea
          simp only [Option.some.injEq, Addr.mk.injEq] at hea
          have := h3.lt
          omega
        obtain ⟨a7, c7, w7, r7, m7, z7, l7, f7⟩ := ll_push l6 hs6 q kt ev b6 (by omega) hbb.out (by omega) OK2.out hqn (by have := BC.out.1; omega)
        exact ⟨m6, m6b, a7, c7, w7, r7, m7, z7, l7, FD.out.trans ((f6.mono (by show w.heap.size ≤ wc.heap.size; omega)).trans f7)⟩
      go_wp2_with fail
      go_region_law (first
          | (refine step_append_run rfl _ _ _ _ rfl _ _ _ _ rfl rfl r7 ?_)
          | (go_simp; go_at_call 56; refine HC.out.mono ?_; rintro r w6 ⟨q, hq, rfl, b6, f6⟩; obtain ⟨m6, m6b, a7, c7, w7, r7, m7, z7, l7, f7⟩ := PUSH.out w6 q hq b6 f6
             have L7 := hide l7
             have F7 := hide f7
             clear l7 f7 b6 f6 hq))
      all_goals
        have hlen7 : (gs2 ++ [(Value.slice a7 (fs.length + 1) c7, fs ++ [(⟨some ⟨q, 0, none⟩, kt.length, kt, ev⟩ : Ent)])]).length = gs2.length + 1 := by simp
        have L8 : Hid (LL w.heap.size (w7.setCell ⟨b, gs2.length, none⟩ (.slice a7 (fs.length + 1) c7)) (.slice (some ⟨b, 0, none⟩) (gs2 ++ [(Value.slice a7 (fs.length + 1) c7, fs ++ [(⟨some ⟨q, 0, none⟩, kt.length, kt, ev⟩ : Ent)])]).length cl2) (gs2 ++ [(.slice a7 (fs.length + 1) c7, fs ++ [⟨some ⟨q, 0, none⟩, kt.length, kt, ev⟩])])) := by rw [hlen7]; exact L7.out
        have hkv7 : Hid ((x, (gs2 ++ [(Value.slice a7 (fs.length + 1) c7, fs ++ [(⟨some ⟨q, 0, none⟩, kt.length, kt, ev⟩ : Ent)])]).map (fun x => x.2.map Ent.kv)) = grpM ((es.map Ent.kv).take (i + 1))) := by
          show _ = _
          rw [hgm.out, ← GC.out]
          simp [Ent.kv]
        have hx7 : Hid (∀ z ∈ (gs2 ++ [(Value.slice a7 (fs.length + 1) c7, fs ++ [(⟨some ⟨q, 0, none⟩, kt.length, kt, ev⟩ : Ent)])]), z.2.length ≤ i + 1) := by
          intro z hz
          have h1 := BC.out
          rcases List.mem_append.1 hz with hz | hz
          · have := h1.2.2 z hz; omega
          · simp only [List.mem_singleton] at hz; subst hz; simp; omega
        have hg7 : Hid (gs2.length ≤ i) := BC.out.2.1
        have hne7 : (gs2 ++ [(Value.slice a7 (fs.length + 1) c7, fs ++ [(⟨some ⟨q, 0, none⟩, kt.length, kt, ev⟩ : Ent)])]) = [] → x = -1 := fun h => by simp at h
        have HN7 := hide hne7
        clear m0 m1 p0 p1 m6 m6b r7 m7 z7 L7 ho2 hne7
        go_wp2
        go_roundw
        case rel => exact ⟨i + 1, some ⟨b, 0, none⟩, cl2, _, x, by rw [hlen7], rfl, by go_num, by omega, by show _ ≤ _; rw [hlen7]; have := hg7.out; omega, hx7, hkv7, HN7, F7, L8⟩
        case measure => simp [intOf]; omega
    · obtain rfl : i = es.length := by omega
      have hfin : Hid (gs.map (fun x => x.2.map Ent.kv) = (grpM (es.map Ent.kv)).2) := by
        show _ = _
        have h1 := GM.out
        rw [List.take_of_length_le (by simp)] at h1
        rw [← h1]
      go_wp2
      go_ret
      exact ⟨al, cl, gs, rfl, LW.out, hfin.out, FW.out⟩
end Go.Proofs.Ytnlhocbpoommjaa
