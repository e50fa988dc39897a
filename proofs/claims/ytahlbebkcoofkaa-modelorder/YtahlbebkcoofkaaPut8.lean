/- model's Put. -/
import Derived.Test.YtahlbebkcoofkaaCpy7
namespace Go.Proofs.Ytahlbebkcoofkaa
set_option maxRecDepth 20000
open Go.RowKit Go.Sort
set_option linter.unusedVariables false

theorem owns_base {w : World} {base base' : Nat} {e : TypeId} {size : Nat} {v : Value} {n : Nat} {xs : List Value} (h : w.ownsRow base e size v n xs) (hb : base' ≤ base) : w.ownsRow base' e size v n xs := by
  refine ⟨h.1, ?_⟩
  rcases h.2 with hn | ⟨g, cap, cur, h1, h2, h3⟩
  · exact .inl hn
  · exact .inr ⟨g, cap, cur, h1, by omega, h3⟩
/-- Insert of one pair, wherever. -/
theorem insert_any (w : World) (v : Value) (es : List Ent) (e : Ent) (vb i : Nat) (h : w.ownsRow 0 54 2 v es.length (flat Ent.cells es)) (hv : Blk w vb 54 e.cells) (hne : v.ownBlock ≠ some vb) (hi : i ≤ es.length) (hn : es.length < 1000000) :
    Calls Try.prog 46 #[v, .int .i64 (i : Nat), .slice (some ⟨vb, 0, none⟩) 1 1] w fun r w' => ∃ a c, r = .returned (.slice a (es.length + 1) c) ∧ w'.ownsRow 0 54 2 (.slice a (es.length + 1) c) (es.length + 1) (flat Ent.cells (es.take i ++ e :: es.drop i)) ∧ w.grownBy w' v.ownBlock ∧ ((Value.slice a (es.length + 1) c).ownBlock = v.ownBlock ∨ ∃ k, (Value.slice a (es.length + 1) c).ownBlock = some k ∧ w.heap.size ≤ k) := by
  rcases Nat.lt_or_eq_of_le hi with hlt | heq
  · rcases h.2 with ⟨_, h0⟩ | ⟨b, c, cur, rfl, _, hg, h1, h2, h3, h4⟩
    · omega
    · have hb : Blk w b 54 (flat Ent.cells es ++ cur.toList.drop (es.length * 2)) := by
        unfold Blk; rw [← h4, List.take_append_drop]; exact hg
      have hr : (cur.toList.drop (es.length * 2)).length = (c - es.length) * 2 := by simp [h3, Nat.sub_mul]
      have hvb : vb ≠ b := fun e => hne (by rw [e]; rfl)
      by_cases hc : es.length + 1 ≤ c
      · refine (insert_room w b c _ es e vb i hb hr hv hvb hlt hc h2 hn).mono ?_
        rintro r w' ⟨rfl, b2, g2⟩
        have lf : (flat Ent.cells (es.take i ++ e :: es.drop i)).length = (es.length + 1) * 2 := by rw [flat_length Ent.cells_length]; simp; omega
        refine ⟨_, _, rfl, ⟨lf, .inr ⟨b, c, _, rfl, by omega, b2, hc, h2, ?_, ?_⟩⟩, g2, .inl rfl⟩
        · rw [List.size_toArray, List.length_append, lf, List.length_drop, hr]; omega
        · rw [List.toList_toArray, ← lf]; exact List.take_left
      · refine (insert_grow w b c _ es e vb i hb hv hlt (by omega) h1 hn).mono ?_
        rintro r w' ⟨v', rfl, o, f⟩
        obtain ⟨g', cap, rfl⟩ := owns_slice o (by omega)
        exact ⟨_, _, rfl, owns_base o (by omega), ⟨f.os, f.tape, f.output, f.size, fun k hk _ => f.block k hk⟩, .inr ⟨g', rfl, (o.lt g' rfl).1⟩⟩
  · subst heq
    refine (insert_end w 0 v es e vb h hv hn (by omega)).mono ?_
    rintro r w' ⟨v', rfl, o, g, ho⟩
    obtain ⟨g', cap, rfl⟩ := owns_slice o (by omega)
    refine ⟨_, _, rfl, by simpa using o, g, ?_⟩
    rcases ho with ho | ho
    · exact .inl ho
    · exact .inr ⟨_, ho, Nat.le_refl _⟩

/-- A pair more in the map. -/
theorem md_insert {g : Nat} {ps : List KV} {K : Nat → Prop} {w w1 w3 : World} {F : Nat → Prop} {v v' : Value} {es : List Ent} (h : MdF g ps K w F v es) (k : List Int) (u : Int) (q : Nat) (o : Obj)
    (f1 : Below w.heap.size w w1) (bq : Blk w1 q 5 (u8s k)) (hq : w.heap.size ≤ q) (hb : IsBytes k) (hk : k.length ≤ 65535) (hu : 0 ≤ u ∧ u ≤ 18446744073709551615) (hin : isIn k ps = false) (hn : es.length < 1000000)
    (o3 : w3.ownsRow 0 54 2 v' (es.length + 1) (flat Ent.cells (es.take (rankM k ps) ++ ⟨some ⟨q, 0, none⟩, k.length, k, u⟩ :: es.drop (rankM k ps)))) (g3 : (w1.alloc o).grownBy w3 v.ownBlock) (ho : v'.ownBlock = v.ownBlock ∨ ∃ x, v'.ownBlock = some x ∧ (w1.alloc o).heap.size ≤ x) :
    Md g (putM k u ps) K (w3.setCell ⟨g, 0, none⟩ v') ∧ Kp K w (w3.setCell ⟨g, 0, none⟩ v') ∧ Blk w3 g 70 [v] := by
  have hgw : g < w.heap.size := (h.fk g h.fg).2
  have hvg : v.ownBlock ≠ some g := owns_apart h.row h.hd (by decide)
  have hs1 := f1.size
  have hsa : (w1.alloc o).heap.size = w1.heap.size + 1 := by simp
  have hs3 := g3.size
  -- a block of old bytes, or of the map's header, stands
  have keep : ∀ x, x < w1.heap.size → v.ownBlock ≠ some x → w3.heap[x]? = w1.heap[x]? := fun x hx hne => by
    rw [g3.block x (by omega) (fun e => hne e.symm)]
    exact Below.heap_alloc w1 o x hx
  have hg3 : Blk w3 g 70 [v] := (keep g (by omega) hvg).trans (h.hd.below f1 hgw)
  have hvk : ∀ x, v.ownBlock = some x → ¬ K x := fun x hx => (h.fk x (h.fr x hx)).1
  have keepK : ∀ x, K x → w3.heap[x]? = w.heap[x]? := fun x hx => by
    rw [keep x (by have := h.kl x hx; omega) (fun e => hvk x e hx)]
    exact f1.block x (h.kl x hx)
  refine ⟨⟨fun x => F x ∨ w.heap.size ≤ x ∧ x < w3.heap.size, v', es.take (rankM k ps) ++ ⟨some ⟨q, 0, none⟩, k.length, k, u⟩ :: es.drop (rankM k ps), ?_⟩, ?_, hg3⟩
  · have hsz : (w3.setCell ⟨g, 0, none⟩ v').heap.size = w3.heap.size := by simp [World.setCell]
    have hrl := rank_le k ps
    rw [h.len] at hrl
    have v'g : v'.ownBlock ≠ some g := by
      rcases ho with e | ⟨x, e, hx⟩
      · rw [e]; exact hvg
      · rw [e]; simp; omega
    have other : ∀ x, x ≠ g → (w3.setCell ⟨g, 0, none⟩ v').heap[x]? = w3.heap[x]? := fun x hx => Below.heap_setCell _ ⟨g, 0, none⟩ _ _ hx
    have hmap : (es.take (rankM k ps) ++ (⟨some ⟨q, 0, none⟩, k.length, k, u⟩ : Ent) :: es.drop (rankM k ps)).map Ent.kv = putM k u ps := by
      unfold putM
      rw [hin, if_neg (by simp)]
      conv => rhs; rw [← h.kv]
      simp [Ent.kv, List.map_take, List.map_drop, h.kv]
    refine ⟨?_, fun x hx => by rw [hsz]; have := h.kl x hx; omega, .inl h.fg, hg3.set 0 _, ?_, ?_, ?_, hmap, putM_ups h.up k u, ?_⟩
    · rintro x (hx | hx)
      · exact ⟨(h.fk x hx).1, by rw [hsz]; have := (h.fk x hx).2; omega⟩
      · exact ⟨fun hK => by have := h.kl x hK; omega, by rw [hsz]; exact hx.2⟩
    · have hl : (es.take (rankM k ps) ++ (⟨some ⟨q, 0, none⟩, k.length, k, u⟩ : Ent) :: es.drop (rankM k ps)).length = es.length + 1 := by simp; omega
      rw [hl]
      exact owns_same o3 (fun x hx => other x (fun e => v'g (by rw [← e]; exact hx)))
    · intro x hx
      rcases ho with e | ⟨y, e, hy⟩
      · exact .inl (h.fr x (by rw [← e]; exact hx))
      · have hxy : y = x := by rw [e] at hx; simpa using hx
        have := (o3.lt y e).2
        exact .inr ⟨by omega, by omega⟩
    · have old : ∀ e ∈ es, Bd (fun x => (F x ∨ w.heap.size ≤ x ∧ x < w3.heap.size) ∧ x ≠ g ∧ v'.ownBlock ≠ some x) (w3.setCell ⟨g, 0, none⟩ v') e.a e.k ∧ e.k.length ≤ 65535 ∧ 0 ≤ e.v ∧ e.v ≤ 18446744073709551615 := fun e he => by
        refine ⟨(h.ks e he).1.move (fun x hx hl => ⟨?_, .inl hx.1, hx.2.1, ?_⟩), (h.ks e he).2⟩
        · rw [other x hx.2.1, keep x (by omega) hx.2.2]
          exact f1.block x hl
        · rcases ho with e | ⟨y, e, hy⟩
          · rw [e]; exact hx.2.2
          · rw [e]; simp; omega
      intro e he
      rcases List.mem_append.1 he with he | he
      · exact old e (List.mem_of_mem_take he)
      · rcases List.mem_cons.1 he with rfl | he
        · have hvq : v.ownBlock ≠ some q := fun e => by have := (h.row.lt q e).2; omega
          have hql := bq.lt
          have bq3 : Blk (w3.setCell ⟨g, 0, none⟩ v') q 5 (u8s k) := (other q (by omega)).trans ((keep q hql hvq).trans bq)
          refine ⟨⟨blk_rd bq3 hb (by show k.length ≤ _; unfold maxLen; omega), .inr ⟨q, 0, rfl, .inr ⟨hq, by omega⟩, by omega, ?_⟩⟩, hk, hu⟩
          rcases ho with e | ⟨y, e, hy⟩
          · rw [e]; exact hvq
          · rw [e]; simp; omega
        · exact old e (List.mem_of_mem_drop he)
    · simp; omega
  · exact ⟨by show w3.os = _; rw [g3.os]; exact f1.os, by show w3.tape = _; rw [g3.tape]; exact f1.tape, by show w3.output = _; rw [g3.output]; exact f1.output, by simp [World.setCell]; omega, fun x hx hl => by
      rw [Below.heap_setCell _ ⟨g, 0, none⟩ _ _ (fun e => (h.fk g h.fg).1 (by show K g; have : x = g := e; rw [← this]; exact hx))]
      exact keepK x hx⟩

/-- Another value of a key that is there. -/
theorem md_set {g : Nat} {ps : List KV} {K : Nat → Prop} {w : World} {F : Nat → Prop} {b c : Nat} {es : List Ent} (h : MdF g ps K w F (.slice (some ⟨b, 0, none⟩) es.length c) es) (k : List Int) (u : Int) (hk : k.length ≤ 65535) (hu : 0 ≤ u ∧ u ≤ 18446744073709551615) (hin : isIn k ps = true) {rk : Nat} (hrk : rankM k ps = rk) {e : Ent} (he : es[rk]? = some e) {u0 : Int} (hp : ps[rk]? = some (k, u0)) :
    Md g (putM k u ps) K (w.setCell ⟨b, rk * 2 + 1, none⟩ (.int .u64 u)) ∧ Kp K w (w.setCell ⟨b, rk * 2 + 1, none⟩ (.int .u64 u)) := by
  have hFb : F b := h.fr b rfl
  have hgb : g ≠ b := fun e => owns_apart h.row h.hd (by decide) (by rw [e]; rfl)
  have other : ∀ x, x ≠ b → (w.setCell ⟨b, rk * 2 + 1, none⟩ (.int .u64 u)).heap[x]? = w.heap[x]? := fun x hx => Below.heap_setCell _ ⟨b, rk * 2 + 1, none⟩ _ _ hx
  have hsz : (w.setCell ⟨b, rk * 2 + 1, none⟩ (.int .u64 u)).heap.size = w.heap.size := by simp [World.setCell]
  have hl : (es.set rk ⟨e.a, e.c, e.k, u⟩).length = es.length := by simp
  have hrl : rk < es.length := (List.getElem?_eq_some_iff.1 he).1
  have hek : e.k = k := by
    have h1 := h.at rk
    rw [hp, he] at h1
    have h2 : (k, u0) = e.kv := by simpa using h1
    exact (congrArg Prod.fst h2).symm
  refine ⟨⟨F, .slice (some ⟨b, 0, none⟩) es.length c, es.set rk ⟨e.a, e.c, e.k, u⟩, ⟨fun x hx => ⟨(h.fk x hx).1, by rw [hsz]; exact (h.fk x hx).2⟩, fun x hx => by rw [hsz]; exact h.kl x hx, h.fg, (other g hgb).trans h.hd, ?_, h.fr, fun f hf => ?_, ?_, putM_ups h.up k u, by rw [hl]; exact h.ln⟩⟩, ?_⟩
  · rw [hl]
    have st := (h.row.stored (rk * 2 + 1) (.int .u64 u)).1
    have e1 := flat_set Ent.cells_length es rk e ⟨e.a, e.c, e.k, u⟩ 1 (.int .u64 u) he (by omega) rfl
    rw [e1] at st
    exact st
  · have mv : ∀ f ∈ es, Bd (fun x => F x ∧ x ≠ g ∧ (Value.slice (some ⟨b, 0, none⟩) es.length c).ownBlock ≠ some x) (w.setCell ⟨b, rk * 2 + 1, none⟩ (.int .u64 u)) f.a f.k := fun f hf => (h.ks f hf).1.move (fun x hx _ => ⟨other x (fun e => hx.2.2 (by rw [e]; rfl)), hx⟩)
    rcases List.mem_or_eq_of_mem_set hf with hf | rfl
    · exact ⟨mv f hf, (h.ks f hf).2⟩
    · have hm := List.mem_of_getElem? he
      exact ⟨mv e hm, (h.ks e hm).2.1, hu⟩
  · unfold putM
    rw [hin, if_pos rfl, hrk, List.map_set, h.kv]
    have hrp : rk < ps.length := by rw [h.len]; exact hrl
    rw [List.set_eq_take_append_cons_drop, if_pos hrp]
    show _ ++ (e.k, u) :: _ = _
    rw [hek]
  · exact (Kp.refl K w).setCell b _ _ (fun hK => (h.fk b hFb).1 hK)

set_option maxHeartbeats 1000000 in
theorem put_long (g : Nat) (ka : Option Addr) (n kc : Nat) (u : Int) (w : World) (hn : n ≤ maxLen) (hl : 65535 < n) :
    Calls Try.prog 18 #[.pointer (some ⟨g, 0, none⟩), .slice ka n kc, .int .u64 u] w fun r w' => r = .returned (.tuple #[.int .u64 0, .bool false, .int .i64 3]) ∧ w' = w := by
  have M := may_any ka n kc w hn
  have hd : decide ((n : Int) ≤ 65535) = false := by simp; omega
  rw [hd] at M
  have HM := hide M
  clear M hd
  go_enter Try.func18, Try.ntmps18
  go_wp2_with fail
  refine HM.out.mono ?_
  rintro r w1 ⟨rfl, hw⟩
  subst hw
  go_wp2
  refine bodyPost_ret (results_tmp3 rfl _ _ _) rfl ?_
  exact ⟨rfl, rfl⟩
set_option maxHeartbeats 1000000 in
theorem put_nil (ka : Option Addr) (n kc : Nat) (u : Int) (w : World) :
    Calls Try.prog 18 #[.pointer none, .slice ka n kc, .int .u64 u] w fun r w' => r = .returned (.tuple #[.int .u64 0, .bool false, .int .i64 1]) ∧ w' = w := by
  go_enter Try.func18, Try.ntmps18
  go_wp2
  refine bodyPost_ret (results_tmp3 rfl _ _ _) rfl ?_
  exact ⟨rfl, rfl⟩
set_option maxHeartbeats 2000000 in
theorem put_any {g : Nat} {ps : List KV} {K : Nat → Prop} (ka : Option Addr) (kc : Nat) (k : List Int) (u : Int) (w : World) (h : Md g ps K w) (ht : Rd w ka k) (hk : k.length ≤ 65535) (hu : 0 ≤ u ∧ u ≤ 18446744073709551615) (hn : ps.length < 1000000) :
    Calls Try.prog 18 #[.pointer (some ⟨g, 0, none⟩), .slice ka k.length kc, .int .u64 u] w fun r w' => r = .returned (.tuple #[.int .u64 (valO (findM k ps)), .bool (isIn k ps), .int .i64 0]) ∧ Md g (putM k u ps) K w' ∧ Kp K w w' := by
  have M := may_any ka k.length kc w ht.2.1
  have hd : decide ((k.length : Int) ≤ 65535) = true := by simp; omega
  rw [hd] at M
  have HM := hide M
  have P := hide (place_any ka kc k w h ht)
  have hrl := rank_le k ps
  clear M hd
  cases hin : isIn k ps with
  | false =>
    have hv : Hid (valO (findM k ps) = 0) := by show _ = _; unfold findM; rw [hin]; rfl
    rw [hin] at P
    obtain ⟨rk, hrk⟩ : ∃ rk, rankM k ps = rk := ⟨_, rfl⟩
    rw [hrk] at P hrl
    have HRK := hide hrk
    have HIN := hide hin
    have H := hide h
    have HT := hide ht
    clear h ht hrk hin
    go_enter Try.func18, Try.ntmps18
    go_wp2_with fail
    refine HM.out.mono ?_
    rintro r w1 ⟨rfl, hw⟩
    subst hw
    go_wp2_with fail
    refine P.out.mono ?_
    rintro r w2 ⟨rfl, f2⟩
    have h2 := (Md.lies g ps).below H.out f2
    obtain ⟨F, v, es, h'⟩ := h2
    obtain ⟨av, cv, rfl⟩ := owns_slice' h'.row
    have d0 := h'.hd.cell 0
    simp only [List.getElem?_cons_zero] at d0
    have HC := hide (copied_any ⟨ka, kc, k, u⟩ w2.drew ((HT.out.below f2 (Nat.le_refl _)).drew) (by show k.length ≤ _; omega))
    have d1 : w2.drew.cell? ⟨g, 0, none⟩ = some (.slice av es.length cv) := d0
    have HM2 := hide h'
    have F2 := hide f2
    have hesn : es.length < 1000000 := by rw [← h'.len]; exact hn
    have hesr : rk ≤ es.length := by rw [← h'.len]; exact hrl
    have hbk := hide HT.out.1
    clear h' f2 d0 P
    go_wp2_with fail
    go_region_law (first
      | (go_simp; go_at_call 46; refine HI.out.mono ?_; rintro r w8 ⟨a8, c8, rfl, o8, g8, ho8⟩
         have hin8 := HIN.out
         have MI := md_insert HM2.out k u q _ F6.out B6.out HQ.out hbk.out hk hu hin8 hesn (by rw [HRK.out]; exact o8) g8 ho8
         have m8 := MI.2.2.cell 0
         have z8 := MI.2.2.frozen 0
         simp only [List.getElem?_cons_zero] at m8
         have M8 := hide MI.1
         have K8 := hide MI.2.1
         clear MI o8 g8 ho8 hin8)
      | (go_simp; go_at_call 41; refine HC.out.mono ?_; rintro r w6 ⟨q, hq, rfl, b6, f6⟩
         have f6' : Below w2.heap.size w2 w6 := ⟨f6.os, f6.tape, f6.output, f6.size, f6.block⟩
         have o6 := HM2.out.row.below f6' (Nat.le_refl _)
         have hd6 := HM2.out.hd.below f6' HM2.out.hd.lt
         have d6 := hd6.cell 0
         have d7 := (hd6.alloc (.cells #[.slice (some ⟨q, 0, none⟩) k.length k.length, .int .u64 u] 54)).cell 0
         simp only [List.getElem?_cons_zero] at d6 d7
         have hne7 : (Value.slice av es.length cv).ownBlock ≠ some w6.heap.size := fun e => by have := (o6.lt _ e).2; omega
         have I := insert_any (w6.alloc (.cells #[.slice (some ⟨q, 0, none⟩) k.length k.length, .int .u64 u] 54)) (.slice av es.length cv) es ⟨some ⟨q, 0, none⟩, k.length, k, u⟩ w6.heap.size rk (o6.alloc _) (Blk.new w6 _ _ _ rfl) hne7 hesr hesn
         have HI := hide I
         have B6 := hide b6
         have F6 := hide f6'
         have HQ := hide hq
         clear b6 f6 f6' o6 hd6 hne7 I hq))
    all_goals
      clear d1 d6 d7 m8 z8
      go_wp2
      refine bodyPost_ret (results_tmp3 rfl _ _ _) rfl ?_
      refine ⟨?_, M8.out, (Kp.of_below F2.out).mono (fun x hx => (Md.lies g ps).lt H.out x hx) |>.trans K8.out⟩
      rw [hv.out]
      rfl
  | true =>
    obtain ⟨u0, hu0⟩ := isIn_true hin
    have hv : Hid (valO (findM k ps) = u0) := by show _ = _; unfold findM; rw [if_pos hin, hu0]; rfl
    rw [hin] at P
    obtain ⟨rk, hrk⟩ : ∃ rk, rankM k ps = rk := ⟨_, rfl⟩
    rw [hrk] at P hrl hu0
    have HRK := hide hrk
    have HIN := hide hin
    have H := hide h
    clear h ht hrk hin
    go_enter Try.func18, Try.ntmps18
    go_wp2_with fail
    refine HM.out.mono ?_
    rintro r w1 ⟨rfl, hw⟩
    subst hw
    go_wp2_with fail
    refine P.out.mono ?_
    rintro r w2 ⟨rfl, f2⟩
    have h2 := (Md.lies g ps).below H.out f2
    obtain ⟨F, v, es, h'⟩ := h2
    obtain ⟨b, c, e, rfl, he, hke, hil, c0, c1⟩ := h'.cells hu0
    have hev : e.v = u0 := congrArg Prod.snd hke
    rw [hev] at c1
    have d0 := h'.hd.cell 0
    simp only [List.getElem?_cons_zero] at d0
    have hln := h'.ln
    have f1 : w2.frozen? ⟨b, rk * 2 + 1, none⟩ = false := by
      have := h'.row.frozenAt (rk * 2 + 1)
      exact this
    have MP := hide (md_set h' k u hk hu HIN.out HRK.out he hu0)
    have F2 := hide f2
    clear h' f2 P he hke hev c0 hu0
    go_wp2
    refine bodyPost_ret (results_tmp3 rfl _ _ _) rfl ?_
    refine ⟨?_, MP.out.1, (Kp.of_below F2.out).mono (fun x hx => (Md.lies g ps).lt H.out x hx) |>.trans MP.out.2⟩
    rw [hv.out]
    rfl
end Go.Proofs.Ytahlbebkcoofkaa
