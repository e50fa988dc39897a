/- ModelScript. -/
import Derived.Test.YtahlbebkcoofkaaAsk7
import Derived.Test.YtahlbebkcoofkaaActs7
import Derived.Test.YtahlbebkcoofkaaLawLast7
import Derived.Deep.RegionHeld3
namespace Go.Proofs.Ytahlbebkcoofkaa
open Go.RowKit Go.Sort
set_option linter.unusedVariables false
set_option linter.unusedSimpArgs false
set_option maxRecDepth 20000

theorem lent_owns {w : World} {g : Nat} {ys : List Int} (hb : Blk w g 5 (u8s (lentK ys 3))) (hn : ys.length ≤ 1000000) : w.ownsRow 0 5 1 (.slice (some ⟨g, 0, none⟩) ys.length (ys.length + 3)) ys.length (u8s ys) := by
  have hll : (u8s (lentK ys 3)).length = ys.length + 3 := by rw [u8s_length]; exact lentK_length ys 3 (Nat.le_refl _)
  have o := blk_owns (base := 0) (n := ys.length) hb (Nat.zero_le _) (by omega) (by rw [hll]; unfold maxLen; omega)
  have e : (u8s (lentK ys 3)).take ys.length = u8s ys := by simp [lentK, u8s]
  rw [hll, e] at o
  exact o
theorem u8s_all (ys : List Int) : ∀ u ∈ u8s ys, ∃ q, u = .int .u8 q := by intro u hu; simp [u8s] at hu; obtain ⟨q, _, rfl⟩ := hu; exact ⟨q, rfl⟩
theorem putM_le {k : List Int} {v : Int} (ps : List KV) : (putM k v ps).length ≤ ps.length + 1 := by
  cases h : isIn k ps with
  | true => rw [H8.putM_len_old h]; omega
  | false => rw [H8.putM_len_new h]; omega
theorem dropM_le {k : List Int} (ps : List KV) : (dropM k ps).length ≤ ps.length := by unfold dropM; split <;> simp <;> omega

/-- Both maps, and the act's box. -/
structure AQ (w0 : World) (gs gw : Nat) (Q : List KV) (K : Nat → Prop) (bx : Nat) (X : List Value) (w : World) : Prop where
  t : Both (Md gs Q) (Rf.Md gw Q) K w
  f : Below w0.heap.size w0 w
  x : Blk w bx 37 X
section
variable {w0 w w' : World} {gs gw bx : Nat} {Q : List KV} {K : Nat → Prop} {X : List Value} {v0 v1 v2 : Value}
theorem AQ.below (h : AQ w0 gs gw Q K bx X w) (f : Below w.heap.size w w') : AQ w0 gs gw Q K bx X w' := ⟨(Both.lies _ _).below h.t f, h.f.trans (f.mono h.f.size), h.x.below f h.x.lt⟩
theorem AQ.drew (h : AQ w0 gs gw Q K bx X w) : AQ w0 gs gw Q K bx X w.drew := h.below ⟨rfl, rfl, rfl, Nat.le_refl _, fun _ _ => rfl⟩
theorem AQ.c0 (h : AQ w0 gs gw Q K bx (v0 :: X) w) : w.cell? ⟨bx, 0, none⟩ = some v0 := h.x.cell 0
theorem AQ.c1 (h : AQ w0 gs gw Q K bx (v0 :: v1 :: X) w) : w.cell? ⟨bx, 1, none⟩ = some v1 := h.x.cell 1
theorem AQ.c2 (h : AQ w0 gs gw Q K bx (v0 :: v1 :: v2 :: X) w) : w.cell? ⟨bx, 2, none⟩ = some v2 := h.x.cell 2
theorem AQ.asked (h : AQ w0 gs gw Q K bx X w) {ka : Option Addr} {kc : Nat} {k : List Int} (hk : ∀ w', Below w0.heap.size w0 w' → Rd w' ka k) (hl : k.length ≤ 40) (n : Int) (h1 : -9223372036854775808 ≤ n) (h2 : n ≤ 9223372036854775807) :
    Calls Try.prog 21 #[.pointer (some ⟨gs, 0, none⟩), .pointer (some ⟨gw, 0, none⟩), .slice ka k.length kc, .int .i64 n] w fun r w' => r = .returned (.bool true) ∧ AQ w0 gs gw Q K bx X w' :=
  (asked_any h.t ka kc k (hk w h.f) hl n h1 h2).mono fun r w' ⟨e, t, f⟩ => ⟨e, t, h.f.trans (f.mono h.f.size), h.x.below f h.x.lt⟩
theorem AQ.dropL (h : AQ w0 gs gw Q K bx X w) (hK : ∀ x, x < w0.heap.size → K x) (hb : K bx) {ka : Option Addr} {kc : Nat} {k : List Int} (hk : Rd w ka k) :
    Calls Try.prog 15 #[.pointer (some ⟨gs, 0, none⟩), .slice ka k.length kc] w fun r w' => r = .returned (.tuple #[.int .u64 (valO (findM k Q)), .bool (isIn k Q)]) ∧ Both (Md gs (dropM k Q)) (Rf.Md gw Q) K w' ∧ Below w0.heap.size w0 w' ∧ Blk w' bx 37 X := by
  obtain ⟨K1, hK1, hA, con⟩ := h.t.left
  refine (drop_any ka kc k w hA hk).mono ?_
  rintro r w' ⟨rfl, m, kp⟩
  have t := con w' _ (Md.lies gs _) m kp
  exact ⟨rfl, t.1, h.f.trans (t.2.below h.f.size hK), h.x.kp t.2 hb⟩
theorem AQ.dropR {P : List KV} (t : Both (Md gs P) (Rf.Md gw Q) K w) (f : Below w0.heap.size w0 w) (x : Blk w bx 37 X) (hK : ∀ x, x < w0.heap.size → K x) (hb : K bx) {ka : Option Addr} {kc : Nat} {k : List Int} (hk : Rd w ka k) :
    Calls Try.prog 16 #[.pointer (some ⟨gw, 0, none⟩), .slice ka k.length kc] w fun r w' => r = .returned (.tuple #[.int .u64 (valO (findM k Q)), .bool (isIn k Q)]) ∧ Both (Md gs P) (Rf.Md gw (dropM k Q)) K w' ∧ Below w0.heap.size w0 w' ∧ Blk w' bx 37 X := by
  obtain ⟨K1, hK1, hA, con⟩ := t.right
  refine (Rf.drop_any ka kc k w hA hk).mono ?_
  rintro r w' ⟨rfl, m, kp⟩
  have t := con w' _ (Rf.Md.lies gw _) m kp
  exact ⟨rfl, t.1, f.trans (t.2.below f.size hK), x.kp t.2 hb⟩
theorem AQ.putL (h : AQ w0 gs gw Q K bx X w) (hK : ∀ x, x < w0.heap.size → K x) (hb : K bx) {ka : Option Addr} {kc : Nat} {k : List Int} (hk : Rd w ka k) (hl : k.length ≤ 65535) {u : Int} (hu : 0 ≤ u ∧ u ≤ 18446744073709551615) (hn : Q.length < 1000000) :
    Calls Try.prog 18 #[.pointer (some ⟨gs, 0, none⟩), .slice ka k.length kc, .int .u64 u] w fun r w' => r = .returned (.tuple #[.int .u64 (valO (findM k Q)), .bool (isIn k Q), .int .i64 0]) ∧ Both (Md gs (putM k u Q)) (Rf.Md gw Q) K w' ∧ Below w0.heap.size w0 w' ∧ Blk w' bx 37 X ∧ Kp K w w' := by
  obtain ⟨K1, hK1, hA, con⟩ := h.t.left
  refine (put_any ka kc k u w hA hk hl hu hn).mono ?_
  rintro r w' ⟨rfl, m, kp⟩
  have t := con w' _ (Md.lies gs _) m kp
  exact ⟨rfl, t.1, h.f.trans (t.2.below h.f.size hK), h.x.kp t.2 hb, t.2⟩
theorem AQ.putR {P : List KV} (t : Both (Md gs P) (Rf.Md gw Q) K w) (f : Below w0.heap.size w0 w) (x : Blk w bx 37 X) (hK : ∀ x, x < w0.heap.size → K x) (hb : K bx) {ka : Option Addr} {kc : Nat} {k : List Int} (hk : Rd w ka k) (hl : k.length ≤ 65535) {u : Int} (hu : 0 ≤ u ∧ u ≤ 18446744073709551615) (hn : Q.length < 1000000) :
    Calls Try.prog 20 #[.pointer (some ⟨gw, 0, none⟩), .slice ka k.length kc, .int .u64 u] w fun r w' => r = .returned (.tuple #[.int .u64 (valO (findM k Q)), .bool (isIn k Q), .int .i64 0]) ∧ Both (Md gs P) (Rf.Md gw (putM k u Q)) K w' ∧ Below w0.heap.size w0 w' ∧ Blk w' bx 37 X := by
  obtain ⟨K1, hK1, hA, con⟩ := t.right
  refine (Rf.put_any ka kc k u w hA hk hl hu hn).mono ?_
  rintro r w' ⟨rfl, m, kp⟩
  have t := con w' _ (Rf.Md.lies gw _) m kp
  exact ⟨rfl, t.1, f.trans (t.2.below f.size hK), x.kp t.2 hb⟩
end

/-- Both maps, a list that was answered, what the document's list reads as. -/
structure FN (w0 : World) (gs gw : Nat) (Q : List KV) (K : Nat → Prop) (B : Nat) (al : Option Addr) (cl : Nat) (es : List Ent) (ah : Option Addr) (ch : Nat) (eh : List Ent) (w : World) : Prop where
  t : Both (Md gs Q) (Rf.Md gw Q) K w
  f : Below w0.heap.size w0 w
  l : Lst B w (.slice al es.length cl) es
  e : es.map Ent.kv = Q
  h : w.cell? ⟨gw, 0, none⟩ = some (.slice ah Q.length ch)
  r : Rp w ah eh
  q : eh.map Ent.kv = Q
  b : B ≤ w.heap.size
section
variable {w0 w w' : World} {gs gw B cl ch : Nat} {Q : List KV} {K : Nat → Prop} {al ah : Option Addr} {es eh : List Ent}
theorem FN.below (h : FN w0 gs gw Q K B al cl es ah ch eh w) (f : Below w.heap.size w w') : FN w0 gs gw Q K B al cl es ah ch eh w' :=
  ⟨(Both.lies _ _).below h.t f, h.f.trans (f.mono h.f.size), h.l.below f, h.e, (f.cell (p := ⟨gw, 0, none⟩) (World.block_lt_of_cell? w _ h.h)).trans h.h, h.r.below f (Nat.le_refl _), h.q, Nat.le_trans h.b f.size⟩
theorem FN.drew (h : FN w0 gs gw Q K B al cl es ah ch eh w) : FN w0 gs gw Q K B al cl es ah ch eh w.drew := h.below ⟨rfl, rfl, rfl, Nat.le_refl _, fun _ _ => rfl⟩
theorem FN.drewN (h : FN w0 gs gw Q K B al cl es ah ch eh w) (d : Nat) : FN w0 gs gw Q K B al cl es ah ch eh (w.drewN d) := h.below ⟨rfl, rfl, rfl, Nat.le_refl _, fun _ _ => rfl⟩
theorem FN.sameL (h : FN w0 gs gw Q K B al cl es ah ch eh w) {a : Option Addr} {c : Nat} {fs : List Ent} (hr : Rp w a fs) (hq : fs.map Ent.kv = Q) : Calls Try.prog 24 #[.slice a fs.length c, .slice ah Q.length ch] w fun r w' => r = .returned (.bool true) ∧ FN w0 gs gw Q K B al cl es ah ch eh w' ∧ Below w.heap.size w w' := by
  have hl : eh.length = Q.length := by rw [← h.q, List.length_map]
  have P := samePairs_any fs eh a ah c ch w hr h.r
  rw [hl, decide_eq_true (hq.trans h.q.symm)] at P
  exact P.mono fun r w' ⟨e, st⟩ => ⟨e, h.below (st.below _), st.below _⟩
theorem FN.same (h : FN w0 gs gw Q K B al cl es ah ch eh w) : Calls Try.prog 24 #[.slice al es.length cl, .slice ah Q.length ch] w fun r w' => r = .returned (.bool true) ∧ FN w0 gs gw Q K B al cl es ah ch eh w' ∧ Below w.heap.size w w' := by
  obtain ⟨a', c', e, hl⟩ := h.l.rp
  simp only [Value.slice.injEq] at e
  obtain ⟨rfl, -, rfl⟩ := e
  exact h.sameL hl h.e
theorem FN.all (h : FN w0 gs gw Q K B al cl es ah ch eh w) : Calls Try.prog 22 #[.pointer (some ⟨gs, 0, none⟩)] w fun r w' => ∃ a c fs, r = .returned (.slice a fs.length c) ∧ Rp w' a fs ∧ fs.map Ent.kv = Q ∧ FN w0 gs gw Q K B al cl es ah ch eh w' := by
  obtain ⟨K1, hA⟩ := H8.both_a h.t
  refine (all_any w hA).mono ?_
  rintro r w' ⟨a, c, fs, rfl, l, k, f⟩
  obtain ⟨a', c', e, hr⟩ := l.rp
  simp only [Value.slice.injEq] at e
  obtain ⟨rfl, -, rfl⟩ := e
  exact ⟨a, c, fs, rfl, hr, k, h.below f⟩
theorem FN.call (h : FN w0 gs gw Q K B al cl es ah ch eh w) {gc : Nat} {K' : Nat → Prop} (m : Md gc Q K' w) : Calls Try.prog 22 #[.pointer (some ⟨gc, 0, none⟩)] w fun r w' => ∃ a c fs, r = .returned (.slice a fs.length c) ∧ Rp w' a fs ∧ fs.map Ent.kv = Q ∧ FN w0 gs gw Q K B al cl es ah ch eh w' := by
  refine (all_any w m).mono ?_
  rintro r w' ⟨a, c, fs, rfl, l, k, f⟩
  obtain ⟨a', c', e, hr⟩ := l.rp
  simp only [Value.slice.injEq] at e
  obtain ⟨rfl, -, rfl⟩ := e
  exact ⟨a, c, fs, rfl, hr, k, h.below f⟩
end

structure FO (w0 : World) (gs gw : Nat) (Q : List KV) (K : Nat → Prop) (ah : Option Addr) (ch : Nat) (eh : List Ent) (w : World) : Prop where
  t : Both (Md gs Q) (Rf.Md gw Q) K w
  f : Below w0.heap.size w0 w
  h : w.cell? ⟨gw, 0, none⟩ = some (.slice ah Q.length ch)
  r : Rp w ah eh
  q : eh.map Ent.kv = Q
section
variable {w0 w w' : World} {gs gw ch : Nat} {Q : List KV} {K : Nat → Prop} {ah : Option Addr} {eh : List Ent}
theorem FO.below (h : FO w0 gs gw Q K ah ch eh w) (f : Below w.heap.size w w') : FO w0 gs gw Q K ah ch eh w' :=
  ⟨(Both.lies _ _).below h.t f, h.f.trans (f.mono h.f.size), (f.cell (p := ⟨gw, 0, none⟩) (World.block_lt_of_cell? w _ h.h)).trans h.h, h.r.below f (Nat.le_refl _), h.q⟩
theorem FO.drew (h : FO w0 gs gw Q K ah ch eh w) : FO w0 gs gw Q K ah ch eh w.drew := h.below ⟨rfl, rfl, rfl, Nat.le_refl _, fun _ _ => rfl⟩
theorem FO.same (h : FO w0 gs gw Q K ah ch eh w) {a : Option Addr} {c : Nat} {fs : List Ent} (hr : Rp w a fs) (hq : fs.map Ent.kv = Q) : Calls Try.prog 24 #[.slice a fs.length c, .slice ah Q.length ch] w fun r w' => r = .returned (.bool true) ∧ FO w0 gs gw Q K ah ch eh w' := by
  have hl : eh.length = Q.length := by rw [← h.q, List.length_map]
  have P := samePairs_any fs eh a ah c ch w hr h.r
  rw [hl, decide_eq_true (hq.trans h.q.symm)] at P
  exact P.mono fun r w' ⟨e, st⟩ => ⟨e, h.below (st.below _)⟩
theorem FO.all (h : FO w0 gs gw Q K ah ch eh w) : Calls Try.prog 22 #[.pointer (some ⟨gs, 0, none⟩)] w fun r w' => ∃ a c fs, r = .returned (.slice a fs.length c) ∧ Rp w' a fs ∧ fs.map Ent.kv = Q ∧ FO w0 gs gw Q K ah ch eh w' := by
  obtain ⟨K1, hA⟩ := H8.both_a h.t
  refine (all_any w hA).mono ?_
  rintro r w' ⟨a, c, fs, rfl, l, k, f⟩
  obtain ⟨a', c', e, hr⟩ := l.rp
  simp only [Value.slice.injEq] at e
  obtain ⟨rfl, -, rfl⟩ := e
  exact ⟨a, c, fs, rfl, hr, k, h.below f⟩
theorem FO.awake (h : FO w0 gs gw Q K ah ch eh w) : Calls Try.prog 8 #[] w fun r w' => r = .returned (.bool true) ∧ FO w0 gs gw Q K ah ch eh w' :=
  (awake_any w).mono fun r w' ⟨e, f⟩ => ⟨e, h.below f⟩
end

set_option maxHeartbeats 4000000 in
theorem script7_any (es : List Ent) (a aa ka : Option Addr) (cap ac kc : Nat) (xs : List Do8) (kk : List Int) (n : Int) (w : World) (hp : Prs w a cap es) (hx : Acts8 w aa xs) (hxl : xs.length ≤ 9223372036854775807) (hk : Rd w ka kk) (hn1 : -9223372036854775808 ≤ n) (hn2 : n ≤ 9223372036854775807) :
    Calls Try.prog 3 #[.slice a es.length cap, .slice aa xs.length ac, .slice ka kk.length kc, .int .i64 n] w fun e w' => e = .returned (.bool true) ∧ Below w.heap.size w w' := by
  have G := hide (great_in es a cap 20 40 w hp (by omega) (by omega))
  have hmx := hp.mx
  have hkm := hk.2.1
  unfold maxLen at hkm
  have HKK := hide hk
  clear hk
  cases hg : greatP es 20 40 with
  | true =>
    rw [hg] at G
    clear hg hp hx
    go_enter Try.func3, Try.ntmps3
    go_wp2_with fail
    refine G.out.mono ?_
    rintro r w1 ⟨rfl, s1⟩
    have F1 := hide (s1.below w.heap.size)
    clear s1
    go_wp2_with fail
    refine (awake_any _).mono ?_
    rintro r wz ⟨rfl, fz⟩
    have FZ := hide (F1.out.trans (fz.mono F1.out.size))
    clear fz
    go_wp2
    go_ret
    exact ⟨rfl, FZ.out⟩
  | false =>
    rw [hg] at G
    have HG := hide (great_false hg)
    have H := hide hp
    have HX := hide hx
    clear hg hp hx
    rcases (show 60 < xs.length ∨ ¬ (60 < xs.length) ∧ 40 < kk.length ∨ xs.length ≤ 60 ∧ kk.length ≤ 40 by omega) with hxx | ⟨hxx, hkx⟩ | ⟨hx60, hk40⟩
    · have hxi : (60 : Int) < (xs.length : Int) := by omega
      go_enter Try.func3, Try.ntmps3
      go_wp2_with fail
      refine G.out.mono ?_
      rintro r w1 ⟨rfl, s1⟩
      have F1 := hide (s1.below w.heap.size)
      clear s1
      go_wp2_with fail
      refine (awake_any _).mono ?_
      rintro r wz ⟨rfl, fz⟩
      have FZ := hide (F1.out.trans (fz.mono F1.out.size))
      clear fz
      go_wp2
      go_ret
      exact ⟨rfl, FZ.out⟩
    · have hxi : ¬ ((60 : Int) < (xs.length : Int)) := by omega
      have hki : (40 : Int) < (kk.length : Int) := by omega
      go_enter Try.func3, Try.ntmps3
      go_wp2_with fail
      refine G.out.mono ?_
      rintro r w1 ⟨rfl, s1⟩
      have F1 := hide (s1.below w.heap.size)
      clear s1
      go_wp2_with fail
      refine (awake_any _).mono ?_
      rintro r wz ⟨rfl, fz⟩
      have FZ := hide (F1.out.trans (fz.mono F1.out.size))
      clear fz
      go_wp2
      go_ret
      exact ⟨rfl, FZ.out⟩
    · have hxi : ¬ ((60 : Int) < (xs.length : Int)) := by omega
      have hki : ¬ ((40 : Int) < (kk.length : Int)) := by omega
      go_enter Try.func3, Try.ntmps3
      go_wp2_with fail
      refine G.out.mono ?_
      rintro r w1 ⟨rfl, s1⟩
      have f1 := s1.below w.heap.size
      have h30 := HG.out.1
      have hk20 : ∀ e ∈ es, e.k.length ≤ 65535 := fun e he => by have := HG.out.2 e he; omega
      have HK20 := hide hk20
      have RP := hide (H.out.rp (by omega))
      have N1 := hide (copied_in es a cap w1 (RP.out.below f1 (Nat.le_refl _)) hk20)
      have F1 := hide f1
      clear s1 f1 hk20
      go_wp2_with fail
      refine N1.out.mono ?_
      rintro r w2 ⟨ai, ci, fs, rfl, l2, ap2, k2, f2⟩
      have hfl : fs.length = es.length := by have := congrArg List.length k2; simpa using this
      have hfk : Hid (∀ e ∈ fs, e.k.length ≤ 65535) := by
        intro e he
        have h1 : e.kv ∈ es.map Ent.kv := by rw [← k2]; exact List.mem_map_of_mem he
        obtain ⟨e', he', hkv⟩ := List.mem_map.1 h1
        have h2 : e'.k = e.k := congrArg Prod.fst hkv
        rw [← h2]
        exact HK20.out e' he'
      obtain ⟨aq, cq, eq, hr2⟩ := l2.rp
      simp only [Value.slice.injEq] at eq
      obtain ⟨rfl, -, rfl⟩ := eq
      have hnil : Hid (ai = none → fs = [] ∧ ci = 0) := by
        intro e0
        rcases l2.row.2 with ⟨e1, h0⟩ | ⟨b, cp, cur, e1, _⟩
        · simp only [Value.slice.injEq] at e1
          exact ⟨List.eq_nil_of_length_eq_zero h0, e1.2.2⟩
        · simp only [Value.slice.injEq] at e1
          rw [e0] at e1
          exact absurd e1.1 (by simp)
      have L2 := hide l2
      have A2 := hide ap2
      have K2 := hide k2
      have R2 := hide hr2
      have F2 := hide (F1.out.trans (f2.mono F1.out.size))
      have G2 := hide f2
      clear l2 ap2 k2 f2 hr2 N1
      have N3 := new_any fs ai ci w2 R2.out hfk.out hnil.out
      rw [K2.out, hfl] at N3
      rw [hfl]
      have HN3 := hide N3
      clear N3
      go_wp2_with fail
      refine HN3.out.mono ?_
      rintro r w3 ⟨gs, rfl, m3, f3⟩
      have M3 := hide m3
      have F3 := hide (F2.out.trans (f3.mono F2.out.size))
      have G3 := hide f3
      have NW := hide (Rf.new_any es a cap w3 (RP.out.below F3.out (Nat.le_refl _)) HK20.out (by omega))
      clear m3 f3 HN3
      go_wp2_with fail
      refine NW.out.mono ?_
      rintro r w4 ⟨gw, rfl, m4, f4⟩
      have T4 := hide (Both.of (Md.lies gs _) (Rf.Md.lies gw _) M3.out m4 f4)
      have F4 := hide (F3.out.trans (f4.mono F3.out.size))
      have G4 := hide (G3.out.trans (f4.mono G3.out.size))
      clear m4 f4 NW M3
      obtain ⟨bb, hbb⟩ : ∃ bb, risesB (es.map Ent.kv) = bb := ⟨_, rfl⟩
      have RA := rises_any fs ai ci w4 (R2.out.below G4.out (Nat.le_refl _))
      rw [K2.out, hbb, hfl] at RA
      have HRA := hide RA
      clear RA
      go_wp2_with fail
      refine HRA.out.mono ?_
      rintro r w5 ⟨rfl, f5⟩
      have T5 := hide ((Both.lies _ _).below T4.out f5)
      have F5 := hide (F4.out.trans (f5.mono F4.out.size))
      have G5 := hide (G4.out.trans (f5.mono G4.out.size))
      clear f5 HRA T4
      have RR := Rf.rises_any es a cap w5 (RP.out.below F5.out (Nat.le_refl _))
      rw [hbb] at RR
      have HRR := hide RR
      clear RR hbb
      go_wp2_with fail
      refine HRR.out.mono ?_
      rintro r w6 ⟨rfl, f6⟩
      have T6 := hide ((Both.lies _ _).below T5.out f6)
      have F6 := hide (F5.out.trans (f6.mono F5.out.size))
      have G6 := hide (G5.out.trans (f6.mono G5.out.size))
      clear f6 HRR T5
      -- written over
      have hN : ∀ k, ((Value.slice ai fs.length ci).ownBlock = some k ∨ ∃ e ∈ fs, (Value.slice e.a e.k.length e.c).ownBlock = some k) → k < w2.heap.size := by
        rintro k (hk | ⟨e, he, hk⟩)
        · exact (L2.out.row.lt k hk).2
        · exact ((L2.out.ks e he).1.lt k hk).2
      have hs16 : w1.heap.size ≤ w6.heap.size := by have := G2.out.size; have := G6.out.size; omega
      have OV := over_in fs ai ci w1.heap.size w6 (L2.out.below G6.out) A2.out hs16 w2.heap.size hN hfk.out
      rw [hfl] at OV
      have HOV := hide OV
      clear OV hN
      go_wp2_with fail
      refine HOV.out.mono ?_
      rintro r w7 ⟨rfl, k7⟩
      have T7 := hide ((Both.lies _ _).kp T6.out k7 (fun k _ hk => .inr (by omega)))
      have F7 : Hid (Below w.heap.size w w7) := F6.out.trans (k7.below F6.out.size (fun k hk => .inl (by have := F1.out.size; omega)))
      have HS2 : Hid (w.heap.size ≤ w2.heap.size) := F2.out.size
      have hQ0 : (ofM (es.map Ent.kv)).length ≤ 20 := by have := ofM_len (es.map Ent.kv); simp at this; omega
      have HKR : Hid (∀ w', Below w.heap.size w w' → Rd w' ka kk) := fun w' f => HKK.out.below f (Nat.le_refl _)
      generalize ofM (es.map Ent.kv) = Q0 at T7 hQ0
      clear k7 HOV F3 F4 F5 F6 G2 G3 G4 G5 G6 T6 L2 A2 K2 R2 hnil hfk hfl hs16 F1 RP HK20 H HG G
      go_wp2_with fail
      go_loopw [12] (fun vi wr => ∃ (i : Nat) (Q : List KV), vi = .int .i64 i ∧ i ≤ xs.length ∧ Q.length ≤ 20 + i ∧ Hid (Both (Md gs Q) (Rf.Md gw Q) (fun k => k < w2.heap.size) wr) ∧ Hid (Below w.heap.size w wr)) (fun vi _ => (xs.length - intOf vi).toNat)
      case atStart => exact ⟨0, Q0, rfl, by omega, hQ0, T7, F7⟩
      case round =>
        clear T7 F7 hQ0
        obtain ⟨i, Q, rfl, hi, hQ, T, F⟩ := hrel
        by_cases hin : i < xs.length
        · obtain ⟨x, hx⟩ : ∃ x, xs[i]? = some x := ⟨xs[i], List.getElem?_eq_getElem hin⟩
          obtain ⟨bA, oA, rfl, hxv, hxr, hxc⟩ := HX.out.cell hx
          obtain ⟨xa, xcap, xk, xv, xd⟩ := x
          simp only at hxv hxr hxc
          have HXR := hide hxr
          obtain ⟨y0, y1, y2⟩ := hxc wr F.out
          have hkl := (hxr wr F.out).2.1
          unfold maxLen at hkl
          have xb : Blk (wr.alloc (.cells #[.slice xa xk.length xcap, .int .u64 xv, .bool xd] 37 (0, 0))) wr.heap.size 37 [.slice xa xk.length xcap, .int .u64 xv, .bool xd] := Blk.new wr _ _ _ rfl
          have fb := (Below.refl wr.heap.size wr).alloc (Nat.le_refl _) (.cells #[.slice xa xk.length xcap, .int .u64 xv, .bool xd] 37 (0, 0))
          generalize hw7 : wr.alloc (.cells #[.slice xa xk.length xcap, .int .u64 xv, .bool xd] 37 (0, 0)) = w8 at xb fb
          have hsz8 : wr.heap.size < w8.heap.size := by rw [← hw7]; simp
          have A8 : Hid (AQ w gs gw Q (fun k => k < w2.heap.size ∨ wr.heap.size ≤ k ∧ k < w8.heap.size) wr.heap.size [.slice xa xk.length xcap, .int .u64 xv, .bool xd] w8) := ⟨(Both.lies _ _).more T.out fb, F.out.trans (fb.mono F.out.size), xb⟩
          have HKX : Hid (∀ x, x < w.heap.size → x < w2.heap.size ∨ wr.heap.size ≤ x ∧ x < w8.heap.size) := fun x hx => .inl (by have := HS2.out; omega)
          have HKB : Hid (wr.heap.size < w2.heap.size ∨ wr.heap.size ≤ wr.heap.size ∧ wr.heap.size < w8.heap.size) := .inr ⟨Nat.le_refl _, hsz8⟩
          have HWK : Hid (∀ k, k < w2.heap.size → k < w2.heap.size ∨ wr.heap.size ≤ k ∧ k < w8.heap.size) := fun k hk => .inl hk
          have x0 := A8.out.c0
          have x1 := A8.out.c1
          have x2 := A8.out.c2
          have fz0 := A8.out.x.frozen 0
          have fz1 := A8.out.x.frozen 1
          have fz2 := A8.out.x.frozen 2
          clear hx hxr hxc xb fb
          by_cases hlong : 40 < xk.length
          · have hli : (40 : Int) < (xk.length : Int) := by omega
            go_wp2_with fail
            refine (awake_any _).mono ?_
            rintro r wz ⟨rfl, fz⟩
            have FZ := hide (A8.out.f.trans (fz.mono A8.out.f.size))
            clear fz
            go_wp2
            go_ret
            exact ⟨rfl, FZ.out⟩
          · have hli : ¬ ((40 : Int) < (xk.length : Int)) := by omega
            have hxk40 : xk.length ≤ 40 := by omega
            have hxk : xk.length ≤ 65535 := by omega
            have hi1 : -9223372036854775808 ≤ (i : Int) := by omega
            have hi2 : (i : Int) ≤ 9223372036854775807 := by omega
            have hQm : Q.length < 1000000 := by omega
            cases xd with
            | true =>
              have D := hide (A8.out.dropL HKX.out HKB.out (kc := xcap) (HXR.out w8 A8.out.f))
              go_wp2_with fail
              clear y0 y1 y2 hw7
              refine D.out.mono ?_
              rintro r w9 ⟨rfl, t9, f9, b9⟩
              have z0 : w9.cell? ⟨wr.heap.size, 0, none⟩ = some (.slice xa xk.length xcap) := b9.cell 0
              have D2 := hide (AQ.dropR (kc := xcap) t9 f9 b9 HKX.out HKB.out (HXR.out w9 f9))
              clear t9 f9 b9 D x0 x1 x2
              go_wp2_with fail
              refine D2.out.mono ?_
              rintro r w10 ⟨rfl, t10, f10, b10⟩
              have AS : Hid (AQ w gs gw (dropM xk Q) (fun k => k < w2.heap.size ∨ wr.heap.size ≤ k ∧ k < w8.heap.size) wr.heap.size [.slice xa xk.length xcap, .int .u64 xv, .bool true] w10) := ⟨t10, f10, b10⟩
              clear t10 f10 b10 D2 z0 A8
              have d0 := AS.out.c0
              go_wp2_with fail
              refine (AS.out.asked HKR.out hk40 n hn1 hn2).mono ?_
              rintro r wa ⟨rfl, s1⟩
              have d1 := s1.c0
              have A1 := hide s1
              clear s1 d0
              go_wp2_with fail
              refine (A1.out.asked HXR.out hxk40 (i : Int) hi1 hi2).mono ?_
              rintro r wb ⟨rfl, s2⟩
              have A2 := hide s2
              clear s2 d1
              go_wp2
              go_roundw
              case rel => exact ⟨i + 1, _, by go_num, by omega, by have := dropM_le (k := xk) Q; omega, (Both.lies _ _).weaken A2.out.t HWK.out, A2.out.f⟩
              case measure => simp [intOf]; omega
            | false =>
              have LE := hide (lend_any xa xk xcap w8 (HXR.out w8 A8.out.f) (by omega))
              have HW7 := hide hw7
              clear hw7 x0 x1 x2 fz0 fz1 fz2
              go_wp2_with fail
              rw [HW7.out]
              clear y0 y1 y2 HW7
              refine LE.out.mono ?_
              rintro r w9 ⟨rfl, b9, f9⟩
              have B9 : Hid (Blk w9 w8.heap.size 5 (u8s (lentK xk 3))) := b9
              have A9 : Hid (AQ w gs gw Q (fun k => (k < w2.heap.size ∨ wr.heap.size ≤ k ∧ k < w8.heap.size) ∨ w8.heap.size ≤ k ∧ k < w9.heap.size) wr.heap.size [.slice xa xk.length xcap, .int .u64 xv, .bool false] w9) := ⟨(Both.lies _ _).more A8.out.t f9, A8.out.f.trans (f9.mono A8.out.f.size), A8.out.x.below f9 A8.out.x.lt⟩
              have HKX9 : Hid (∀ x, x < w.heap.size → (x < w2.heap.size ∨ wr.heap.size ≤ x ∧ x < w8.heap.size) ∨ w8.heap.size ≤ x ∧ x < w9.heap.size) := fun x hx => .inl (HKX.out x hx)
              have HLT9 : Hid (w8.heap.size < w9.heap.size) := B9.out.lt
              have HWW : Hid (w.heap.size ≤ w8.heap.size) := A8.out.f.size
              have rd9 := lent_rd B9.out (HXR.out w9 A9.out.f).1 (by omega)
              have PU := hide (A9.out.putL HKX9.out (.inl HKB.out) (kc := xk.length + 3) rd9 hxk hxv hQm)
              have e1 := A9.out.c1
              clear b9 f9 LE rd9
              go_wp2_with fail
              refine PU.out.mono ?_
              rintro r w10 ⟨rfl, t10, f10, b10, kp10⟩
              have B10 : Hid (Blk w10 w8.heap.size 5 (u8s (lentK xk 3))) := B9.out.kp kp10 (.inr ⟨Nat.le_refl _, HLT9.out⟩)
              have T10 := hide t10
              have F10 := hide f10
              have X10 := hide b10
              have OB := hide (over_any _ xk.length 0 (u8s xk) w10 (lent_owns B10.out (by omega)) (u8s_all xk) (by omega) (Nat.zero_le _))
              clear t10 f10 b10 kp10 PU e1 A9 B9
              go_wp2_with fail
              refine OB.out.mono ?_
              rintro r w11 ⟨rfl, g11⟩
              have T11 := hide ((Both.lies _ _).grown T10.out g11 (fun k hk => .inr ⟨by simp [Value.ownBlock] at hk; omega, by simp [Value.ownBlock] at hk; have := HLT9.out; omega⟩))
              have F11 : Hid (Below w.heap.size w w11) := F10.out.grown g11 F10.out.size (fun k hk => by simp [Value.ownBlock] at hk; have := HWW.out; omega)
              have X11 : Hid (Blk w11 wr.heap.size 37 [.slice xa xk.length xcap, .int .u64 xv, .bool false]) := (g11.block _ X10.out.lt (fun e9 => by simp [Value.ownBlock] at e9; omega)).trans X10.out
              have h0' : w11.cell? ⟨wr.heap.size, 0, none⟩ = some (.slice xa xk.length xcap) := X11.out.cell 0
              have h1' : w11.cell? ⟨wr.heap.size, 1, none⟩ = some (.int .u64 xv) := X11.out.cell 1
              have P2 := hide (AQ.putR (kc := xcap) T11.out F11.out X11.out HKX9.out (.inl HKB.out) (HXR.out w11 F11.out) hxk hxv hQm)
              clear g11 OB T10 F10 X10 B10
              go_wp2_with fail
              refine P2.out.mono ?_
              rintro r w12 ⟨rfl, t12, f12, b12⟩
              have AS : Hid (AQ w gs gw (putM xk xv Q) (fun k => (k < w2.heap.size ∨ wr.heap.size ≤ k ∧ k < w8.heap.size) ∨ w8.heap.size ≤ k ∧ k < w9.heap.size) wr.heap.size [.slice xa xk.length xcap, .int .u64 xv, .bool false] w12) := ⟨t12, f12, b12⟩
              clear t12 f12 b12 P2 h0' h1' A8
              have d0 := AS.out.c0
              go_wp2_with fail
              refine (AS.out.asked HKR.out hk40 n hn1 hn2).mono ?_
              rintro r wa ⟨rfl, s1⟩
              have d1 := s1.c0
              have A1 := hide s1
              clear s1 d0
              go_wp2_with fail
              refine (A1.out.asked HXR.out hxk40 (i : Int) hi1 hi2).mono ?_
              rintro r wb ⟨rfl, s2⟩
              have A2 := hide s2
              clear s2 d1
              go_wp2
              go_roundw
              case rel => exact ⟨i + 1, _, by go_num, by omega, by have := putM_le (k := xk) (v := xv) Q; omega, (Both.lies _ _).weaken A2.out.t (fun k hk => .inl (HWK.out k hk)), A2.out.f⟩
              case measure => simp [intOf]; omega
        · obtain rfl : i = xs.length := by omega
          clear HX HKK HKR
          obtain ⟨KA, hA⟩ := H8.both_a T.out
          have HKQ := hide (md_keys hA).1
          have HFW := hide F.out.size
          have AL := hide (all_any _ hA)
          clear hA KA
          go_wp2_with fail
          refine AL.out.mono ?_
          rintro r w8 ⟨a8, c8, es8, rfl, l8, k8, f8⟩
          have T8 := hide ((Both.lies _ _).more T.out f8)
          have F8 := hide (F.out.trans (f8.mono F.out.size))
          have L8 := hide l8
          have K8 := hide k8
          have HN8 := hide (lst_lt l8)
          have HS8 := hide f8.size
          clear l8 k8 f8 AL
          obtain ⟨KA, hA⟩ := H8.both_a T8.out
          have CP := hide (copy_any _ hA)
          clear hA KA
          go_wp2_with fail
          refine CP.out.mono ?_
          rintro r w9 ⟨gc, rfl, m9, f9⟩
          have T9 := (Both.lies _ _).below T8.out f9
          obtain ⟨KB, hB⟩ := H8.both_b T9
          obtain ⟨ah, ch, eh, hh, -, he, hr, -⟩ := H8.rf_hdr hB
          have N9 : Hid (FN w gs gw Q (fun k => k < w2.heap.size ∨ wr.heap.size ≤ k ∧ k < w8.heap.size) wr.heap.size a8 c8 es8 ah ch eh w9) := ⟨T9, F8.out.trans (f9.mono F8.out.size), L8.out.below f9, K8.out, hh, hr, he, Nat.le_trans HS8.out f9.size⟩
          have ND := hide N9.out.drew
          have MD : Hid (Md gc Q (fun k => k < w8.heap.size) w9.drew) := (Md.lies _ _).still m9 ⟨1, rfl⟩
          have HS9 := hide f9.size
          have d0 := ND.out.h
          clear T9 hB KB hh hr he m9 f9 CP T8 L8 K8 F8 T F
          go_wp2_with fail
          go_region_held3 (fun w' => w'.cell? ⟨gw, 0, none⟩ = some (.slice ah Q.length ch)) (first | exact d3 | exact d2 | exact d1 | exact d0)
            (first
            | (go_at_call 24; refine (N2.out.sameL R2.out Q2.out).mono ?_; rintro r va ⟨rfl, n3, f3⟩; have d3 := n3.h; have N3 := hide n3; clear n3 f3)
            | (go_at_call 22; refine (N1.out.call M1.out).mono ?_; rintro r va ⟨a2, c2, fs2, rfl, r2, q2, n2⟩; have d2 := n2.h; have N2 := hide n2; have R2 := hide r2; have Q2 := hide q2; clear n2 r2 q2)
            | (go_at_call 24; refine ND.out.same.mono ?_; rintro r va ⟨rfl, n1, f1⟩; have d1 := n1.h; have N1 := hide n1; have M1 := hide ((Md.lies _ _).below MD.out f1); clear n1 f1))
          all_goals (
            have HKE : ∀ e ∈ es8, e.k.length ≤ 65535 := fun e he => HKQ.out e.kv (by rw [← N3.out.e]; exact List.mem_map_of_mem he)
            have hB := N3.out.b
            have OV := hide (over_in es8 a8 c8 wr.heap.size va (lst_lk N3.out.l) (lst_apart N3.out.l) hB w8.heap.size HN8.out HKE)
            clear HKE hB d0 d1 d2 d3
            go_wp2_with fail
            refine OV.out.mono ?_
            rintro r vb ⟨rfl, kb⟩
            have TB := (Both.lies _ _).kp N3.out.t kb (fun x _ hx => by
              rcases Nat.lt_or_ge x wr.heap.size with h1 | h1
              · exact .inl h1
              · refine .inr ?_
                rcases Nat.lt_or_ge x w8.heap.size with h2 | h2
                · exact absurd (.inr ⟨h1, h2⟩) hx
                · exact h2)
            have FB : Below w.heap.size w vb := N3.out.f.trans (kb.below N3.out.f.size (fun x hx => .inl (by have := HFW.out; omega)))
            obtain ⟨KB, hB⟩ := H8.both_b TB
            obtain ⟨ah2, ch2, eh2, hh, -, he, hr, -⟩ := H8.rf_hdr hB
            have OB : Hid (FO w gs gw Q (fun k => k < w2.heap.size ∨ wr.heap.size ≤ k ∧ k < w8.heap.size) ah2 ch2 eh2 vb) := ⟨TB, FB, hh, hr, he⟩
            have OD := hide OB.out.drew
            have d0 := OD.out.h
            clear TB FB hB hh hr he kb OV N3 N2 N1 ND N9 R2 Q2 M1 MD
            go_wp2_with fail
            go_region_held3 (fun w' => w'.cell? ⟨gw, 0, none⟩ = some (.slice ah2 Q.length ch2)) (first | exact d3 | exact d2 | exact d1 | exact d0)
              (first
              | (go_at_call 22; refine OD.out.all.mono ?_; rintro r vc ⟨a2, c2, fs2, rfl, r2, q2, n2⟩; have d1 := n2.h; have O1 := hide n2; have R2 := hide r2; have Q2 := hide q2; clear n2 r2 q2)
              | (go_at_call 24; refine (O1.out.same R2.out Q2.out).mono ?_; rintro r vd ⟨rfl, n3⟩; have d2 := n3.h; have O2 := hide n3; clear n3)
              | (go_at_call 8; refine O2.out.awake.mono ?_; rintro r ve ⟨rfl, n4⟩; have d3 := n4.h; have O3 := hide n4; clear n4))
            all_goals (
              go_wp2
              go_ret
              exact ⟨rfl, O3.out.f⟩))
end Go.Proofs.Ytahlbebkcoofkaa
