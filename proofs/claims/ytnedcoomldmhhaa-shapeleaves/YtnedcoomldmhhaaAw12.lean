/- Pairs of a lone leaf; awake. -/
import Derived.Test.YtnedcoomldmhhaaAw11
namespace Go.Proofs.Ytnedcoomldmhhaa
set_option maxRecDepth 20000
open Go.RowKit Go.Sort
set_option linter.unusedVariables false
set_option linter.unusedSimpArgs false

set_option maxHeartbeats 1600000 in
theorem pairs_tern1 (a : Option Addr) (c : Cel) (k : Nat) (w : World) (h : Rc w a [c]) (hk : c.kind = 3) (hc : c.count = 1) (hl : lookP 2 ([c].map Cel.pure) = some [⟨-1, 0, -1, 1⟩]) :
    Calls Try.prog 17 #[.int .i64 2, .slice a 1 k] w fun r w' => PAns w w' [([], c.val)] r := by
  have L := hide (look_any 2 a [c] k w h)
  simp only [List.length_cons, List.length_nil, Nat.zero_add] at L
  have H := hide h
  have hv := (h.2.1 c (by simp)).2.2.2.2.2.1
  clear h
  go_enter Try.func17, Try.ntmps17
  go_wp2_with fail
  refine L.out.mono ?_
  rintro r w1 ⟨b, a1, n1, k1, a2, n2, k2, rfl, hcc, f⟩
  have F := hide f
  clear f
  rcases hcc with ⟨rfl, h⟩ | ⟨rfl, ss, g, h, ⟨rfl, rfl, rfl, rfl, rfl, rfl⟩, hg, hsp⟩
  · rw [hl] at h; simp at h
  · rw [hl] at h
    simp at h
    subst h
    have f2 : Below w1.heap.size w1 (w1.alloc (.cells #[.slice a1 1 k1, .slice (some ⟨g, 0, none⟩) 1 1] 61 (0, 0))) := (Below.refl _ _).alloc (Nat.le_refl _) _
    have F2 := hide (F.out.trans (f2.mono F.out.size))
    have T2 : Hid (Tre (w1.alloc (.cells #[.slice a1 1 k1, .slice (some ⟨g, 0, none⟩) 1 1] 61 (0, 0))) a1 [c] g [⟨-1, 0, -1, 1⟩]) := ⟨H.out.below F2.out (Nat.le_refl _), Blk.below hsp f2 (Blk.lt hsp), rfl⟩
    clear hsp F f2
    go_wp2_with fail
    generalize World.alloc _ _ = w2 at F2 T2 ⊢
    refine (spelled_one a1 c g k1 1 w2 T2.out hk hc hv).mono ?_
    rintro r w3 ⟨a3, c3, fs, rfl, l3, ap3, m3, f3⟩
    have L3 : Hid (Rf.Lk w.heap.size w3 (.slice a3 fs.length c3) fs) := ⟨owns_down l3.row F2.out.size, fun e he => ⟨owns_down (l3.ks e he).1 F2.out.size, (l3.ks e he).2⟩, l3.ln⟩
    have F3 := hide (F2.out.trans (f3.mono F2.out.size))
    have AP := hide ap3
    have M3 := hide m3
    clear l3 ap3 m3 f3
    go_wp2_with fail
    go_ret
    exact ⟨a3, c3, fs, rfl, L3.out, AP.out, M3.out, F3.out⟩
/-- What a lone leaf answers. -/
def leafPs (kind : Int) (k : List Int) (v : Int) : List KV := if kind = 3 then [([], v)] else [(k, v)]
theorem pairs_leaf (a : Option Addr) (c : Cel) (kc : Nat) (kind t : Int) (k : List Int) (v : Int) (w : World) (h : Rc w a [c]) (hp : c.pure = leafC kind k v) (hk : 1 ≤ kind ∧ kind ≤ 11) (ht : 1 ≤ t ∧ t ≤ 4) (hl : k.length ≤ 60) :
    Calls Try.prog 17 #[.int .i64 t, .slice a 1 kc] w fun r w' => PAns w w' (if t = leafTag kind then leafPs kind k v else []) r := by
  have hlook := look_leaf kind t k v hk ht hl
  have hm : [c].map Cel.pure = [leafC kind k v] := by simp [hp]
  by_cases h2 : t = 2 ∧ leafTag kind = 2
  · obtain ⟨rfl, h3⟩ := h2
    have hk3 : kind = 3 := by unfold leafTag at h3; omega
    subst hk3
    have e1 : c.kind = 3 := by have := congrArg PC.kind hp; simpa [Cel.pure, leafC] using this
    have e2 : c.count = 1 := by have := congrArg PC.count hp; simpa [Cel.pure, leafC] using this
    have e3 : c.val = v := by have := congrArg PC.val hp; simpa [Cel.pure, leafC] using this
    have := pairs_tern1 a c kc w h e1 e2 (by rw [hm, hlook, if_pos h3.symm])
    rw [e3] at this
    rw [if_pos h3.symm]
    exact this
  · have hkey : c.key.length ≤ 65535 ∧ c.ps.length ≤ 8 ∧ ∀ e ∈ c.ps, e.k.length ≤ 65535 := by
      have e1 := congrArg PC.key hp
      have e2 := congrArg PC.pairs hp
      have e1' : c.key = (leafC kind k v).key := e1
      have e2' : c.ps.map Ent.kv = (leafC kind k v).pairs := e2
      have b1 : (leafC kind k v).key.length ≤ 60 := by unfold leafC; split; simp; split; simp; exact hl
      have b2 : (leafC kind k v).pairs = [] ∨ (leafC kind k v).pairs = [(k, v)] := by unfold leafC; split; simp; split; simp; simp
      refine ⟨by rw [e1']; omega, ?_, fun e he => ?_⟩
      · have := congrArg List.length e2'
        rw [List.length_map] at this
        rcases b2 with b2 | b2
        · rw [b2] at this; simp at this; rw [this]; simp
        · rw [b2] at this; simp at this; omega
      · have : e.kv ∈ c.ps.map Ent.kv := List.mem_map.2 ⟨e, he, rfl⟩
        rw [e2'] at this
        rcases b2 with b2 | b2 <;> rw [b2] at this
        · simp at this
        · simp at this
          have h5 : e.k = k := congrArg Prod.fst this
          rw [h5]; omega
    have := pairs_any t a [c] kc w h (fun e2 => by rw [hm, hlook, if_neg (fun e => h2 ⟨e2, by omega⟩)]) (fun x hx => by simp at hx; subst hx; exact hkey)
    have hps : pairsN t ([c].map Cel.pure) = if t = leafTag kind then leafPs kind k v else [] := by
      unfold pairsN
      rw [hm, hlook]
      by_cases he : t = leafTag kind
      · rw [if_pos he, if_pos he]
        have h1 : kind = 1 ∨ kind = 3 ∨ kind = 5 ∨ kind = 11 := by unfold leafTag at he; omega
        rcases h1 with rfl | rfl | rfl | rfl
        · simp [keptP, keptOne, leafC, ownK, leafPs]
        · exact absurd ⟨by rw [he]; rfl, rfl⟩ h2
        · simp [keptP, keptOne, leafC, ownK, leafPs]
        · simp [keptP, keptOne, leafC, ownK, leafPs]
      · rw [if_neg he, if_neg he]
    rw [hps] at this
    exact this
theorem deep_leaf (kind t : Int) (k : List Int) (v : Int) (hk : 1 ≤ kind ∧ kind ≤ 11) (ht : 1 ≤ t ∧ t ≤ 4) (hl : k.length ≤ 60) : deepP t [leafC kind k v] = if t = leafTag kind then 1 else 0 := by
  unfold deepP
  rw [look_leaf kind t k v hk ht hl]
  by_cases he : t = leafTag kind
  · rw [if_pos he, if_pos he]; rfl
  · rw [if_neg he, if_neg he]
def celA (a : Option Addr) (n : Nat) : Cel := ⟨1, 0, 1, 0, 0, false, 5, a, n, [97], none, 0, []⟩
theorem celA_pure (a : Option Addr) (n : Nat) : (celA a n).pure = leafC 1 [97] 5 := rfl
theorem celA_ok {w : World} {a : Option Addr} {n : Nat} (h : Rd w a [97]) : Cok w (celA a n) :=
  ⟨by simp [celA, I64], by simp [celA, I64], by simp [celA, I64], by simp [celA, I64], by simp [celA], by simp [celA], h, Rp.nil _ _⟩
theorem look_none1 : lookP 1 [] = some [] := by
  simp [lookP, layP, layN, countedP, cnN, placedP, partsP, ptN]
theorem look_none9 : lookP 9 [] = none := by
  simp [lookP, layP, layN, countedP, cnN, placedP]
theorem rc_nil (w : World) : Rc w none [] := ⟨by simp, by simp, .inl rfl⟩
set_option maxHeartbeats 3200000 in
theorem awake_any (w : World) : Calls Try.prog 9 #[] w fun e w' => e = .returned (.bool true) ∧ Below w.heap.size w w' := by
  have kc := run_bytes_const (P := Try.prog) 38 5 Try.underlying38 Try.underlying5
  obtain ⟨cA, hcA⟩ : ∃ cA, cA = celA (some ⟨w.heap.size, 0, none⟩) 1 := ⟨_, rfl⟩
  have hA : Hid (cA.fields = [.int .i64 1, .int .i64 0, .int .i64 1, .int .i64 0, .int .u8 0, .bool false, .int .u64 5, .slice (some ⟨w.heap.size, 0, none⟩) 1 1, .slice none 0 0]) := by show _ = _; rw [hcA]; rfl
  have hP : Hid (cA.pure = leafC 1 [97] 5) := by show _ = _; rw [hcA]; rfl
  have r1 : Rd (w.alloc (.cells #[.int .u8 97] 5 (1, 2))) (some ⟨w.heap.size, 0, none⟩) [97] := rd_new1 w _ _ [97] _ rfl (by simp [IsBytes]) (by simp [maxLen])
  have f1 : Below w.heap.size w (w.alloc (.cells #[.int .u8 97] 5 (1, 2))) := (Below.refl _ w).alloc (Nat.le_refl _) _
  have s1 : (w.alloc (.cells #[.int .u8 97] 5 (1, 2))).heap.size = w.heap.size + 1 := by simp
  have b2 := Blk.new (w.alloc (.cells #[.int .u8 97] 5 (1, 2))) 40 cA.fields _ rfl
  have f2 : Below (w.heap.size + 1) (w.alloc (.cells #[.int .u8 97] 5 (1, 2))) ((w.alloc (.cells #[.int .u8 97] 5 (1, 2))).alloc (.cells cA.fields.toArray 40 (0, 0))) := (Below.refl _ _).alloc (by simp) _
  have ok2 : Cok ((w.alloc (.cells #[.int .u8 97] 5 (1, 2))).alloc (.cells cA.fields.toArray 40 (0, 0))) cA := by
    have := celA_ok (n := 1) (r1.below f2 (by simp))
    rwa [← hcA] at this
  rw [s1] at b2
  have rc3 := rc_lit1 _ cA 40 _ rfl ok2
  have f3 := (Below.refl _ ((w.alloc (.cells #[.int .u8 97] 5 (1, 2))).alloc (.cells cA.fields.toArray 40 (0, 0)))).alloc (Nat.le_refl _) (.cells cA.fields.toArray 40 (0, 0))
  have RC := hide rc3
  have F3 := hide ((f1.trans (f2.mono (by omega))).trans (f3.mono (by simp; omega)))
  have CB := hide (b2.below f3 (by simp))
  have OK := hide (ok2.below f3 (Nat.le_refl _))
  have h1 := hA.out
  rw [h1] at RC F3 CB OK
  simp only [World.size_alloc] at RC
  have HL := hide look_none1
  clear r1 f1 s1 b2 f2 ok2 rc3 f3 hcA h1
  go_enter Try.func9, Try.ntmps9
  go_wp2_with fail
  generalize World.alloc _ _ = w3 at RC F3 CB OK ⊢
  refine (pairs_leaf _ cA 1 1 1 [97] 5 w3 RC.out hP.out (by omega) (by omega) (by simp)).mono ?_
  rintro r w4 ⟨a4, c4, fs, rfl, l4, -, m4, f4⟩
  have hm : fs.map Ent.kv = [([97], 5)] := m4
  obtain ⟨e, rfl⟩ : ∃ e, fs = [e] := by
    match fs, hm with
    | [e], _ => exact ⟨e, rfl⟩
    | [], h => simp at h
    | _ :: _ :: _, h => simp at h
  have hev : e.v = 5 := by have := congrArg (fun l => l.map Prod.snd) hm; simpa [Ent.kv] using this
  obtain ⟨a5, c5, e5, r5⟩ := l4.rp
  have hB5 : True := trivial
  simp only [Value.slice.injEq] at e5
  obtain ⟨rfl, -, rfl⟩ := e5
  have RP := hide r5
  have F4 := hide (F3.out.trans (f4.mono F3.out.size))
  have CB4 := hide (CB.out.below f4 CB.out.lt)
  have OK4 := hide (OK.out.below f4 (Nat.le_refl _))
  clear l4 m4 f4 hm RC F3 CB OK r5
  simp only [List.length_cons, List.length_nil, Nat.zero_add]
  have RP4 := RP
  clear RP
  have SN := sound_any 1 none [] 0 w4 (rc_nil w4)
  rw [List.map_nil, look_none1] at SN
  simp only [List.length_nil, Option.isSome_some, Option.isSome_none] at SN
  have SN' := hide SN
  clear SN
  go_wp2_with fail
  refine SN'.out.mono ?_
  rintro r w5 ⟨rfl, f5⟩
  clear SN'
  have F5 := hide (F4.out.trans (f5.mono F4.out.size))
  have CB5 := hide (CB4.out.below f5 CB4.out.lt)
  have OK5 := hide (OK4.out.below f5 (Nat.le_refl _))
  have RP5 := hide (RP4.out.below f5 (Nat.le_refl _))
  clear f5 F4 CB4 OK4 RP4
  obtain ⟨c0, c1, c2, c3, c4', c5', c6, c7, c8, -, -, -, -, -, -, -, -, -⟩ := box9 CB5.out
  have rc := rc_lit1 w5 cA 40 _ rfl OK5.out
  have fl := (Below.refl _ w5).alloc (Nat.le_refl _) (.cells cA.fields.toArray 40 (0, 0))
  rw [hA.out] at rc fl
  have SN := sound_any 1 _ [cA] 1 _ rc
  rw [show [cA].map Cel.pure = [leafC 1 [97] 5] by simp [hP.out], look_leaf 1 1 [97] 5 (by omega) (by omega) (by simp), if_pos (by rfl)] at SN
  simp only [Option.isSome_some] at SN
  simp only [List.length_cons, List.length_nil, Nat.zero_add] at SN
  have SN' := hide SN
  have FL := hide fl
  clear SN rc fl
  go_wp2_with fail
  refine SN'.out.mono ?_
  rintro r w6 ⟨rfl, f'⟩
  have f6 := FL.out.trans (f'.mono (by simp))
  clear SN' FL f' c0 c1 c2 c3 c4' c5' c6 c7 c8
  have F6 := hide (F5.out.trans (f6.mono F5.out.size))
  have CB6 := hide (CB5.out.below f6 CB5.out.lt)
  have OK6 := hide (OK5.out.below f6 (Nat.le_refl _))
  have RP6 := hide (RP5.out.below f6 (Nat.le_refl _))
  clear f6 F5 CB5 OK5 RP5
  obtain ⟨c0, c1, c2, c3, c4', c5', c6, c7, c8, -, -, -, -, -, -, -, -, -⟩ := box9 CB6.out
  have rc := rc_lit1 w6 cA 40 _ rfl OK6.out
  have fl := (Below.refl _ w6).alloc (Nat.le_refl _) (.cells cA.fields.toArray 40 (0, 0))
  rw [hA.out] at rc fl
  have SN := sound_any 3 _ [cA] 1 _ rc
  rw [show [cA].map Cel.pure = [leafC 1 [97] 5] by simp [hP.out], look_leaf 1 3 [97] 5 (by omega) (by omega) (by simp), if_neg (by decide)] at SN
  simp only [Option.isSome_none] at SN
  simp only [List.length_cons, List.length_nil, Nat.zero_add] at SN
  have SN' := hide SN
  have FL := hide fl
  clear SN rc fl
  go_wp2_with fail
  refine SN'.out.mono ?_
  rintro r w7 ⟨rfl, f'⟩
  have f7 := FL.out.trans (f'.mono (by simp))
  clear SN' FL f' c0 c1 c2 c3 c4' c5' c6 c7 c8
  have F7 := hide (F6.out.trans (f7.mono F6.out.size))
  have CB7 := hide (CB6.out.below f7 CB6.out.lt)
  have OK7 := hide (OK6.out.below f7 (Nat.le_refl _))
  have RP7 := hide (RP6.out.below f7 (Nat.le_refl _))
  clear f7 F6 CB6 OK6 RP6
  obtain ⟨pb, poff, rfl, p0, p1⟩ := RP7.out.cells (i := 0) (e := e) rfl
  simp only [Nat.zero_mul, Nat.add_zero] at p0 p1
  rw [hev] at p1
  obtain ⟨c0, c1, c2, c3, c4', c5', c6, c7, c8, -, -, -, -, -, -, -, -, -⟩ := box9 CB7.out
  have rc := rc_lit1 w7 cA 40 _ rfl OK7.out
  have fl := (Below.refl _ w7).alloc (Nat.le_refl _) (.cells cA.fields.toArray 40 (0, 0))
  rw [hA.out] at rc fl
  have SN := deep_any 1 _ [cA] 1 _ rc
  rw [show [cA].map Cel.pure = [leafC 1 [97] 5] by simp [hP.out], deep_leaf 1 1 [97] 5 (by omega) (by omega) (by simp), if_pos (by rfl)] at SN
  simp only [List.length_cons, List.length_nil, Nat.zero_add] at SN
  have SN' := hide SN
  have FL := hide fl
  clear SN rc fl
  go_wp2_with fail
  refine SN'.out.mono ?_
  rintro r w8 ⟨rfl, f'⟩
  have f8 := FL.out.trans (f'.mono (by simp))
  clear SN' FL f' c0 c1 c2 c3 c4' c5' c6 c7 c8
  have F8 := hide (F7.out.trans (f8.mono F7.out.size))
  have CB8 := hide (CB7.out.below f8 CB7.out.lt)
  have OK8 := hide (OK7.out.below f8 (Nat.le_refl _))
  have RP8 := hide (RP7.out.below f8 (Nat.le_refl _))
  clear f8 F7 CB7 OK7 RP7
  have SN := sound_any 9 none [] 0 w8 (rc_nil w8)
  rw [List.map_nil, look_none9] at SN
  simp only [List.length_nil, Option.isSome_some, Option.isSome_none] at SN
  have SN' := hide SN
  clear SN
  go_wp2_with fail
  refine SN'.out.mono ?_
  rintro r w9 ⟨rfl, f9⟩
  clear SN'
  have F9 := hide (F8.out.trans (f9.mono F8.out.size))
  have CB9 := hide (CB8.out.below f9 CB8.out.lt)
  have OK9 := hide (OK8.out.below f9 (Nat.le_refl _))
  have RP9 := hide (RP8.out.below f9 (Nat.le_refl _))
  clear f9 F8 CB8 OK8 RP8
  go_wp2_with fail
  go_ret
  exact ⟨rfl, F9.out⟩
end Go.Proofs.Ytnedcoomldmhhaa
