/- The document's map: Floor, Ceil. -/
import Derived.Test.YtahlbebkcoofkaaRf9
namespace Go.Proofs.Ytahlbebkcoofkaa.Rf
open Go.RowKit Go.Sort Go.Proofs.Ytahlbebkcoofkaa
set_option linter.unusedVariables false
set_option linter.unusedSimpArgs false
set_option maxRecDepth 20000

set_option maxHeartbeats 1000000 in
theorem ceil_any {g : Nat} {ps : List KV} {K : Nat → Prop} (ka : Option Addr) (kc : Nat) (k : List Int) (w : World) (h : Md g ps K w) (ht : Rd w ka k) :
    Calls Try.prog 49 #[.pointer (some ⟨g, 0, none⟩), .slice ka k.length kc] w fun r w' => Ans w w' (ceilM k ps) r := by
  unfold ceilM
  have hl := rank_le k ps
  have hl2 := MdF.small h
  have f0 : Below w.heap.size w (w.alloc (boxP none 0 0 0)) := (Below.refl _ w).alloc (Nat.le_refl _) _
  have x0 : Blk (w.alloc (boxP none 0 0 0)) w.heap.size 54 [.slice none 0 0, .int .u64 0] := Blk.new w _ _ _ rfl
  have hm := (Md.lies g ps).below h f0
  have ht0 := ht.below f0 (Nat.le_refl _)
  unfold boxP at f0 x0 hm ht0
  generalize hw0 : (w.alloc (.cells #[.slice none 0 0, .int .u64 0] 54 (0, 0))) = w0 at f0 x0 hm ht0
  have U := hide (rank_any ka kc k w0 hm ht0)
  generalize rankM k ps = z at U hl ⊢
  have S := fun w' (f : Below w0.heap.size w0 w') => select_any (z : Int) w' ((Md.lies g ps).below hm f) (by omega) (by omega)
  have HS := hide S
  have F0 := hide f0
  have X0 := hide x0
  clear hm ht0 S f0 x0 h ht hl2
  go_enter Try.func49, Try.ntmps49
  go_wp2_with fail
  refine U.out.mono ?_
  rintro r w1 ⟨rfl, f1⟩
  have S1 := HS.out _ f1
  have F1 := hide f1
  clear f1
  go_wp2_with fail
  refine S1.mono ?_
  rintro r w2 ⟨a, c, rfl, o, hb, f⟩
  have f2 := F1.out.trans (f.mono F1.out.size)
  have x2 := X0.out.below f2 X0.out.lt
  have k0 := x2.cell 0
  have k1 := x2.cell 1
  have k2 := x2.frozen 0
  have k3 := x2.frozen 1
  simp only [List.getElem?_cons_zero, List.getElem?_cons_succ] at k0 k1
  have X2 := hide x2
  have O := hide o
  have HB := hide hb
  have F2 := hide (F0.out.trans (f2.mono F0.out.size))
  have FS : Hid (w.heap.size < w1.heap.size) := by have := F1.out.size; have := X0.out.lt; show _ < _; omega
  obtain ⟨kk, hkk⟩ : ∃ kk, keyO (selM (z : Int) ps) = kk := ⟨_, rfl⟩
  obtain ⟨vv, hvv⟩ : ∃ vv, valO (selM (z : Int) ps) = vv := ⟨_, rfl⟩
  obtain ⟨bb, hbb⟩ : ∃ bb, Option.isSome (selM (z : Int) ps) = bb := ⟨_, rfl⟩
  rw [hkk] at O HB ⊢
  rw [hvv, hbb]
  have HKK := hide hkk
  have HVV := hide hvv
  have HBB := hide hbb
  clear x2 o hb f f2 S1 hw0 hkk hvv hbb
  go_wp2_with fail
  have hbx := X2.out.pair (x' := .slice a kk.length c) (y' := .int .u64 vv)
  refine bodyPost_ret (results_pair2 rfl _ _ w.heap.size _ _ rfl hbx) rfl ?_
  exact ans_box _ _ HKK.out HVV.out HBB.out O.out HB.out F2.out FS.out
set_option maxHeartbeats 1000000 in
theorem floor_any {g : Nat} {ps : List KV} {K : Nat → Prop} (ka : Option Addr) (kc : Nat) (k : List Int) (w : World) (h : Md g ps K w) (ht : Rd w ka k) :
    Calls Try.prog 48 #[.pointer (some ⟨g, 0, none⟩), .slice ka k.length kc] w fun r w' => Ans w w' (floorM k ps) r := by
  have hl := rank_le k ps
  have hl2 := MdF.small h
  have f0 : Below w.heap.size w (w.alloc (boxP none 0 0 0)) := (Below.refl _ w).alloc (Nat.le_refl _) _
  have x0 : Blk (w.alloc (boxP none 0 0 0)) w.heap.size 54 [.slice none 0 0, .int .u64 0] := Blk.new w _ _ _ rfl
  have hm := (Md.lies g ps).below h f0
  have ht0 := ht.below f0 (Nat.le_refl _)
  unfold boxP at f0 x0 hm ht0
  generalize hw0 : (w.alloc (.cells #[.slice none 0 0, .int .u64 0] 54 (0, 0))) = w0 at f0 x0 hm ht0
  have U := find_any ka kc k w0 hm ht0
  unfold floorM
  obtain ⟨rk, hrk⟩ : ∃ rk, rankM k ps = rk := ⟨_, rfl⟩
  rw [hrk] at U hl ⊢
  have S := fun (z : Int) (hz : -1 ≤ z ∧ z ≤ 1000001) w' (f : Below w0.heap.size w0 w') => select_any z w' ((Md.lies g ps).below hm f) (by omega) (by omega)
  have HS := hide S
  have F0 := hide f0
  have X0 := hide x0
  clear hm ht0 S f0 x0 h ht hrk
  cases hin : isIn k ps with
  | true =>
    rw [hin] at U
    have HU := hide U
    obtain ⟨o, ho⟩ : ∃ o, selM (if true = true then (rk : Int) else (rk : Int) - 1) ps = o := ⟨_, rfl⟩
    rw [ho]
    have ho' : selM (rk : Int) ps = o := by rw [← ho]; rfl
    have HS1 := hide (fun w' f => (by have := HS.out (rk : Int) (by omega) w' f; rwa [ho'] at this : Calls Try.prog 51 #[.pointer (some ⟨g, 0, none⟩), .int .i64 (rk : Int)] w' fun r w'' => Ans w' w'' o r))
    clear HS ho ho' U hin
    go_enter Try.func48, Try.ntmps48
    go_wp2_with fail
    refine HU.out.mono ?_
    rintro r w1 ⟨rfl, f1⟩
    have S1 := HS1.out _ f1
    have F1 := hide f1
    clear f1
    go_wp2_with fail
    refine S1.mono ?_
    rintro r w2 ⟨a, c, rfl, o2, hb, f⟩
    have f2 := F1.out.trans (f.mono F1.out.size)
    have x2 := X0.out.below f2 X0.out.lt
    have k0 := x2.cell 0
    have k1 := x2.cell 1
    have k2 := x2.frozen 0
    have k3 := x2.frozen 1
    simp only [List.getElem?_cons_zero, List.getElem?_cons_succ] at k0 k1
    have X2 := hide x2
    have O := hide o2
    have HB := hide hb
    have F2 := hide (F0.out.trans (f2.mono F0.out.size))
    have FS : Hid (w.heap.size < w1.heap.size) := by have := F1.out.size; have := X0.out.lt; show _ < _; omega
    obtain ⟨kk, hkk⟩ : ∃ kk, keyO o = kk := ⟨_, rfl⟩
    obtain ⟨vv, hvv⟩ : ∃ vv, valO o = vv := ⟨_, rfl⟩
    obtain ⟨bb, hbb⟩ : ∃ bb, Option.isSome o = bb := ⟨_, rfl⟩
    rw [hkk] at O HB ⊢
    rw [hvv, hbb]
    have HKK := hide hkk
    have HVV := hide hvv
    have HBB := hide hbb
    clear x2 o2 hb f f2 S1 hw0 hkk hvv hbb
    go_wp2_with fail
    have hbx := X2.out.pair (x' := .slice a kk.length c) (y' := .int .u64 vv)
    refine bodyPost_ret (results_pair2 rfl _ _ w.heap.size _ _ rfl hbx) rfl ?_
    exact ans_box _ _ HKK.out HVV.out HBB.out O.out HB.out F2.out FS.out
  | false =>
    rw [hin] at U
    have HU := hide U
    obtain ⟨o, ho⟩ : ∃ o, selM (if false = true then (rk : Int) else (rk : Int) - 1) ps = o := ⟨_, rfl⟩
    rw [ho]
    have ho' : selM ((rk : Int) - 1) ps = o := by rw [← ho]; rfl
    have HS1 := hide (fun w' f => (by have := HS.out ((rk : Int) - 1) (by omega) w' f; rwa [ho'] at this : Calls Try.prog 51 #[.pointer (some ⟨g, 0, none⟩), .int .i64 ((rk : Int) - 1)] w' fun r w'' => Ans w' w'' o r))
    clear HS ho ho' U hin
    go_enter Try.func48, Try.ntmps48
    go_wp2_with fail
    refine HU.out.mono ?_
    rintro r w1 ⟨rfl, f1⟩
    have S1 := HS1.out _ f1
    have F1 := hide f1
    clear f1
    go_wp2_with fail
    refine S1.mono ?_
    rintro r w2 ⟨a, c, rfl, o2, hb, f⟩
    have f2 := F1.out.trans (f.mono F1.out.size)
    have x2 := X0.out.below f2 X0.out.lt
    have k0 := x2.cell 0
    have k1 := x2.cell 1
    have k2 := x2.frozen 0
    have k3 := x2.frozen 1
    simp only [List.getElem?_cons_zero, List.getElem?_cons_succ] at k0 k1
    have X2 := hide x2
    have O := hide o2
    have HB := hide hb
    have F2 := hide (F0.out.trans (f2.mono F0.out.size))
    have FS : Hid (w.heap.size < w1.heap.size) := by have := F1.out.size; have := X0.out.lt; show _ < _; omega
    obtain ⟨kk, hkk⟩ : ∃ kk, keyO o = kk := ⟨_, rfl⟩
    obtain ⟨vv, hvv⟩ : ∃ vv, valO o = vv := ⟨_, rfl⟩
    obtain ⟨bb, hbb⟩ : ∃ bb, Option.isSome o = bb := ⟨_, rfl⟩
    rw [hkk] at O HB ⊢
    rw [hvv, hbb]
    have HKK := hide hkk
    have HVV := hide hvv
    have HBB := hide hbb
    clear x2 o2 hb f f2 S1 hw0 hkk hvv hbb
    go_wp2_with fail
    have hbx := X2.out.pair (x' := .slice a kk.length c) (y' := .int .u64 vv)
    refine bodyPost_ret (results_pair2 rfl _ _ w.heap.size _ _ rfl hbx) rfl ?_
    exact ans_box _ _ HKK.out HVV.out HBB.out O.out HB.out F2.out FS.out
end Go.Proofs.Ytahlbebkcoofkaa.Rf
