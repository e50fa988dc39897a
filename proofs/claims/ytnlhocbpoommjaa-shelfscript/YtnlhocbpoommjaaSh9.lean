/- A shelf's New. -/
import Derived.Test.YtnlhocbpoommjaaSh7
import Derived.Test.YtnlhocbpoommjaaLs8
namespace Go.Proofs.Ytnlhocbpoommjaa.Sh
open Go.RowKit Go.Sort Go.Proofs.Ytnlhocbpoommjaa
set_option linter.unusedVariables false
set_option maxRecDepth 20000

/-- A list of one's own makes a map. -/
theorem lst_map {B : Nat} {w w' : World} {v : Value} {fs : List Ent} {ps : List KV} {g : Nat} (l : Lst B w v fs) (hg : Blk w' g 92 [v]) (hB : B ≤ g) (f : Below w.heap.size w w') (hk : fs.map Ent.kv = ps) (hu : Ups ps) (hl : ∀ e ∈ fs, e.k.length ≤ 65535) (hBw : B ≤ w.heap.size) : Md g ps (fun k => k < B) w' := by
  have l' := l.below f
  refine ⟨fun k => B ≤ k ∧ k < w'.heap.size, v, fs, ⟨fun k hk => ⟨by omega, hk.2⟩, fun k hk => by have := f.size; omega, ⟨hB, hg.lt⟩, hg, ?_, fun k hk => l'.row.lt k hk, fun e he => ?_, hk, hu, l.ln, fun e he => by obtain ⟨b, h1, h2, h3, h4, h5⟩ := l'.own.ks e he; exact h4⟩⟩
  · refine ⟨l'.row.1, ?_⟩
    rcases l'.row.2 with h | ⟨g, cap, cur, h1, h2, h3⟩
    · exact .inl h
    · exact .inr ⟨g, cap, cur, h1, by omega, h3⟩
  · obtain ⟨b, h1, h2, h3, h4, h5, h6, h7⟩ := l'.own.ks e he
    refine ⟨⟨l'.own.rd he, .inr ⟨b, 0, h1, ⟨h2, h3.lt⟩, fun e => blk_apart hg h3 (by decide) e.symm, owns_apart l'.row h3 (by decide)⟩⟩, hl e he, h7⟩
set_option maxHeartbeats 1000000 in
theorem tooLong_not (e : Ent) (w : World) (he : e.k.length ≤ 65535) :
    Calls Try.prog 74 #[.agg #[.slice e.a e.k.length e.c, .int .u64 e.v]] w fun r w' => r = .returned (.bool false) ∧ Below w.heap.size w w' := by
  obtain ⟨ea, ec, ek, ev⟩ := e
  simp only at he ⊢
  have M := fun w' => may_any ea ek.length ec w' (by unfold maxLen; omega)
  have hd : decide ((ek.length : Int) ≤ 65535) = true := by simp; omega
  rw [hd] at M
  have HM := hide M
  clear M hd
  go_enter Try.func74, Try.ntmps74
  go_wp2_with fail
  refine (HM.out _).mono ?_
  rintro r w1 ⟨rfl, hw⟩
  subst hw
  go_wp2
  go_ret
  exact ⟨rfl, (Below.refl _ w).alloc (Nat.le_refl _) _⟩
set_option maxHeartbeats 1000000 in
theorem indexFunc_none (es : List Ent) (a : Option Addr) (c : Nat) (w : World) (h : Rp w a es) (hk : ∀ e ∈ es, e.k.length ≤ 65535) :
    Calls Try.prog 79 #[.slice a es.length c, .func (.func 74) #[] #[]] w fun r w' => r = .returned (.int .i64 (-1)) ∧ Below w.heap.size w w' := by
  have hn := h.1
  have H := hide h
  have HK := hide hk
  have eg : ∀ args w, (callFunc 74 args).run Try.prog w = .ok (.enter 74 args) w := enters_of Try.func74 (by kernel_rfl) rfl
  clear h hk
  go_enter Try.func79, Try.ntmps79
  go_wp2_with fail
  go_loopw [8] (fun vi wr => ∃ i : Nat, vi = .int .i64 i ∧ i ≤ es.length ∧ Hid (Below w.heap.size w wr)) (fun vi _ => (es.length - intOf vi).toNat)
  case atStart => exact ⟨0, rfl, by omega, Below.refl _ _⟩
  case round =>
    obtain ⟨i, rfl, hi, F⟩ := hrel
    by_cases hin : i < es.length
    · obtain ⟨e, he⟩ : ∃ e, es[i]? = some e := ⟨es[i], List.getElem?_eq_getElem hin⟩
      obtain ⟨b, off, rfl, c0, c1⟩ := (H.out.below F.out (Nat.le_refl _)).cells he
      have C := tooLong_not e wr (HK.out e (List.mem_of_getElem? he))
      clear he
      go_wp2_with fail
      refine C.mono ?_
      rintro r w2 ⟨rfl, f⟩
      have F2 := hide (F.out.trans (f.mono F.out.size))
      clear f C c0 c1
      go_wp2
      go_roundw
      case rel => exact ⟨i + 1, by go_num, by omega, F2⟩
      case measure => simp [intOf]; omega
    · go_wp2
      go_ret
      exact ⟨rfl, F.out⟩
/-- Keys that rise one behind the other rise. -/
theorem ups_of_rises : ∀ ps : List KV, risesB ps = true → Ups ps
  | [], _ => List.Pairwise.nil
  | [p], _ => List.pairwise_singleton _ _
  | p :: q :: ps, h => by
    have h1 := (risesB_iff _).1 h
    have hq : Ups (q :: ps) := ups_of_rises (q :: ps) ((risesB_iff _).2 (fun i x y hx hy => h1 (i + 1) x y hx hy))
    have hpq : cmpK p.1 q.1 < 0 := h1 0 p q rfl rfl
    refine List.Pairwise.cons (fun x hx => ?_) hq
    rcases List.mem_cons.1 hx with rfl | hx
    · exact hpq
    · have := (List.pairwise_cons.1 hq).1 x hx
      exact cmpK_le_lt hpq (by omega)
set_option maxHeartbeats 1000000 in
theorem contains_none (es : List Ent) (a : Option Addr) (c : Nat) (w : World) (h : Rp w a es) (hk : ∀ e ∈ es, e.k.length ≤ 65535) :
    Calls Try.prog 73 #[.slice a es.length c, .func (.func 74) #[] #[]] w fun r w' => r = .returned (.bool false) ∧ Below w.heap.size w w' := by
  have C := hide (indexFunc_none es a c w h hk)
  clear h hk
  go_enter Try.func73, Try.ntmps73
  go_wp2_with fail
  refine C.out.mono ?_
  rintro r w2 ⟨rfl, f⟩
  have F := hide f
  clear f
  go_wp2
  go_ret
  exact ⟨rfl, F.out⟩
set_option maxHeartbeats 1000000 in
theorem new_many (es : List Ent) (a : Option Addr) (c : Nat) (w : World) (h : Rp w a es) (hn : 8 < es.length) :
    Calls Try.prog 40 #[.slice a es.length c] w fun r w' => r = .returned (.pointer none) ∧ Below w.heap.size w w' := by
  have hl := h.1
  have hd : decide ((8 : Int) < ((es.length : Nat) : Int)) = true := by simp; omega
  clear h
  go_enter Try.func40, Try.ntmps40
  go_wp2
  go_ret
  exact ⟨rfl, Below.refl _ _⟩
set_option maxHeartbeats 1000000 in
theorem new_falls (es : List Ent) (a : Option Addr) (c : Nat) (w : World) (h : Rp w a es) (hk : ∀ e ∈ es, e.k.length ≤ 65535) (hn : es.length ≤ 8) (hr : risesB (es.map Ent.kv) = false) :
    Calls Try.prog 40 #[.slice a es.length c] w fun r w' => r = .returned (.pointer none) ∧ Below w.heap.size w w' := by
  have C := hide (contains_none es a c w h hk)
  have R := fun w' (f : Below w.heap.size w w') => rises_any es a c w' (h.below f (Nat.le_refl _))
  rw [hr] at R
  have HR := hide R
  have hd : decide ((8 : Int) < ((es.length : Nat) : Int)) = false := by simp; omega
  clear h hk R hr
  go_enter Try.func40, Try.ntmps40
  go_wp2_with fail
  refine C.out.mono ?_
  rintro r w1 ⟨rfl, f1⟩
  have R1 := HR.out _ f1
  have F1 := hide f1
  clear f1
  go_wp2_with fail
  refine R1.mono ?_
  rintro r w2 ⟨rfl, f2⟩
  have F2 := hide (F1.out.trans (f2.mono F1.out.size))
  clear f2
  go_wp2
  go_ret
  exact ⟨rfl, F2.out⟩
set_option maxHeartbeats 1000000 in
theorem new_ok (es : List Ent) (a : Option Addr) (c : Nat) (w : World) (h : Rp w a es) (hk : ∀ e ∈ es, e.k.length ≤ 65535) (hn : es.length ≤ 8) (hr : risesB (es.map Ent.kv) = true) :
    Calls Try.prog 40 #[.slice a es.length c] w fun r w' => ∃ g, r = .returned (.pointer (some ⟨g, 0, none⟩)) ∧ Md g (es.map Ent.kv) (fun k => k < w.heap.size) w' ∧ Below w.heap.size w w' := by
  have C := hide (contains_none es a c w h hk)
  have R := fun w' (f : Below w.heap.size w w') => rises_any es a c w' (h.below f (Nat.le_refl _))
  have O := fun w' (f : Below w.heap.size w w') => copies_l es a c w' (h.below f (Nat.le_refl _)) (fun e he => by have := hk e he; omega)
  rw [hr] at R
  have HR := hide R
  have HO := hide O
  have hd : decide ((8 : Int) < ((es.length : Nat) : Int)) = false := by simp; omega
  have HU := hide (ups_of_rises _ hr)
  have HL : Hid (∀ p ∈ es.map Ent.kv, p.1.length ≤ 65535) := by
    intro p hp
    obtain ⟨e, he, rfl⟩ := List.mem_map.1 hp
    exact hk e he
  clear h hk R O hr
  go_enter Try.func40, Try.ntmps40
  go_wp2_with fail
  refine C.out.mono ?_
  rintro r w1 ⟨rfl, f1⟩
  have R1 := HR.out _ f1
  have F1 := hide f1
  clear f1
  go_wp2_with fail
  refine R1.mono ?_
  rintro r w2 ⟨rfl, f2⟩
  have f2' := F1.out.trans (f2.mono F1.out.size)
  have O1 := HO.out _ f2'
  have F2 := hide f2'
  clear f2 f2' R1
  go_wp2_with fail
  refine O1.mono ?_
  rintro r w3 ⟨a', c', fs, rfl, l, k, f⟩
  have L := hide l
  have HK := hide k
  have F3 := hide (F2.out.trans (f.mono F2.out.size))
  have F4 := hide f.size
  clear l k f O1
  go_wp2
  go_ret
  have fs2 := F2.out.size
  refine ⟨w3.heap.size, rfl, lst_map (L.out.down fs2) (Blk.new w3 _ _ _ rfl) (by have := F4.out; omega) ((Below.refl _ w3).alloc (Nat.le_refl _) _) HK.out HU.out (fun e he => ?_) (by have := F4.out; omega), F3.out.alloc F3.out.size _⟩
  have h1 := HL.out e.kv (by rw [← HK.out]; exact List.mem_map_of_mem he)
  exact h1
end Go.Proofs.Ytnlhocbpoommjaa.Sh
