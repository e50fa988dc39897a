/- shape.Sound, Deep. -/
import Derived.Test.YtnedcoomldmhhaaTr19
namespace Go.Proofs.Ytnedcoomldmhhaa
set_option maxRecDepth 20000
open Go.RowKit Go.Sort
set_option linter.unusedVariables false
set_option linter.unusedSimpArgs false

set_option maxHeartbeats 1600000 in
theorem sound_any (tag : Int) (a : Option Addr) (cs : List Cel) (k : Nat) (w : World) (h : Rc w a cs) :
    Calls Try.prog 15 #[.int .i64 tag, .slice a cs.length k] w fun r w' => r = .returned (.bool (lookP tag (cs.map Cel.pure)).isSome) ∧ Below w.heap.size w w' := by
  have L := hide (look_any tag a cs k w h)
  clear h
  go_enter Try.func15, Try.ntmps15
  go_wp2_with fail
  refine L.out.mono ?_
  rintro r w1 ⟨b, a1, n1, k1, a2, n2, k2, rfl, hc, f⟩
  have F := hide f
  have HC := hide hc
  clear f hc
  have F2 : Hid (Below w.heap.size w (w1.alloc (.cells #[.slice a1 n1 k1, .slice a2 n2 k2] 61 (0, 0)))) := F.out.alloc F.out.size _
  go_wp2_with fail
  go_ret
  refine ⟨ret_bool ?_, F2.out⟩
  rcases HC.out with ⟨rfl, h⟩ | ⟨rfl, ss, g, h, _⟩
  · rw [h]; rfl
  · rw [h]; rfl
def deepUp (ss : List Sp) (k : Nat) : Int := (ss.take k).foldl (fun m s => max m s.deep) 0
theorem deepUp_succ (ss : List Sp) (k : Nat) (h : k < ss.length) : deepUp ss (k + 1) = max (deepUp ss k) (sAt ss k).deep := by
  unfold deepUp
  rw [List.take_add_one, List.getElem?_eq_getElem h]
  simp only [Option.toList_some, List.foldl_append, List.foldl_cons, List.foldl_nil]
  simp [sAt, List.getD_eq_getElem?_getD, List.getElem?_eq_getElem h]
def deepP (tag : Int) (cs : List PC) : Int := match lookP tag cs with
  | none => 0
  | some ss => deepUp ss ss.length
theorem deepUp_range (cs : List PC) (ss : List Sp) (L : Lok cs ss) (hl : ss.length = cs.length) : ∀ k, k ≤ ss.length → 0 ≤ deepUp ss k ∧ deepUp ss k ≤ k
  | 0, _ => by simp [deepUp]
  | k + 1, h => by
    have ih := deepUp_range cs ss L hl k (by omega)
    have := L.deep k (by omega)
    rw [deepUp_succ ss k (by omega)]
    omega
theorem lookP_lok {tag : Int} {cs : List PC} {ss : List Sp} (h : lookP tag cs = some ss) : Lok cs ss ∧ ss.length = cs.length := by
  unfold lookP at h
  split at h
  · simp at h
  · split at h
    · simp at h
    · rename_i hl
      split at h
      · simp at h
      · split at h
        · simp at h
        · simp at h
          subst h
          exact Lok.of hl
set_option maxHeartbeats 1600000 in
theorem deep_any (tag : Int) (a : Option Addr) (cs : List Cel) (k : Nat) (w : World) (h : Rc w a cs) :
    Calls Try.prog 18 #[.int .i64 tag, .slice a cs.length k] w fun r w' => r = .returned (.int .i64 (deepP tag (cs.map Cel.pure))) ∧ Below w.heap.size w w' := by
  have hn := h.1
  have L := hide (look_any tag a cs k w h)
  clear h
  go_enter Try.func18, Try.ntmps18
  go_wp2_with fail
  refine L.out.mono ?_
  rintro r w1 ⟨b, a1, n1, k1, a2, n2, k2, rfl, hc, f⟩
  have F := hide f
  clear f
  rcases hc with ⟨rfl, h⟩ | ⟨rfl, ss, g, h, ⟨rfl, rfl, rfl, rfl, rfl, rfl⟩, hg, hsp⟩
  · have hd : Hid (deepP tag (cs.map Cel.pure) = 0) := by show _ = _; unfold deepP; rw [h]
    have F2 : Hid (Below w.heap.size w (w1.alloc (.cells #[.slice a1 n1 k1, .slice a2 n2 k2] 61 (0, 0)))) := F.out.alloc F.out.size _
    go_wp2_with fail
    go_ret
    exact ⟨ret_int hd.out.symm, F2.out⟩
  · obtain ⟨hL, hln⟩ := lookP_lok h
    rw [List.length_map] at hln
    have hd : Hid (deepP tag (cs.map Cel.pure) = deepUp ss ss.length) := by show _ = _; unfold deepP; rw [h]
    have f0 : Below w1.heap.size w1 (w1.alloc (.cells #[.slice a1 cs.length k1, .slice (some ⟨g, 0, none⟩) cs.length cs.length] 61 (0, 0))) := (Below.refl _ _).alloc (Nat.le_refl _) _
    have F2 := hide (F.out.trans (f0.mono F.out.size))
    have S2 := hide (Blk.below hsp f0 (Blk.lt hsp))
    have HL := hide hL
    clear f0 hsp hL F
    have hlen := hln
    have hrg := deepUp_range _ ss HL.out (by rw [hln, List.length_map])
    have HRG := hide hrg
    clear hrg
    go_wp2_with fail
    generalize World.alloc _ _ = w2 at F2 S2 ⊢
    go_loopw [7, 21] (fun vd vi wr => ∃ i : Nat, vi = .int .i64 i ∧ vd = .int .i64 (deepUp ss i) ∧ i ≤ cs.length ∧ Hid (Below w.heap.size w wr) ∧ Hid (Blk wr g 67 (ss.flatMap Sp.vals))) (fun _ vi _ => (cs.length - intOf vi).toNat)
    case atStart => exact ⟨0, rfl, rfl, by omega, F2.out, S2.out⟩
    case round =>
      clear F2 S2
      obtain ⟨i, rfl, rfl, hi, F, S⟩ := hrel
      have hd1 := HRG.out i (by omega)
      by_cases hin : i < cs.length
      · obtain ⟨s0, s1, s2, s3⟩ := Sps.cells S.out (i := i) (by omega)
        have hd2 := HL.out.deep i (by simpa using hin)
        have hsu := hide (deepUp_succ ss i (by omega))
        have hmax : ∀ ts t w, (Builtin.max_ ts t #[.int .i64 (deepUp ss i), .int .i64 (sAt ss i).deep]).run Try.prog w = .ok (.int .i64 (max (deepUp ss i) (sAt ss i).deep)) w := fun ts t w => by
          rw [run_max_int2]
          congr 2
          split <;> omega
        have F3 : Hid (∀ o, Below w.heap.size w (wr.alloc o)) := fun o => F.out.alloc F.out.size o
        have S3 : Hid (∀ o, Blk (wr.alloc o) g 67 (ss.flatMap Sp.vals)) := fun o => Blk.alloc S.out o
        generalize deepUp ss i = dv at *
        generalize sAt ss i = sv at *
        go_wp2_with fail
        go_roundw
        case rel => exact ⟨i + 1, by go_num, by rw [hsu.out], by omega, F3.out _, S3.out _⟩
        case measure => simp [intOf]; omega
      · obtain rfl : i = cs.length := by omega

        go_wp2_with fail
        go_ret
        exact ⟨ret_int (by rw [hd.out, hlen]), F.out⟩
end Go.Proofs.Ytnedcoomldmhhaa
