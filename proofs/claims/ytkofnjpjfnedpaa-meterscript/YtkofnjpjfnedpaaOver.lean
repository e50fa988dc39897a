/- OverLongs: what was answered is written over, and beyond. -/
import Derived.Test.YtkofnjpjfnedpaaApp
import Derived.Test.YtkofnjpjfnedpaaRefMeter
namespace Go.Proofs.Ytkofnjpjfnedpaa
open Go.RowKit
set_option linter.unusedVariables false

/-- append of one number, laid into a block of its own, onto a row that is whole. -/
theorem append1_i64 (w : World) (q : Nat) (cs : List Int) (x : Int) (hb : Blk w q 2 (i64s cs)) (hl : cs.length = 12) :
    ∃ v' w', (Builtin.append_ #[35, 35] 35 #[.slice (some ⟨q, 0, none⟩) 12 12, .slice (some ⟨w.heap.size, 0, none⟩) 1 1]).run Try.prog (w.alloc (.cells #[.int .i64 x] 2)) = .ok v' w' ∧ Below q w w' := by
  have hs : Src Try.prog 1 35 (.slice (some ⟨w.heap.size, 0, none⟩) 1 1) 1 [.int .i64 x] (w.alloc (.cells #[.int .i64 x] 2)) :=
    Src.ofSlice _ Try.underlying35 _ 1 1 _ rfl (fun j u hu => by
      have := World.news_of_block (heap_alloc_new w (.cells #[.int .i64 x] 2)) j u
      exact this (by simpa using hu)) (fun u hu => by simp at hu; subst hu; rfl)
  have hq : q < w.heap.size := hb.lt
  have hown : (w.alloc (.cells #[.int .i64 x] 2)).ownsRow q 2 1 (.slice (some ⟨q, 0, none⟩) 12 12) 12 (i64s cs) := by
    have hb' := hb.alloc (.cells #[.int .i64 x] 2)
    have hl' : (i64s cs).length = 12 := by simp [i64s, hl]
    exact ⟨by omega, .inr ⟨q, 12, (i64s cs).toArray, rfl, Nat.le_refl _, hb', Nat.le_refl _, by unfold maxLen; omega, by simpa using hl', by simpa using List.take_of_length_le (Nat.le_of_eq hl')⟩⟩
  obtain ⟨i, h1, h2, h3, h4⟩ := info_i64
  obtain ⟨v', w', r, o, g, _⟩ := run_append_src (P := Try.prog) q 35 35 35 2 i (.int .i64 0) 1 8 Try.underlying35 h1 h2 h3 h4 rfl (by omega) _ 12 _ hown _ 1 _ hs (by unfold maxLen; omega) (by omega) (by simp; omega)
  refine ⟨v', w', r, ?_⟩
  have b1 : Below q w (w.alloc (.cells #[.int .i64 x] 2)) := (Below.refl _ _).alloc (by omega) _
  exact b1.grown g (by simp; omega) (fun k hk => by simp [Value.ownBlock] at hk; omega)

/-- The first n are written over. -/
def over (cs : List Int) (n : Nat) : List Int := List.replicate n (-999) ++ cs.drop n
theorem over_length (cs : List Int) (n : Nat) (h : n ≤ cs.length) : (over cs n).length = cs.length := by simp [over]; omega
theorem over_set (cs : List Int) (n : Nat) (h : n < cs.length) : (over cs n).set n (-999) = over cs (n + 1) := by
  unfold over
  rw [List.set_append_right _ _ (by simp), List.drop_eq_getElem_cons h, List.length_replicate, Nat.sub_self, List.set_cons_zero, List.replicate_succ']
  simp

set_option maxHeartbeats 1600000 in
theorem over_any (q : Nat) (cs : List Int) (w : World) (hb : Blk w q 2 (i64s cs)) (hl : cs.length = 12) :
    Calls Try.prog 19 #[.slice (some ⟨q, 0, none⟩) 12 12] w fun e w' => e = .returned (.tuple #[]) ∧ Below q w w' := by
  have B := hide hb
  clear hb
  go_enter Try.func19, Try.ntmps19
  go_wp2_with fail
  go_loopw [2] (fun v wr => ∃ k : Nat, v = .int .i64 k ∧ k ≤ 12 ∧ Blk wr q 2 (i64s (over cs k)) ∧ Below q w wr) (fun v _ => 12 - (intOf v).toNat)
  case atStart => exact ⟨0, rfl, by omega, by simpa [over] using B.out, Below.refl _ _⟩
  case round =>
    obtain ⟨k, rfl, hk, hbk, hfk⟩ := hrel
    have Bk := hide hbk
    have Fk := hide hfk
    clear hbk hfk
    by_cases hkn : k < 12
    · have hlk : (over cs k).length = 12 := (over_length cs k (by omega)).trans hl
      have hc : wr.cell? ⟨q, k, none⟩ = some (.int .i64 (cAt (over cs k) k)) := (Bk.out.cell k).trans (i64s_get _ k (by omega))
      have hf := Bk.out.frozen k
      have hst := Bk.out.set k (.int .i64 (-999))
      rw [i64s_put, over_set cs k (by omega)] at hst
      have HS := hide hst
      clear hst
      go_wp2
      go_roundw
      case measure => simp only [intOf]; omega
      case rel => exact ⟨k + 1, by go_num, by omega, HS.out, Fk.out.setCell (Nat.le_refl _) _⟩
    · have hk12 : k = 12 := by omega
      subst hk12
      obtain ⟨v', w', r, b'⟩ := append1_i64 wr q (over cs 12) (-999) Bk.out ((over_length cs 12 (by omega)).trans hl)
      have B' := hide b'
      clear b'
      go_wp2_with (at_builtin; refine wpList_append_run rfl _ _ _ _ rfl _ _ _ _ rfl rfl r ?_)
      go_end0
      exact ⟨rfl, Fk.out.trans B'.out⟩
end Go.Proofs.Ytkofnjpjfnedpaa
