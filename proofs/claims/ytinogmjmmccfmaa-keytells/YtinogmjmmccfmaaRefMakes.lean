/- Contracts of the document's own Behind and Least. -/
import Derived.Test.YtinogmjmmccfmaaLend
import Derived.Test.YtinogmjmmccfmaaRefReads
namespace Go.Proofs.Ytinogmjmmccfmaa
open Go.RowKit
set_option linter.unusedVariables false

set_option maxHeartbeats 400000 in
theorem rleast_any (a : Option Addr) (xs : List Int) (ca : Nat) (w : World) (ha : Rd w a xs) (hn : xs.length ≤ 1000000) :
    Calls Try.prog 15 #[.slice a xs.length ca] w fun e w' => ∃ a' c', e = .returned (.slice a' (xs ++ [0]).length c') ∧ Rd w' a' (xs ++ [0]) ∧ Below w.heap.size w w' := by
  obtain ⟨v1, w1, r1, o1, g1, b1, _⟩ := append_u8 w 22 22 w.heap.size (.slice none 0 0) 0 [] (World.ownsRow_nil w _ _ _) _ _ _ (ha.src Try.underlying22 ca) (by omega) (Nat.le_refl _)
  have f1 : Below w.heap.size w w1 := (Below.refl _ _).grown g1 (Nat.le_refl _) (fun k hk => by cases hk)
  obtain ⟨v2, w2, r2, o2, g2, b2, _⟩ := append1_u8 w1 w.heap.size v1 _ _ 0 o1 (by omega) f1.size
  have f2 : Below w.heap.size w w2 := f1.grown g2 f1.size (fun k hk => (o1.lt k hk).1)
  have e : [] ++ u8s xs ++ [Value.int .u8 0] = u8s (xs ++ [0]) := by simp [u8s]
  rw [e] at o2
  obtain ⟨a', c', rfl, hr, _⟩ := owns_rd o2 (fun x hm => by
    simp only [List.mem_append, List.mem_singleton] at hm
    rcases hm with hm | rfl
    · exact ha.1 x hm
    · omega)
  have R := hide hr
  have F := hide f2
  clear o1 o2 g1 g2 b1 b2 f1 f2 e hr ha
  generalize xs ++ [0] = zs at *
  go_enter Try.func15, Try.ntmps15
  go_wp2_with (first | (at_builtin; refine wpList_append_run rfl _ _ _ _ rfl _ _ _ _ rfl rfl r1 ?_) | (at_builtin; refine wpList_append_run rfl _ _ _ _ rfl _ _ _ _ rfl rfl r2 ?_))
  go_ret
  exact ⟨_, _, rfl, R.out, F.out⟩

theorem behind_set' (xs : List Int) (h : 0 < stripN xs xs.length) :
    (u8s (xs.take (stripN xs xs.length))).set (stripN xs xs.length - 1) (.int .u8 (xs.getD (stripN xs xs.length - 1) 0 + 1)) = u8s (behindK xs) := by
  have hle := stripN_le xs xs.length
  have e0 : stripN xs xs.length - xs.length = 0 := by omega
  have e1 : padK xs (stripN xs xs.length) = xs.take (stripN xs xs.length) := by simp [padK, e0]
  rw [← behind_set xs h, e1]

/-- What the document's Behind leaves. -/
def RBehind (w : World) (xs : List Int) (e : Ending) (w' : World) : Prop :=
  (stripN xs xs.length = 0 ∧ e = .returned (.tuple #[.slice none 0 0, .bool false]) ∧ w' = w) ∨
  (0 < stripN xs xs.length ∧ ∃ a' c', e = .returned (.tuple #[.slice a' (behindK xs).length c', .bool true]) ∧ Rd w' a' (behindK xs) ∧ Below w.heap.size w w')

set_option maxHeartbeats 800000 in
theorem rbehind_any (a : Option Addr) (xs : List Int) (ca : Nat) (w : World) (ha : Rd w a xs) (hn : xs.length ≤ 1000000) (hca : xs.length ≤ ca) (hcm : ca ≤ maxLen) :
    Calls Try.prog 12 #[.slice a xs.length ca] w fun e w' => RBehind w xs e w' := by
  have HR := hide ha
  have hle := stripN_le xs xs.length
  have HS := hide fun h => behind_set' xs h
  have HB := hide fun h => behindK_length (xs := xs) h
  have HBB := hide fun h => behindK_bytes ha.1 h
  unfold maxLen at hcm
  obtain ⟨hxb, hxl, hxc⟩ := ha
  have HX : Hid (IsBytes xs) := hxb
  clear hxb
  go_enter Try.func12, Try.ntmps12
  go_wp2_with fail
  go_loop [4] (fun v => ∃ k : Nat, v = .int .i64 k ∧ k ≤ xs.length ∧ stripN xs xs.length = stripN xs k) (fun v => (intOf v).toNat)
  case atStart => exact ⟨xs.length, rfl, Nat.le_refl _, rfl⟩
  case round =>
    obtain ⟨k, rfl, hk, hst⟩ := hrel
    have HT := hide hst
    clear hst
    by_cases h0 : k = 0
    · subst h0
      go_wp2
      go_ret2
      exact .inl ⟨HT.out, rfl, rfl⟩
    · have hk0 : 0 < k := by omega
      have hk1 : (0 : Int) < (k : Int) := by omega
      have hne : ((k : Int) == 0) = false := by simp; omega
      rcases hxc with rfl | ⟨b, off, rfl, hxc⟩
      · simp at hk; omega
      have c1 := hxc (k - 1) (by omega)
      have hb := HX.out.getD (k - 1)
      generalize hx : xs.getD (k - 1) 0 = x at *
      have HXX := hide hx
      clear hx h0 hxc
      by_cases h255 : x = 255
      · have e255 : (x == 255) = true := by simpa using h255
        have H5 := hide h255
        clear h255
        go_wp2
        go_round
        case rel =>
          refine ⟨k - 1, by go_num, by omega, ?_⟩
          rw [HT.out]
          obtain ⟨m, rfl⟩ : ∃ m, k = m + 1 := ⟨k - 1, by omega⟩
          rw [stripN_pos xs m (by rw [← H5.out, ← HXX.out]; simp)]
          simp
        case measure => simp [intOf]; omega
      · have e255 : (x == 255) = false := by simpa using h255
        have hx4 : x ≤ 254 := by omega
        have H5 : Hid (stripN xs xs.length = k) := by
          show _ = _
          rw [HT.out]
          obtain ⟨m, rfl⟩ : ∃ m, k = m + 1 := ⟨k - 1, by omega⟩
          rw [stripN_neg xs m (by intro e; exact h255 (by rw [← e, ← HXX.out]; simp))]
        clear h255
        have htl : (xs.take k).length = k := by simp; omega
        have hsrc := (HR.out.take k).src (P := Try.prog) Try.underlying22 ca
        rw [htl] at hsrc
        obtain ⟨v1, w1, r1, o1, g1, b1, _⟩ := append_u8 w 22 22 w.heap.size (.slice none 0 0) 0 [] (World.ownsRow_nil w _ _ _) _ _ _ hsrc (by omega) (Nat.le_refl _)
        have f1 : Below w.heap.size w w1 := (Below.refl _ _).grown g1 (Nat.le_refl _) (fun k hk => by cases hk)
        simp only [Nat.zero_add, List.nil_append] at o1
        obtain ⟨g, cap, rfl, hg1, hg2⟩ := o1.form hk0
        have c2 := o1.cellAt (k - 1) (by omega)
        rw [u8s_get _ _ (by omega)] at c2
        have e3 : (xs.take k).getD (k - 1) 0 = x := by rw [← HXX.out]; simp [show k - 1 < k by omega]
        rw [e3] at c2
        have hf2 := o1.frozenAt (k - 1)
        have hst := hide (o1.stored (k - 1) (.int .u8 (x + 1)))
        have F1 := hide f1
        clear o1 g1 b1 f1 hsrc htl e3
        go_wp2_with (at_builtin; refine wpList_append_run rfl _ _ _ _ rfl _ _ _ _ rfl rfl r1 ?_)
        go_wp2
        go_ret2
        have hpos : 0 < stripN xs xs.length := by rw [H5.out]; exact hk0
        have hb5 := HB.out hpos
        have hs5 := HS.out hpos
        rw [H5.out] at hb5 hs5
        rw [HXX.out] at hs5
        have ho := hst.out.1
        rw [hs5] at ho
        obtain ⟨a', c', he, hr, _⟩ := owns_rd ho (HBB.out hpos)
        refine .inr ⟨hpos, a', c', by rw [← he]; rfl, hr, F1.out.setCell hg1 _⟩

end Go.Proofs.Ytinogmjmmccfmaa
