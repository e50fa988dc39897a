/- A list of handles that a law keeps beside a shape. -/
import Derived.Test.YtaoabjcbolncoaaAwake6
import Derived.Test.YtaoabjcbolncoaaLow6
namespace Go.Proofs.Ytaoabjcbolncoaa
open Go.RowKit
set_option linter.unusedVariables false

/-- What a law keeps: all that was there at first, and a list of its own. -/
def KB (B : Nat) (v : Value) (k : Nat) : Prop := k < B ∨ v.ownBlock = some k
/-- The law's own list grows: the shape stands. -/
theorem Lies.app {A : Shape} (L : Lies A) {B : Nat} {w w' : World} {v v' : Value} {o : Obj} {e e' : TypeId} {n n' : Nat} {xs xs' : List Value} (h : A (KB B v) w) (hB : B ≤ w.heap.size)
    (ow : w.ownsRow B e 1 v n xs) (gr : (w.alloc o).grownBy w' v.ownBlock) (hv : v'.ownBlock = v.ownBlock ∨ v'.ownBlock = some (w.heap.size + 1)) (ow' : w'.ownsRow B e' 1 v' n' xs') : A (KB B v') w' ∧ Kp (fun k => k < B) w w' := by
  have k1 : Kp (fun k => v.ownBlock ≠ some k) w w' := ((Kp.refl _ w).alloc o).grown gr (fun k hk hn => hn hk)
  have A := L.kpmore h k1 (fun k _ hk e => hk (.inr e))
  refine ⟨L.weaken A ?_, k1.mono (fun k hk e => ?_)⟩
  · rintro k (hk | hk)
    · exact .inl (.inl hk)
    · rcases hv with hv | hv
      · exact .inl (.inr (hv ▸ hk))
      · refine .inr ⟨?_, (ow'.lt k hk).2⟩
        rw [hv] at hk
        simp at hk
        omega
  · have := (ow.lt k e).1
    omega
theorem KB.nil (B k : Nat) : KB B (.slice none 0 0) k ↔ k < B := by simp [KB, Value.ownBlock]
theorem Lies.kb0 {A : Shape} (L : Lies A) {B : Nat} {w : World} (h : A (fun k => k < B) w) : A (KB B (.slice none 0 0)) w := L.weaken h (fun k hk => (KB.nil B k).1 hk)
theorem Kp.kb {B : Nat} {v : Value} {w w' : World} (h : Kp (KB B v) w w') : Kp (fun k => k < B) w w' := h.mono (fun k hk => .inl hk)
theorem owns_kb {B : Nat} {w w' : World} {base : Nat} {e : TypeId} {size : Nat} {v : Value} {n : Nat} {xs : List Value} (h : w.ownsRow base e size v n xs) (k : Kp (KB B v) w w') : w'.ownsRow base e size v n xs := owns_kp h k (fun b hb => .inr hb)
/-- append of one handle. -/
theorem append_u32 (w : World) (B : Nat) (v : Value) (hs : List Nat) (x : Int) (n : Nat) (hx : x = (n : Int)) (ow : w.ownsRow B 28 1 v hs.length (u32s hs)) (hl : hs.length ≤ 1048576) (hB : B ≤ w.heap.size) :
    ∃ a cap w', (Builtin.append_ #[45, 45] 45 #[v, .slice (some ⟨w.heap.size, 0, none⟩) 1 1]).run Try.prog (w.alloc (.cells #[.int .u32 x] 28)) = .ok (.slice a (hs.length + 1) cap) w' ∧
      w'.ownsRow B 28 1 (.slice a (hs.length + 1) cap) (hs ++ [n]).length (u32s (hs ++ [n])) ∧ (w.alloc (.cells #[.int .u32 x] 28)).grownBy w' v.ownBlock ∧ (Value.ownBlock (.slice a (hs.length + 1) cap) = v.ownBlock ∨ Value.ownBlock (.slice a (hs.length + 1) cap) = some (w.heap.size + 1)) := by
  subst hx
  obtain ⟨i, i1, i2, i3, i4⟩ := info_u32
  obtain ⟨v', w', r, o, gr, hv⟩ := append_lit (P := Try.prog) w B 45 28 i _ 1 4 Try.underlying45 i1 i2 i3 i4 rfl (by omega) v _ _ ow [.int .u32 (n : Int)] rfl (by
    intro u hu
    simp at hu
    subst hu
    rfl) (by omega) (by omega) hB
  obtain ⟨a, cap, rfl⟩ := owns_slice' o
  exact ⟨a, cap, w', r, by simpa [u32s] using o, gr, hv⟩
def handK (k : Nat) : List Nat := (List.range k).map (· + 1)
theorem handK_length (k : Nat) : (handK k).length = k := by simp [handK]
theorem handK_succ (k : Nat) : handK k ++ [k + 1] = handK (k + 1) := by simp [handK, List.range_succ]
theorem handK_get (k j : Nat) (h : j < k) : (u32s (handK k))[j]? = some (.int .u32 ((j : Int) + 1)) := by simp [u32s, handK, h]
end Go.Proofs.Ytaoabjcbolncoaa
