/- More of what makes bytes: one byte more. -/
import Derived.Test.YtinogmjmmccfmaaMakes
namespace Go.Proofs.Ytinogmjmmccfmaa
open Go.RowKit
set_option linter.unusedVariables false

/-- append of one byte that was laid into a block of its own. -/
theorem append1_u8 (w : World) (base : Nat) (v : Value) (n : Nat) (xs : List Value) (x : Int) (hown : w.ownsRow base 5 1 v n xs) (hb : n + 1 ≤ 140737488355328) (hbase : base ≤ w.heap.size) :
    ∃ v' w', (Builtin.append_ #[22, 22] 22 #[v, .slice (some ⟨w.heap.size, 0, none⟩) 1 1]).run Try.prog (w.alloc (.cells #[.int .u8 x] 5)) = .ok v' w' ∧
      w'.ownsRow base 5 1 v' (n + 1) (xs ++ [.int .u8 x]) ∧ w.grownBy w' v.ownBlock ∧ (v'.ownBlock = v.ownBlock ∨ v'.ownBlock = some (w.heap.size + 1)) ∧ w'.ownsRow base 5 1 v n xs := by
  have hs : Src Try.prog 1 22 (.slice (some ⟨w.heap.size, 0, none⟩) 1 1) 1 [.int .u8 x] (w.alloc (.cells #[.int .u8 x] 5)) :=
    Src.ofSlice _ Try.underlying22 _ 1 1 _ rfl (fun j u hu => by
      have := World.news_of_block (heap_alloc_new w (.cells #[.int .u8 x] 5)) j u
      exact this (by simpa using hu)) (fun u hu => by simp at hu; subst hu; rfl)
  obtain ⟨v', w', r, o, g, b, _, hk⟩ := append_u8 (w.alloc (.cells #[.int .u8 x] 5)) 22 22 base v n xs (hown.alloc _) _ 1 _ hs hb (by simp; omega)
  refine ⟨v', w', r, o, ⟨g.os, g.tape, g.output, ?_, fun k hk hne => ?_⟩, by simpa using b, hk⟩
  · have := g.size; simp at this; omega
  · rw [g.block k (by simp; omega) hne]
    exact Below.heap_alloc _ _ _ hk

/-- What is owned stays so where nothing that was there turns. -/
theorem _root_.Go.World.ownsRow.below {w w' : World} {base : Nat} {e : TypeId} {size : Nat} {v : Value} {n : Nat} {xs : List Value} (h : w.ownsRow base e size v n xs) {B : Nat} (k : Below B w w') (hB : w.heap.size ≤ B) : w'.ownsRow base e size v n xs := by
  refine ⟨h.1, ?_⟩
  rcases h.2 with h | ⟨g, cap, cur, hv, hb, hg, h1, h2, h3, h4⟩
  · exact .inl h
  · exact .inr ⟨g, cap, cur, hv, hb, by rw [k.block g (by have := block_lt hg; omega)]; exact hg, h1, h2, h3, h4⟩

/-- append at a list of operations where its guard lets it, by its run. -/
theorem wpList_append_run' {P : Program} {w : World} {ops : Array Oper} {rest : List Oper} {o : Oper} {a : Act} {Q : Exit → Act → World → Prop} (hgd : Region.wanted o (yielded ops a.tmps) = true) (s x : Operand) (t tx : TypeId)
    (ho : o.op = .call { callee := .builtin .append, args := #[s, x], argTypes := #[t, tx] }) (v x' v' : Value) (w' : World) (hs : a.eval s = v) (hx : a.eval x = x')
    (hr : (Builtin.append_ #[t, tx] o.type #[v, x']).run P w = .ok v' w') (h : wpList P ops Q rest (a.put o.dst v') w') : wpList P ops Q (o :: rest) a w := by
  refine wpList_step fun K hK => ?_
  simp only [hgd, if_true]
  unfold Oper.wp execOp
  simp only [ho, resolve, invoke, builtin, Sem.run_bind, Sem.run_pure, Result.andThen_ok, List.map_toArray, List.map_cons, List.map_nil, hs, hx, hr]
  exact hK _ _ h

end Go.Proofs.Ytinogmjmmccfmaa
