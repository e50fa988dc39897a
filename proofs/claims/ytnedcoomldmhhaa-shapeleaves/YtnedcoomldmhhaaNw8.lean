/- New. -/
import Derived.Test.YtnedcoomldmhhaaNw7
import Derived.Test.YtnedcoomldmhhaaOf7
import Derived.Deep.DeepCutAuto
import Derived.Deep.CutBlock
import Derived.Deep.LoopGhost
import Derived.Deep.RegionLaw
namespace Go.Proofs.Ytnedcoomldmhhaa
set_option maxRecDepth 20000
open Go.RowKit Go.Sort
set_option linter.unusedVariables false

theorem flat_tc (X : List Tg) : flat tc X = flat Ent.cells (X.map Prod.fst) := by
  induction X with
  | nil => rfl
  | cons x X ih => simp only [flat, List.map_cons, ih]; rfl
theorem zip_fst (es : List Ent) : es.zipIdx.map Prod.fst = es := List.zipIdx_map_fst 0 es

theorem step_append_run {P : Program} {w : World} {ops : Array Oper} {o : Oper} {a : Act} {K : Act → World → Prop} {Q : Exit → Act → World → Prop} {E : Prop} (hgd : Region.wanted o (yielded ops a.tmps) = true) (s x : Operand) (t tx : TypeId)
    (ho : o.op = .call { callee := .builtin .append, args := #[s, x], argTypes := #[t, tx] }) (v x' v' : Value) (w' : World) (hs : a.eval s = v) (hx : a.eval x = x')
    (hr : (Builtin.append_ #[t, tx] o.type #[v, x']).run P w = .ok v' w') (h : K (a.put o.dst v') w') : if Region.wanted o (yielded ops a.tmps) = true then Oper.wp P o a w K Q else E := by
  rw [if_pos hgd]
  unfold Oper.wp execOp
  simp only [ho, resolve, invoke, builtin, Sem.run_bind, Sem.run_pure, Result.andThen_ok, List.map_toArray, List.map_cons, List.map_nil, hs, hx, hr]
  exact h
/-- Is the pair at i the last one of its key? -/
def isLast (ps : List KV) (i : Nat) : Bool := decide ((ps[i + 1]?).map Prod.fst ≠ (ps[i]?).map Prod.fst)
theorem lastsK_drop {ps : List KV} {i : Nat} {p : KV} (hp : ps[i]? = some p) : lastsK (ps.drop i) = if isLast ps i then p :: lastsK (ps.drop (i + 1)) else lastsK (ps.drop (i + 1)) := by
  have hi : i < ps.length := (List.getElem?_eq_some_iff.1 hp).1
  have hpe : ps[i] = p := (List.getElem?_eq_some_iff.1 hp).2
  unfold isLast
  rw [List.drop_eq_getElem_cons hi, hpe, hp]
  by_cases h1 : i + 1 < ps.length
  · rw [List.drop_eq_getElem_cons h1, List.getElem?_eq_getElem h1]
    simp only [lastsK, Option.map_some, ne_eq, Option.some.injEq, decide_not, Bool.not_eq_true', decide_eq_false_iff_not]
    by_cases h2 : p.1 = ps[i + 1].1
    · rw [if_pos h2, if_neg (by simp [h2])]
    · rw [if_neg h2, if_pos (by intro h; exact h2 h.symm)]
  · rw [List.getElem?_eq_none (by omega), List.drop_eq_nil_of_le (by omega)]
    simp [lastsK]

end Go.Proofs.Ytnedcoomldmhhaa
