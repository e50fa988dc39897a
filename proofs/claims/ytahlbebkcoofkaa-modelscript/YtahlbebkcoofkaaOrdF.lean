/- A region that draws its order: an operation may be hoisted to the front where a condition on what has come up and on the world lets it; for loads: nobody writes their cells till operation F, which waits for them. No program here. -/
import Derived.OrdersHeld
import Derived.Deep.RegionHeld3
import Derived.Deep.RegionLaw
namespace Go.Proofs.Ytahlbebkcoofkaa
set_option maxRecDepth 20000
open Go
set_option linter.unusedVariables false

/-- All orders from here on; C is shown of what has come up and of the world behind each operation. -/
def wpAnyC (P : Program) (md : Region.Mode) (ops : Array Oper) (Q : Exit → Act → World → Prop) (C : Array Bool → World → Prop) (fuel : Nat) (l : Array Bool) (a : Act) (w : World) : Prop :=
  match fuel with
  | 0 => Region.ready md ops l = [] ∧ Q .normal a w
  | n + 1 => (Region.ready md ops l = [] → Q .normal a w) ∧ ∀ j ∈ Region.ready md ops l, wpOp P ops Q j (fun b u => C (l.setIfInBounds j true) u ∧ wpAnyC P md ops Q C n (l.setIfInBounds j true) b u) a w
section
variable {P : Program} {ops : Array Oper} {Q : Exit → Act → World → Prop} {md : Region.Mode} {C : Array Bool → World → Prop}
theorem wpAny_of_C (fuel : Nat) : ∀ (l : Array Bool) (a : Act) (w : World), wpAnyC P md ops Q C fuel l a w → wpAny P md ops Q fuel l a w := by
  induction fuel with
  | zero => exact fun l a w h => h
  | succ n ih => exact fun l a w h => ⟨h.1, fun j hj => wpOp_mono (fun b u hu => ih _ b u hu.2) (h.2 j hj)⟩
/-- Nobody that comes up beside i waits for i. -/
theorem no_wait {i j : Nat} {l : Array Bool} {oj : Oper} (hr : i ∈ Region.ready md ops l) (hj : j ∈ Region.ready md ops l) (hoj : ops[j]? = some oj) : ∀ e ∈ oj.after, Region.binds md e = true → e.on ≠ i := by
  intro e he hb hon
  obtain ⟨_, o, ho, hall⟩ := mem_ready.1 hj
  rw [hoj] at ho
  cases ho
  have up := hall e he hb
  have down := (mem_ready.1 hr).1
  rw [hon] at up
  by_cases hs : i < l.size
  · simp [hs] at down up
    rw [down] at up
    cases up
  · simp [Array.getElem?_eq_none (Nat.le_of_not_lt hs)] at up
/-- What i may be hoisted over. -/
def Over (md : Region.Mode) (ops : Array Oper) (i : Nat) (oi : Oper) (l : Array Bool) : Prop :=
  ∀ j oj, ops[j]? = some oj → j ≠ i → l.getD j true = false → (∀ e ∈ oj.after, Region.binds md e = true → e.on ≠ i) → oi.apart ops oj = true
theorem Over.step {i j : Nat} {oi : Oper} {l : Array Bool} (h : Over md ops i oi l) (hj : l.getD j true = false) : Over md ops i oi (l.setIfInBounds j true) := by
  intro k ok hk hne hun hno
  by_cases e : j = k
  · exact h k ok hk hne (e ▸ hj) hno
  · exact h k ok hk hne (by rwa [getD_set_ne true e] at hun) hno
/-- Hoisting: I is what is known of what has come up as long as i has not; C then gives S, in whose worlds i yields v. -/
theorem hoist {i : Nat} {oi : Oper} {v : Value} {I : Array Bool → Prop} {S : World → Prop} (hi : ops[i]? = some oi) (sel : ∀ (j : Nat) (o : Oper) cs b, ops[j]? = some o → o.op ≠ .select cs b)
    (hQ : ∀ c a w, Q (.panic c) (a.put oi.dst v) w → Q (.panic c) a w)
    (cs : ∀ l w, I l → C l w → S w) (ci : ∀ l w, I l → C l w → C (l.setIfInBounds i true) w)
    (ij : ∀ l j, I l → i ∈ Region.ready md ops l → j ∈ Region.ready md ops l → j ≠ i → I (l.setIfInBounds j true))
    (cj : ∀ l j w, I l → j ≠ i → C ((l.setIfInBounds i true).setIfInBounds j true) w → C (l.setIfInBounds j true) w) (fuel : Nat) :
    ∀ (l : Array Bool) (a : Act) (w : World), I l → i ∈ Region.ready md ops l → Over md ops i oi l → YieldsIf P ops S oi v a → C l w →
      wpAnyC P md ops Q C fuel (l.setIfInBounds i true) (a.put oi.dst v) w → wpAnyC P md ops Q C (fuel + 1) l a w := by
  induction fuel with
  | zero =>
    intro l a w hI hr ho hy hC H
    refine ⟨fun none => (List.ne_nil_of_mem hr none).elim, fun j hj => ?_⟩
    rcases Decidable.em (j = i) with rfl | ne
    · exact hy.wpOp hi (cs l w hI hC) ⟨ci l w hI hC, H⟩
    · exact (List.ne_nil_of_mem (ready_mono hj ne) H.1).elim
  | succ n ih =>
    intro l a w hI hr ho hy hC H
    refine ⟨fun none => (List.ne_nil_of_mem hr none).elim, fun j hj => ?_⟩
    rcases Decidable.em (j = i) with rfl | ne
    · exact hy.wpOp hi (cs l w hI hC) ⟨ci l w hI hC, H⟩
    · have later := H.2 j (ready_mono hj ne)
      obtain ⟨un, oj, hoj, -⟩ := mem_ready.1 hj
      have side := wpOp_putIf hoj (ho j oj hoj ne un (no_wait hr hj hoj)) (fun c b => sel i oi c b hi) (fun c b => sel j oj c b hoj) hQ hy later
      refine wpOp_mono (fun b u hu => ?_) side
      obtain ⟨yb, cu, rest⟩ := hu
      have cb := cj l j u hI ne cu
      refine ⟨cb, ih _ b u (ij l j hI hr hj ne) (ready_mono hr (fun e => ne e.symm)) (ho.step un) yb cb ?_⟩
      have swap : (l.setIfInBounds i true).setIfInBounds j true = (l.setIfInBounds j true).setIfInBounds i true := Array.setIfInBounds_comm _ _ (fun e => ne e.symm)
      rw [← swap]
      exact rest
end
/-- S, as long as F has not come up. -/
def Till (S : World → Prop) (F : Nat) (l : Array Bool) (w : World) : Prop := l.getD F true = false → S w
abbrev wpAnyF (P : Program) (md : Region.Mode) (ops : Array Oper) (Q : Exit → Act → World → Prop) (S : World → Prop) (F : Nat) : Nat → Array Bool → Act → World → Prop := wpAnyC P md ops Q (Till S F)
section
variable {P : Program} {l : List Oper} {Q : Exit → Act → World → Prop} {md : Region.Mode} {S : World → Prop} {F : Nat}
/-- Does an operation wait for operation i? -/
def waits (md : Region.Mode) (o : Oper) (i : Nat) : Bool := o.after.any (fun e => Region.binds md e && e.on == i)
theorem takeF {i : Nat} {oi oF : Oper} {v : Value} {fuel : Nat} {listed : Array Bool} {a : Act} {w : World} (hi : l[i]? = some oi) (hF : l[F]? = some oF) (hw : waits md oF i = true) (hne : F ≠ i)
    (hs : Region.noSelect l.toArray = true) (hf : Region.free md l.toArray listed i = true) (hr : (Region.ready md l.toArray listed).contains i = true) (hFu : listed.getD F true = false)
    (hQ : ∀ c a w, Q (.panic c) (a.put oi.dst v) w → Q (.panic c) a w) (hy : YieldsIf P l.toArray S oi v a) (hS : S w)
    (h : wpAnyF P md l.toArray Q S F fuel (listed.setIfInBounds i true) (a.put oi.dst v) w) : wpAnyF P md l.toArray Q S F (fuel + 1) listed a w := by
  have hi' : l.toArray[i]? = some oi := by simpa using hi
  have hF' : l.toArray[F]? = some oF := by simpa using hF
  have ne : i ≠ F := fun e => hne e.symm
  obtain ⟨x, hx, hb, hon⟩ : ∃ e ∈ oF.after, Region.binds md e = true ∧ e.on = i := by
    unfold waits at hw
    rw [Array.any_eq_true'] at hw
    obtain ⟨e, he, hb⟩ := hw
    simp only [Bool.and_eq_true, beq_iff_eq] at hb
    exact ⟨e, he, hb⟩
  refine hoist (I := fun k => k.getD F true = false) hi' (Region.noSelect_spec hs) hQ (fun k u hI hC => hC hI) (fun k u hI hC _ => hC hI) ?_ ?_ fuel listed a w hFu (by simpa using hr) (Region.free_spec hi' hf) hy (fun _ => hS) h
  · intro k j hI hri hrj hji
    have : j ≠ F := fun e => no_wait hri hrj (by rw [e]; exact hF') x hx hb hon
    show (k.setIfInBounds j true).getD F true = false
    rw [getD_set_ne true this]
    exact hI
  · intro k j u hI hji hC hk
    refine hC ?_
    have swap : (k.setIfInBounds i true).setIfInBounds j true = (k.setIfInBounds j true).setIfInBounds i true := Array.setIfInBounds_comm _ _ (fun e => hji e.symm)
    rw [swap, getD_set_ne true ne]
    exact hk
/-- What yields in whatever world may be taken first. -/
theorem takeY {i : Nat} {oi : Oper} {v : Value} {fuel : Nat} {listed : Array Bool} {a : Act} {w : World} (hi : l[i]? = some oi) (hne : F ≠ i)
    (hs : Region.noSelect l.toArray = true) (hf : Region.free md l.toArray listed i = true) (hr : (Region.ready md l.toArray listed).contains i = true)
    (hQ : ∀ c a w, Q (.panic c) (a.put oi.dst v) w → Q (.panic c) a w) (hy : YieldsIf P l.toArray (fun _ => True) oi v a) (hS : listed.getD F true = false → S w)
    (h : wpAnyF P md l.toArray Q S F fuel (listed.setIfInBounds i true) (a.put oi.dst v) w) : wpAnyF P md l.toArray Q S F (fuel + 1) listed a w := by
  have hi' : l.toArray[i]? = some oi := by simpa using hi
  have ne : i ≠ F := fun e => hne e.symm
  refine hoist (I := fun _ => True) hi' (Region.noSelect_spec hs) hQ (fun _ _ _ _ => trivial) ?_ (fun _ _ _ _ _ _ => trivial) ?_ fuel listed a w trivial (by simpa using hr) (Region.free_spec hi' hf) hy hS h
  · intro k u _ hC hk
    rw [getD_set_ne true ne] at hk
    exact hC hk
  · intro k j u _ hji hC hk
    refine hC ?_
    have swap : (k.setIfInBounds i true).setIfInBounds j true = (k.setIfInBounds j true).setIfInBounds i true := Array.setIfInBounds_comm _ _ (fun e => hji e.symm)
    rw [swap, getD_set_ne true ne]
    exact hk
/-- Each of these comes up next. -/
def AllF (P : Program) (md : Region.Mode) (ops : Array Oper) (Q : Exit → Act → World → Prop) (S : World → Prop) (F : Nat) (fuel : Nat) (listed : Array Bool) (a : Act) (w : World) (rs : List Nat) : Prop :=
  ∀ i ∈ rs, wpOp P ops Q i (fun b u => Till S F (listed.setIfInBounds i true) u ∧ wpAnyF P md ops Q S F fuel (listed.setIfInBounds i true) b u) a w
theorem AllF.nil {fuel : Nat} {listed : Array Bool} {a : Act} {w : World} : AllF P md l.toArray Q S F fuel listed a w [] := fun _ h => absurd h (by simp)
theorem AllF.cons {fuel : Nat} {listed : Array Bool} {a : Act} {w : World} {i : Nat} {o : Oper} {rs : List Nat} (ho : l[i]? = some o)
    (h : ∀ K' : Act → World → Prop, Shut (∀ b u, ((listed.setIfInBounds i true).getD F true = false → S u) → wpAnyF P md l.toArray Q S F fuel (listed.setIfInBounds i true) b u → K' b u) → if Region.wanted o (yielded l.toArray a.tmps) = true then Oper.wp P o a w K' Q else K' (a.put o.dst undef) w)
    (hs : AllF P md l.toArray Q S F fuel listed a w rs) : AllF P md l.toArray Q S F fuel listed a w (i :: rs) := by
  intro j hj
  by_cases e : j = i
  · rw [e]
    exact wpOp_step (by simpa using ho) (fun K' hK => h K' (fun b u h1 h2 => hK b u ⟨h1, h2⟩))
  · exact hs j (by simpa [e] using hj)
theorem readyF {rs : List Nat} {fuel : Nat} {listed : Array Bool} {a : Act} {w : World} (hr : Region.ready md l.toArray listed = rs) (hne : rs ≠ [])
    (h : AllF P md l.toArray Q S F fuel listed a w rs) : wpAnyF P md l.toArray Q S F (fuel + 1) listed a w := by
  subst hr
  exact ⟨fun e => absurd e hne, h⟩
theorem doneF {listed : Array Bool} {a : Act} {w : World} (hr : Region.ready md l.toArray listed = []) (h : Q .normal a w) (fuel : Nat) : wpAnyF P md l.toArray Q S F fuel listed a w := by
  cases fuel with
  | zero => exact ⟨hr, h⟩
  | succ n => exact ⟨fun _ => h, fun j hj => by rw [hr] at hj; simp at hj⟩
theorem regionF {id : Nat} {a : Act} {w : World} (hm : P.follows .mixedOrders = true) (h : wpAnyF P .any l.toArray Q S F l.toArray.size (Array.replicate l.toArray.size false) a w.drew) : (Code.region id l.toArray true).wp P Q a w :=
  wp_region_any hm (wpAny_of_C _ _ _ _ h)
end
end Go.Proofs.Ytahlbebkcoofkaa
