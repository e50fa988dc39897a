/- What New leans on: Clone, IndexFunc, DeleteFunc where nothing goes, the sort of nothing. -/
import Derived.Test.YtnedcoomldmhhaaLs8
import Derived.Test.YtnedcoomldmhhaaStb7
namespace Go.Proofs.Ytnedcoomldmhhaa
set_option maxRecDepth 20000
open Go.RowKit Go.Sort
set_option linter.unusedVariables false

theorem pairs_one (es : List Ent) : ∀ u ∈ flat Ent.cells es, u.oneCell' = true := by
  induction es with
  | nil => intro u hu; simp [flat] at hu
  | cons e es ih =>
    intro u hu
    simp only [flat, List.mem_append] at hu
    rcases hu with hu | hu
    · simp [Ent.cells] at hu
      rcases hu with rfl | rfl <;> rfl
    · exact ih u hu
theorem Rp.src {w : World} {a : Option Addr} {es : List Ent} (h : Rp w a es) {tx e' : TypeId} (hk : Try.prog.underlying tx = some (.slice e')) (c : Nat) : Src Try.prog 2 tx (.slice a es.length c) es.length (flat Ent.cells es) w := by
  rcases h.2.2 with rfl | ⟨b, off, rfl, hc⟩
  · cases a with
    | none => exact Src.ofNil w hk c
    | some x => exact Src.ofSlice w hk x 0 c [] rfl (fun j u hu => by simp at hu) (fun u hu => by simp at hu)
  · refine Src.ofSlice w hk ⟨b, off, none⟩ es.length c _ (by rw [flat_length Ent.cells_length]) (fun j u hu => ?_) (pairs_one es)
    have hj : j < es.length * 2 := by
      have := (List.getElem?_eq_some_iff.1 hu).1
      rwa [flat_length Ent.cells_length] at this
    obtain ⟨e, he⟩ : ∃ e, es[j / 2]? = some e := ⟨es[j / 2]'(by omega), List.getElem?_eq_getElem (by omega)⟩
    have h2 := flat_get Ent.cells_length es (j / 2) e (j % 2) he (by omega)
    rw [show j / 2 * 2 + j % 2 = j by omega, hu] at h2
    have hplain : (⟨b, off, none⟩ : Addr).add j = ⟨b, off + j, none⟩ := by unfold Addr.add; split <;> simp_all
    rw [hplain]
    have hcc := hc (j / 2) e he
    have h3 : j % 2 = 0 ∨ j % 2 = 1 := by omega
    rcases h3 with h3 | h3
    · rw [h3] at h2
      simp [Ent.cells] at h2
      rw [h2, show off + j = off + j / 2 * 2 by omega]
      exact hcc.1
    · rw [h3] at h2
      simp [Ent.cells] at h2
      rw [h2, show off + j = off + j / 2 * 2 + 1 by omega]
      exact hcc.2
theorem append_pairs (w : World) (ty tx : TypeId) (base : Nat) (v : Value) (n : Nat) (xs : List Value) (hown : w.ownsRow base 47 2 v n xs)
    (x : Value) (m : Nat) (news : List Value) (hs : Src Try.prog 2 tx x m news w) (hb : n + m ≤ 1000000000) (hbase : base ≤ w.heap.size) :
    ∃ v' w', (Builtin.append_ #[26, tx] ty #[v, x]).run Try.prog w = .ok v' w' ∧ w'.ownsRow base 47 2 v' (n + m) (xs ++ news) ∧ w.grownBy w' v.ownBlock ∧
      (v'.ownBlock = v.ownBlock ∨ v'.ownBlock = some w.heap.size) ∧ (m = 0 → v' = v ∧ w' = w) ∧ w'.ownsRow base 47 2 v n xs := by
  obtain ⟨i, h1, h2, h3, h4⟩ := info_pair
  exact run_append_src base 26 tx ty 47 i _ 2 32 Try.underlying26 h1 h2 h3 h4 rfl (by omega) v n xs hown x m news hs (by unfold maxLen; omega) (by omega) hbase

end Go.Proofs.Ytnedcoomldmhhaa
