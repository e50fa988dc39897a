/- Lists by first bytes, plainly. -/
import Derived.Test.YtnlhocbpoommjaaShT
namespace Go.Proofs.Ytnlhocbpoommjaa
set_option maxRecDepth 20000
open Go.Sort
set_option linter.unusedVariables false

abbrev Zs := List (Int × List KV)
/-- The pairs, their first bytes before their keys again. -/
def unf : Zs → List KV
  | [] => []
  | z :: Z => z.2.map (fun p => (z.1 :: p.1, p.2)) ++ unf Z
theorem unf_append : ∀ Z Y : Zs, unf (Z ++ Y) = unf Z ++ unf Y
  | [], Y => rfl
  | z :: Z, Y => by simp [unf, unf_append Z Y]
def lb (Z : Zs) : Int := (Z.getLast?.map Prod.fst).getD (-1)
structure Grp (Q : List KV) (Z : Zs) : Prop where
  g : grpM Q = (lb Z, Z.map Prod.snd)
  q : Q = unf Z
  ne : ∀ z ∈ Z, z.2 ≠ []
  ad : ∀ (i : Nat) (z z' : Int × List KV), Z[i]? = some z → Z[i + 1]? = some z' → z.1 ≠ z'.1
theorem grp_step {Q : List KV} {Z : Zs} (h : Grp Q Z) (x : Int) (kt : List Int) (v : Int) (hx : 0 ≤ x) : ∃ Z', Grp (Q ++ [(x :: kt, v)]) Z' := by
  by_cases hl : x = lb Z
  · have hZ : Z ≠ [] := fun e => by subst e; simp [lb] at hl; omega
    obtain ⟨Z0, ⟨b, l⟩, rfl⟩ : ∃ Z0 z, Z = Z0 ++ [z] := ⟨Z.dropLast, Z.getLast hZ, (List.dropLast_concat_getLast hZ).symm⟩
    have hb : x = b := by simpa [lb] using hl
    subst hb
    refine ⟨Z0 ++ [(x, l ++ [(kt, v)])], ⟨?_, ?_, ?_, ?_⟩⟩
    · rw [grpM_snoc, h.g]
      have := grpF_same (la := x) (L := Z0.map Prod.snd) (x := l) (p := (x :: kt, v)) rfl
      have e1 : lb (Z0 ++ [(x, l)]) = x := by simp [lb]
      have e2 : lb (Z0 ++ [(x, l ++ [(kt, v)])]) = x := by simp [lb]
      rw [e1, e2, List.map_append, List.map_append]
      exact this
    · conv => lhs; rw [h.q]
      simp [unf_append, unf]
    · intro z hz
      rcases List.mem_append.1 hz with hz | hz
      · exact h.ne z (by simp [hz])
      · simp at hz; subst hz; simp
    · intro i z z' h1 h2
      have hlen : i + 1 < Z0.length + 1 := by have := (List.getElem?_eq_some_iff.1 h2).1; simpa using this
      have h1' : (Z0 ++ [(x, l)])[i]? = some z := by
        rw [List.getElem?_append_left (by omega)] at h1 ⊢
        exact h1
      by_cases h3 : i + 1 < Z0.length
      · exact h.ad i z z' h1' (by rw [List.getElem?_append_left h3] at h2 ⊢; exact h2)
      · have h4 : i + 1 = Z0.length := by omega
        have h5 := h.ad i z (x, l) h1' (by rw [h4]; simp)
        rw [h4] at h2
        simp at h2
        rw [← h2]
        exact h5
  · refine ⟨Z ++ [(x, [(kt, v)])], ⟨?_, ?_, ?_, ?_⟩⟩
    · rw [grpM_snoc, h.g]
      have := grpF_new (la := lb Z) (L := Z.map Prod.snd) (p := (x :: kt, v)) hl
      rw [this]
      simp [lb]
    · conv => lhs; rw [h.q]
      simp [unf_append, unf]
    · intro z hz
      rcases List.mem_append.1 hz with hz | hz
      · exact h.ne z hz
      · simp at hz; subst hz; simp
    · intro i z z' h1 h2
      have hlen : i + 1 < Z.length + 1 := by have := (List.getElem?_eq_some_iff.1 h2).1; simpa using this
      rw [List.getElem?_append_left (by omega)] at h1
      by_cases h3 : i + 1 < Z.length
      · exact h.ad i z z' h1 (by rw [List.getElem?_append_left h3] at h2; exact h2)
      · have h4 : i + 1 = Z.length := by omega
        rw [h4] at h2
        simp at h2
        subst h2
        have h6 : lb Z = z.1 := by
          unfold lb
          rw [List.getLast?_eq_getElem?, show Z.length - 1 = i by omega, h1]
          rfl
        rw [h6] at hl
        exact fun e => hl e.symm
theorem grp_spec (Q : List KV) (hq : ∀ p ∈ Q, ∃ x kt, p.1 = x :: kt ∧ 0 ≤ x) : ∃ Z, Grp Q Z := by
  revert hq
  refine snoc_ind (P := fun Q => (∀ p ∈ Q, ∃ x kt, p.1 = x :: kt ∧ 0 ≤ x) → ∃ Z, Grp Q Z) ?_ ?_ Q
  · intro _
    exact ⟨[], ⟨rfl, rfl, by simp, by simp⟩⟩
  · intro l a ih hq
    obtain ⟨Z, hZ⟩ := ih (fun p hp => hq p (by simp [hp]))
    obtain ⟨x, kt, e, hx⟩ := hq a (by simp)
    have := grp_step hZ x kt a.2 hx
    rwa [show (x :: kt, a.2) = a by rw [← e]] at this
theorem unf_split {Z : Zs} {i : Nat} {z : Int × List KV} (h : Z[i]? = some z) : unf Z = unf (Z.take i) ++ (z.2.map (fun p => (z.1 :: p.1, p.2)) ++ unf (Z.drop (i + 1))) := by
  have hi := (List.getElem?_eq_some_iff.1 h).1
  have he := (List.getElem?_eq_some_iff.1 h).2
  conv => lhs; rw [← List.take_append_drop i Z, List.drop_eq_getElem_cons hi, he]
  rw [unf_append]
  rfl
/-- Where the i-th list begins. -/
def offZ (Z : Zs) (i : Nat) : Nat := (unf (Z.take i)).length
theorem offZ_succ {Z : Zs} {i : Nat} {z : Int × List KV} (h : Z[i]? = some z) : offZ Z (i + 1) = offZ Z i + z.2.length := by
  unfold offZ
  rw [List.take_add_one, h, unf_append]
  simp [unf]
theorem unf_get {Z : Zs} {i k : Nat} {z : Int × List KV} {q : KV} (h : Z[i]? = some z) (hq : z.2[k]? = some q) : (unf Z)[offZ Z i + k]? = some (z.1 :: q.1, q.2) := by
  have hk := (List.getElem?_eq_some_iff.1 hq).1
  rw [unf_split h, List.getElem?_append_right (by unfold offZ; omega)]
  rw [show offZ Z i + k - (unf (Z.take i)).length = k by unfold offZ; omega]
  rw [List.getElem?_append_left (by simpa using hk), List.getElem?_map, hq]
  rfl
theorem unf_len {Z : Zs} {i : Nat} (h : Z.length ≤ i) : offZ Z i = (unf Z).length := by unfold offZ; rw [List.take_of_length_le h]
theorem offZ_le {Z : Zs} {i : Nat} {z : Int × List KV} (h : Z[i]? = some z) : offZ Z i + z.2.length ≤ (unf Z).length := by
  rw [unf_split h]; unfold offZ; simp
theorem unf_more : ∀ Z : Zs, (∀ z ∈ Z, z.2 ≠ []) → Z.length ≤ (unf Z).length
  | [], _ => by simp
  | z :: Z, h => by
    have h1 := unf_more Z (fun y hy => h y (by simp [hy]))
    have h2 : 0 < z.2.length := List.length_pos_iff.2 (h z (by simp))
    simp only [unf, List.length_append, List.length_map, List.length_cons]
    omega
/-- What stands right before the k-th of the i-th list. -/
theorem unf_prev {Z : Zs} {Q : List KV} (h : Grp Q Z) {i k : Nat} {z : Int × List KV} (hz : Z[i]? = some z) (hk : k < z.2.length) :
    (0 < k → ∃ kt v, (unf Z)[offZ Z i + k - 1]? = some (z.1 :: kt, v)) ∧ (k = 0 → 0 < i → ∃ x kt v, x ≠ z.1 ∧ 0 < offZ Z i ∧ (unf Z)[offZ Z i - 1]? = some (x :: kt, v)) := by
  constructor
  · intro h0
    obtain ⟨q, hq⟩ : ∃ q, z.2[k - 1]? = some q := ⟨z.2[k - 1], List.getElem?_eq_getElem (by omega)⟩
    have := unf_get hz hq
    rw [show offZ Z i + k - 1 = offZ Z i + (k - 1) by omega]
    exact ⟨_, _, this⟩
  · intro _ hi
    have hil := (List.getElem?_eq_some_iff.1 hz).1
    obtain ⟨y, hy⟩ : ∃ y, Z[i - 1]? = some y := ⟨Z[i - 1], List.getElem?_eq_getElem (by omega)⟩
    have hne := h.ne y (List.mem_of_getElem? hy)
    have hyl : 0 < y.2.length := List.length_pos_iff.2 hne
    obtain ⟨q, hq⟩ : ∃ q, y.2[y.2.length - 1]? = some q := ⟨y.2[y.2.length - 1], List.getElem?_eq_getElem (by omega)⟩
    have h1 := unf_get hy hq
    have h2 := offZ_succ hy
    rw [show i - 1 + 1 = i by omega] at h2
    have h3 := h.ad (i - 1) y z hy (by rw [show i - 1 + 1 = i by omega]; exact hz)
    rw [show offZ Z (i - 1) + (y.2.length - 1) = offZ Z i - 1 by omega] at h1
    exact ⟨y.1, q.1, q.2, h3, by omega, h1⟩
end Go.Proofs.Ytnlhocbpoommjaa
