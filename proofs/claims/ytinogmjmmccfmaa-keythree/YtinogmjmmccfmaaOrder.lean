/- Plain theory of keys, more: the order goes on; what stands behind all that begin with a key; keys behind the same bytes. No program here. -/
import Derived.Test.YtinogmjmmccfmaaMakes
import Derived.Test.YtinogmjmmccfmaaStrs
namespace Go.Proofs.Ytinogmjmmccfmaa

theorem cmpK_nil (ys : List Int) : cmpK [] ys = if ys = [] then 0 else -1 := by
  cases ys <;> simp [cmpK, common]
theorem cmpK_nil' (xs : List Int) : cmpK xs [] = if xs = [] then 0 else 1 := by
  cases xs <;> simp [cmpK, common]

theorem cmpK_trans (a b c : List Int) (h1 : cmpK a b ≤ 0) (h2 : cmpK b c ≤ 0) : cmpK a c ≤ 0 := by
  induction a generalizing b c with
  | nil => rw [cmpK_nil]; split <;> omega
  | cons x a ih =>
    cases b with
    | nil => rw [cmpK_nil'] at h1; simp at h1
    | cons y b =>
      cases c with
      | nil => rw [cmpK_nil'] at h2; simp at h2
      | cons z c =>
        rw [cmpK_cons] at h1 h2 ⊢
        by_cases hxy : x = y
        · subst hxy
          rw [if_pos rfl] at h1
          by_cases hxz : x = z
          · subst hxz
            rw [if_pos rfl] at h2 ⊢
            exact ih b c h1 h2
          · rw [if_neg hxz] at h2 ⊢
            exact h2
        · rw [if_neg hxy] at h1
          have hlt : x < y := by
            by_cases h : x < y
            · exact h
            · rw [if_neg h] at h1; omega
          by_cases hyz : y = z
          · subst hyz
            rw [if_neg (by omega), if_pos hlt]; omega
          · rw [if_neg hyz] at h2
            have hlt2 : y < z := by
              by_cases h : y < z
              · exact h
              · rw [if_neg h] at h2; omega
            rw [if_neg (by omega), if_pos (by omega)]; omega

theorem common_min (a b c : List Int) : min (common a b) (common b c) ≤ common a c := by
  induction a generalizing b c with
  | nil => cases b <;> simp [common]
  | cons x a ih =>
    cases b with
    | nil => simp [common]
    | cons y b =>
      cases c with
      | nil => simp [common]
      | cons z c =>
        have := ih b c
        simp only [common]
        by_cases hxy : x = y
        · subst hxy
          by_cases hxz : x = z
          · subst hxz
            simp only [if_true]
            omega
          · simp [hxz]
        · simp [hxy]

/-- How often the least of three is among them. -/
def twice (x y z : Int) : Int := (if x = min (min x y) z then 1 else 0) + (if y = min (min x y) z then 1 else 0) + (if z = min (min x y) z then 1 else 0)

theorem common_twice (a b c : List Int) : 2 ≤ twice (common a b) (common b c) (common a c) := by
  have h1 := common_min a b c
  have h2 := common_min b a c
  have h3 := common_min a c b
  rw [common_comm b a] at h2
  rw [common_comm c b] at h3
  unfold twice
  generalize common a b = x at *
  generalize common b c = y at *
  generalize common a c = z at *
  split <;> split <;> split <;> omega

theorem common_take (xs : List Int) (n : Nat) (h : n ≤ xs.length) : common (xs.take n) xs = n := by
  have e : xs = xs.take n ++ xs.drop n := (List.take_append_drop n xs).symm
  have h1 : common (xs.take n ++ []) (xs.take n ++ xs.drop n) = (xs.take n).length + common [] (xs.drop n) := common_append _ _ _
  rw [List.append_nil, List.take_append_drop] at h1
  rw [h1]
  simp [common]
  omega

theorem common_take_of (xs ys : List Int) (n : Nat) (h : n ≤ common xs ys) : common ys (xs.take n) = n := by
  have hl := common_le xs ys
  rw [common_comm]
  refine common_of _ _ n (by simp; omega) (by omega) (fun i hi => ?_) (.inl (by simp; omega))
  rw [← common_eq xs ys i (by omega)]
  simp [hi]

theorem cmpK_take (xs : List Int) (n : Nat) (h : n ≤ xs.length) : cmpK (xs.take n) xs = if n < xs.length then -1 else 0 := by
  have hc := common_take xs n h
  have hl : (xs.take n).length = n := by simp; omega
  unfold cmpK
  rw [hc, hl, if_pos rfl]
  by_cases e : n = xs.length
  · rw [if_pos e, if_neg (by omega)]
  · rw [if_neg e, if_pos (by omega)]

theorem getD_app (w a : List Int) (i : Nat) : (w ++ a).getD (w.length + i) 0 = a.getD i 0 := by
  simp [List.getElem?_append_right]

theorem cmpK_app (w a b : List Int) : cmpK (w ++ a) (w ++ b) = cmpK a b := by
  induction w with
  | nil => rfl
  | cons x w ih => rw [List.cons_append, List.cons_append, cmpK_cons, if_pos rfl, ih]

theorem bitK_app (w a : List Int) (i : Nat) : bitK (w ++ a) (9 * w.length + i : Nat) = bitK a i := by
  have e1 : 9 * w.length + i = 9 * (w.length + i / 9) + i % 9 := by omega
  have e2 : i = 9 * (i / 9) + i % 9 := by omega
  have h1 := bitK_at (w ++ a) (w.length + i / 9) (i % 9) (by omega)
  have h2 := bitK_at a (i / 9) (i % 9) (by omega)
  rw [← e1] at h1
  rw [← e2] at h2
  rw [h1, h2]
  by_cases h : i / 9 < a.length
  · rw [if_pos h, if_pos (by rw [List.length_append]; omega), getD_app]
  · rw [if_neg h, if_neg (by rw [List.length_append]; omega)]

theorem scanD_app (w a b : List Int) (f i : Nat) : scanD (w ++ a) (w ++ b) f (9 * w.length + i) = if scanD a b f i < 0 then -1 else scanD a b f i + 9 * w.length := by
  induction f generalizing i with
  | zero => simp [scanD]
  | succ f ih =>
    have b1 := bitK_app w a i
    have b2 := bitK_app w b i
    by_cases h : bitK a i = bitK b i
    · rw [scanD_step _ _ _ _ h, scanD_step _ _ _ _ (by rw [b1, b2]; exact h)]
      exact ih (i + 1)
    · rw [scanD_stop _ _ _ _ h, scanD_stop _ _ _ _ (by rw [b1, b2]; exact h), if_neg (by omega)]
      omega

theorem differK_app (w a b : List Int) : differK (w ++ a) (w ++ b) = if differK a b < 0 then -1 else differK a b + 9 * w.length := by
  unfold differK
  rw [common_append, Nat.mul_add, scanD_app]

/-- What stands behind all that begin with a key, byte by byte. -/
def beh : List Int → Option (List Int)
  | [] => none
  | x :: xs => match beh xs with
    | some ys => some (x :: ys)
    | none => if x = 255 then none else some [x + 1]

theorem stripN_cons (x : Int) (xs : List Int) (n : Nat) : stripN (x :: xs) (n + 1) = if stripN xs n = 0 then (if x = 255 then 0 else 1) else stripN xs n + 1 := by
  induction n with
  | zero => simp [stripN]
  | succ n ih =>
    by_cases h : xs.getD n 0 = 255
    · rw [stripN_pos xs n h, stripN_pos (x :: xs) (n + 1) (by simpa using h), ih]
    · rw [stripN_neg xs n h, stripN_neg (x :: xs) (n + 1) (by simpa using h), if_neg (by omega)]

theorem beh_is (xs : List Int) : beh xs = if stripN xs xs.length = 0 then none else some (behindK xs) := by
  induction xs with
  | nil => rfl
  | cons x xs ih =>
    have hs : stripN (x :: xs) (x :: xs).length = if stripN xs xs.length = 0 then (if x = 255 then 0 else 1) else stripN xs xs.length + 1 := stripN_cons x xs xs.length
    rw [beh, ih]
    by_cases h : stripN xs xs.length = 0
    · rw [if_pos h] at hs
      rw [if_pos h]
      by_cases hx : x = 255
      · rw [if_pos hx] at hs
        rw [if_pos hs]
        simp [hx]
      · rw [if_neg hx] at hs
        rw [if_neg (by omega), behindK, hs]
        simp
    · rw [if_neg h] at hs
      obtain ⟨m, hm⟩ : ∃ m, stripN xs xs.length = m + 1 := ⟨stripN xs xs.length - 1, by omega⟩
      have h0 : ¬ stripN (x :: xs) (x :: xs).length = 0 := by omega
      rw [if_neg h, if_neg h0]
      simp only [behindK]
      rw [hs, hm]
      simp

theorem begins_iff (k p : List Int) (hk : IsBytes k) (hp : IsBytes p) : common k p = p.length ↔ 0 ≤ cmpK k p ∧ ∀ b, beh p = some b → cmpK k b < 0 := by
  induction p generalizing k with
  | nil =>
    constructor
    · intro _
      refine ⟨?_, fun b hb => by simp [beh] at hb⟩
      rw [cmpK_nil']; split <;> omega
    · intro _; cases k <;> simp [common]
  | cons x p ih =>
    cases k with
    | nil => simp [common, cmpK_nil]
    | cons y k =>
      have bY := hk y (by simp)
      have bX := hp x (by simp)
      have IH := ih k (fun z hz => hk z (by simp [hz])) (fun z hz => hp z (by simp [hz]))
      have hc : common (y :: k) (x :: p) = if y = x then common k p + 1 else 0 := rfl
      rw [hc, cmpK_cons, List.length_cons]
      by_cases hyx : y = x
      · subst hyx
        rw [if_pos rfl, if_pos rfl]
        rw [show (common k p + 1 = p.length + 1) = (common k p = p.length) from by simp, IH]
        rw [beh]
        cases hb : beh p with
        | some ys =>
          simp only [Option.some.injEq, forall_eq']
          rw [cmpK_cons, if_pos rfl]
        | none =>
          by_cases h255 : y = 255
          · simp [h255]
          · simp only [h255, if_false, Option.some.injEq, forall_eq']
            rw [cmpK_cons, if_neg (by omega), if_pos (by omega)]
            simp
      · rw [if_neg hyx, if_neg hyx]
        constructor
        · intro h; omega
        · rintro ⟨h1, h2⟩
          exfalso
          have hlt : x < y := by
            by_cases h : y < x
            · rw [if_pos h] at h1; omega
            · omega
          rw [beh] at h2
          cases hb : beh p with
          | some ys =>
            have := h2 (x :: ys) (by rw [hb])
            rw [cmpK_cons, if_neg hyx, if_neg (by omega)] at this
            omega
          | none =>
            have := h2 [x + 1] (by rw [hb]; simp; omega)
            rw [cmpK_cons] at this
            by_cases e : y = x + 1
            · rw [if_pos e, cmpK_nil'] at this
              split at this <;> omega
            · rw [if_neg e, if_neg (by omega)] at this
              omega

theorem least_behind (p : List Int) : cmpK (p ++ [0]) p = 1 := by
  have h : cmpK (p ++ [0]) (p ++ []) = cmpK [0] [] := cmpK_app p [0] []
  rw [List.append_nil] at h
  rw [h]; rfl

theorem least_next (k p : List Int) (hk : IsBytes k) : cmpK k p ≤ 0 ∨ 0 ≤ cmpK k (p ++ [0]) := by
  induction p generalizing k with
  | nil =>
    cases k with
    | nil => left; decide
    | cons y k =>
      right
      have := hk y (by simp)
      show 0 ≤ cmpK (y :: k) [0]
      rw [cmpK_cons]
      by_cases e : y = 0
      · rw [if_pos e, cmpK_nil']; split <;> omega
      · rw [if_neg e, if_neg (by omega)]; omega
  | cons x p ih =>
    cases k with
    | nil => left; rw [cmpK_nil]; split <;> omega
    | cons y k =>
      rw [List.cons_append, cmpK_cons, cmpK_cons]
      by_cases e : y = x
      · rw [if_pos e, if_pos e]
        exact ih k (fun z hz => hk z (by simp [hz]))
      · rw [if_neg e, if_neg e]
        split <;> omega

end Go.Proofs.Ytinogmjmmccfmaa
