/- A pool's calls as functions of what it holds. -/
import Derived.Test.YtaoabjcbolncoaaDrop6
namespace Go.Proofs.Ytaoabjcbolncoaa
open Go.RowKit
set_option linter.unusedVariables false
set_option linter.unusedSimpArgs false

/-- What string x is. -/
def atH (cs : Strs) (x : Nat) : Option (List Int) := if x = 0 then none else (cs[x - 1]?).join
theorem atH_no {cs : Strs} {x : Nat} (h : noH cs x) : atH cs x = none := by
  unfold atH
  split
  · rfl
  · rcases h with h | h | h
    · omega
    · rw [List.getElem?_eq_none (by omega)]; rfl
    · rw [h]; rfl
theorem atH_has {cs : Strs} {n : Nat} {ws : List Int} (h : cs[n]? = some (some ws)) : atH cs (n + 1) = some ws := by
  unfold atH
  rw [if_neg (by omega), Nat.add_sub_cancel, h]
  rfl
def putTo (most : Int) (cs : Strs) (back : List Nat) (xs : List Int) : Int × Int × Strs × List Nat :=
  if most - total cs < (xs.length : Int) then (0, 4, cs, back)
  else match back.getLast? with
    | some h => ((h : Int), 0, cs.set (h - 1) (some xs), back.dropLast)
    | none => (((cs.length + 1 : Nat) : Int), 0, cs ++ [some xs], [])
def cutTo (cs : Strs) (x : Nat) (m : Int) : Int × Strs :=
  match atH cs x with
  | none => (5, cs)
  | some xs => if m < 0 ∨ (xs.length : Int) < m then (2, cs) else (0, cs.set (x - 1) (some (xs.drop m.toNat)))
def dropTo (cs : Strs) (back : List Nat) (x : Nat) : Int × Strs × List Nat :=
  match atH cs x with
  | none => (5, cs, back)
  | some _ => (0, cs.set (x - 1) none, back ++ [x])
theorem nat_succ (n : Nat) : ((n + 1 : Nat) : Int) = (n : Int) + 1 := by omega
theorem putTo_length (most : Int) (cs : Strs) (back : List Nat) (xs : List Int) : (putTo most cs back xs).2.2.1.length ≤ cs.length + 1 := by
  unfold putTo
  split
  · simp
  · split <;> simp
theorem cutTo_length (cs : Strs) (x : Nat) (m : Int) : (cutTo cs x m).2.length = cs.length := by
  unfold cutTo
  split
  · rfl
  · split <;> simp
theorem dropTo_length (cs : Strs) (back : List Nat) (x : Nat) : (dropTo cs back x).2.1.length = cs.length := by
  unfold dropTo
  split <;> simp

section
variable {K : Nat → Prop} {w : World} {g : Nat} {most : Int} {cs : Strs} {back : List Nat}
theorem s_put (A : Sp g most cs back K w) (hc : cs.length < 2147483648) (a : Option Addr) (xs : List Int) (cap : Nat) (W : Bd K w a xs) :
    Calls Try.prog 10 #[.pointer (some ⟨g, 0, none⟩), .slice a xs.length cap] w fun e w' => e = .returned (.tuple #[.int .u32 (putTo most cs back xs).1, .int .i64 (putTo most cs back xs).2.1]) ∧
      Sp g most (putTo most cs back xs).2.2.1 (putTo most cs back xs).2.2.2 K w' ∧ Kp K w w' := by
  unfold putTo
  by_cases h1 : most - total cs < (xs.length : Int)
  · simp only [if_pos h1]
    refine (put_full A a xs.length cap h1).mono ?_
    rintro e w' ⟨rfl, s⟩
    exact ⟨rfl, (Sp.lies _ _ _ _).still A s, s.kp K⟩
  simp only [if_neg h1]
  rcases List.eq_nil_or_concat back with rfl | ⟨back2, h, rfl⟩
  · simp only [List.getLast?_nil]
    exact put_new A (by omega) a xs cap W (by omega)
  · rw [List.concat_eq_append] at A ⊢
    simp only [List.getLast?_append, List.getLast?_singleton, List.dropLast_concat, Option.some_or]
    exact put_back A (by omega) a xs cap W (by omega)
theorem s_cut (A : Sp g most cs back K w) (hc : cs.length ≤ 2147483648) (x : Nat) (hx : x < 4294967296) (m : Int) :
    Calls Try.prog 14 #[.pointer (some ⟨g, 0, none⟩), .int .u32 (x : Int), .int .i64 m] w fun e w' => e = .returned (.int .i64 (cutTo cs x m).1) ∧ Sp g most (cutTo cs x m).2 back K w' ∧ Kp K w w' := by
  unfold cutTo
  rcases has_or cs x with hn | ⟨n, ws, rfl, hn⟩
  · rw [atH_no hn]
    refine (cut_none A hc x hx m hn).mono ?_
    rintro e w' ⟨rfl, rfl⟩
    exact ⟨rfl, A, Kp.refl _ _⟩
  · rw [atH_has hn, nat_succ, Nat.add_sub_cancel]
    by_cases hi : m < 0 ∨ (ws.length : Int) < m
    · simp only [if_pos hi]
      refine (cut_out A hc n m ws hn hi).mono ?_
      rintro e w' ⟨rfl, s⟩
      exact ⟨rfl, (Sp.lies _ _ _ _).still A s, s.kp K⟩
    · simp only [if_neg hi]
      have h := cut_has A hc n m.toNat ws hn (by omega)
      rw [show ((m.toNat : Nat) : Int) = m by omega] at h
      exact h
theorem s_drop (A : Sp g most cs back K w) (hc : cs.length ≤ 2147483648) (x : Nat) (hx : x < 4294967296) :
    Calls Try.prog 16 #[.pointer (some ⟨g, 0, none⟩), .int .u32 (x : Int)] w fun e w' => e = .returned (.int .i64 (dropTo cs back x).1) ∧ Sp g most (dropTo cs back x).2.1 (dropTo cs back x).2.2 K w' ∧ Kp K w w' := by
  unfold dropTo
  rcases has_or cs x with hn | ⟨n, ws, rfl, hn⟩
  · rw [atH_no hn]
    refine (drop_none A hc x hx hn).mono ?_
    rintro e w' ⟨rfl, rfl⟩
    exact ⟨rfl, A, Kp.refl _ _⟩
  · rw [atH_has hn, nat_succ, Nat.add_sub_cancel]
    exact drop_has A hc n ws hn
/-- Bytes that are newer than the pool. -/
def Fresh (w w1 : World) (a : Option Addr) (xs : List Int) : Prop := Rd w1 a xs ∧ (xs = [] ∨ ∃ b off, a = some ⟨b, off, none⟩ ∧ w.heap.size ≤ b ∧ b < w1.heap.size)
theorem Fresh.bd {w w1 : World} {a : Option Addr} {xs : List Int} (h : Fresh w w1 a xs) (K : Nat → Prop) : Bd (fun k => K k ∨ w.heap.size ≤ k ∧ k < w1.heap.size) w1 a xs := by
  refine ⟨h.1, ?_⟩
  rcases h.2 with h | ⟨b, off, e, hb⟩
  · exact .inl h
  · exact .inr ⟨b, off, e, .inr hb⟩
theorem Fresh.of_own {w w1 : World} {e : TypeId} {a : Option Addr} {c n : Nat} {xs : List Int} (o : w1.ownsRow w.heap.size e 1 (.slice a n c) n (u8s xs)) (hb : IsBytes xs) : Fresh w w1 a xs ∧ n = xs.length := by
  obtain ⟨a', c', e', hr, hn⟩ := owns_bd (K := fun k => w.heap.size ≤ k ∧ k < w1.heap.size) o hb (fun k hk => o.lt k hk)
  simp only [Value.slice.injEq] at e'
  obtain ⟨rfl, -, rfl⟩ := e'
  exact ⟨hr, hn⟩
/-- Behind something new: the pool's call, and only what is K is told. -/
theorem Sp.later {w1 w2 : World} {cs2 : Strs} {back2 : List Nat} (f : Below w.heap.size w w1) (A : Sp g most cs2 back2 (fun k => K k ∨ w.heap.size ≤ k ∧ k < w1.heap.size) w2) (hk : ∀ k, K k → k < w.heap.size) (k : Kp (fun k => K k ∨ w.heap.size ≤ k ∧ k < w1.heap.size) w1 w2) : Sp g most cs2 back2 K w2 ∧ Kp K w w2 :=
  ⟨(Sp.lies _ _ _ _).weaken A (fun k hk => .inl hk), ((Kp.of_below f).mono hk).trans (k.mono (fun k hk => .inl hk))⟩
theorem f_put_new (A : Sp g most cs [] K w) {w1 : World} (f : Below w.heap.size w w1) (hc : cs.length < 2147483648) {a : Option Addr} {xs : List Int} {n : Nat} (W : Fresh w w1 a xs) (hn : n = xs.length) (cap : Nat) (hr : (xs.length : Int) ≤ most - total cs) :
    Calls Try.prog 10 #[.pointer (some ⟨g, 0, none⟩), .slice a n cap] w1 fun e w' => e = .returned (.tuple #[.int .u32 ((cs.length + 1 : Nat) : Int), .int .i64 0]) ∧ Sp g most (cs ++ [some xs]) [] K w' ∧ Kp K w w' := by
  subst hn
  refine (put_new ((Sp.lies _ _ _ _).more A f) hc a xs cap (W.bd K) hr).mono ?_
  rintro e w' ⟨rfl, A', k⟩
  exact ⟨rfl, Sp.later f A' ((Sp.lies _ _ _ _).lt A) k⟩
theorem f_put_full (A : Sp g most cs back K w) {w1 : World} (f : Below w.heap.size w w1) (a : Option Addr) (n cap : Nat) (hr : most - total cs < (n : Int)) :
    Calls Try.prog 10 #[.pointer (some ⟨g, 0, none⟩), .slice a n cap] w1 fun e w' => e = .returned (.tuple #[.int .u32 0, .int .i64 4]) ∧ Sp g most cs back K w' ∧ Kp K w w' := by
  refine (put_full ((Sp.lies _ _ _ _).below A f) a n cap hr).mono ?_
  rintro e w' ⟨rfl, s⟩
  exact ⟨rfl, (Sp.lies _ _ _ _).still ((Sp.lies _ _ _ _).below A f) s, ((Kp.of_below f).mono ((Sp.lies _ _ _ _).lt A)).trans (s.kp K)⟩
theorem new_v (w : World) (n : Int) (h0 : 0 ≤ n) (h1 : n ≤ 16777216) : Calls Try.prog 7 #[.int .i64 n] w fun e w' => ∃ g, e = .returned (.pointer (some ⟨g, 0, none⟩)) ∧ Sp g n [] [] (fun k => k < w.heap.size) w' ∧ Kp (fun k => k < w.heap.size) w w' :=
  (new_any n h0 h1).mono fun e w' ⟨he, h, f⟩ => ⟨_, he, h, Kp.of_below f⟩
end
end Go.Proofs.Ytaoabjcbolncoaa
