/- The document's pool: Put. -/
import Derived.Test.YtaoabjcbolncoaaRfC6
namespace Go.Proofs.Ytaoabjcbolncoaa
open Go.RowKit
set_option linter.unusedVariables false
set_option linter.unusedSimpArgs false

theorem rput_full {K : Nat → Prop} {w : World} {g : Nat} {most : Int} {cs : Strs} {back : List Nat} (A : Rf g most cs back K w) (a : Option Addr) (n cap : Nat) (hr : most - total cs < (n : Int)) :
    Calls Try.prog 13 #[.pointer (some ⟨g, 0, none⟩), .slice a n cap] w fun e w' => e = .returned (.tuple #[.int .u32 0, .int .i64 4]) ∧ Still w w' := by
  have hroom := A.good.room
  have hlim := A.good.lim
  obtain ⟨rs, h1, ⟨k0, vs, vt, vb, a0, kk⟩, h3⟩ := A
  have c0 : w.cell? ⟨g, 3, none⟩ = some (.int .i64 most) := a0.blk.cell 3
  have c1 : w.cell? ⟨g, 4, none⟩ = some (.int .i64 (total cs)) := a0.blk.cell 4
  have hd : wrap64 (most - total cs) = most - total cs := wrap64_in _ (by omega)
  clear a0 kk h3 k0 h1 hroom hlim
  generalize (total cs : Int) = u at *
  go_enter Try.func13, Try.ntmps13
  go_wp2
  go_quiet (fail)
  go_wp2
  go_ret2
  exact ⟨rfl, _, rfl⟩

set_option maxHeartbeats 1600000 in
theorem rput_walk_back {w : World} {g gs cas gt cat gb cab N rl L cap bl : Nat} {a : Option Addr} {most u u2 : Int}
    (x3 : w.cell? ⟨g, 3, none⟩ = some (.int .i64 most)) (x4 : w.cell? ⟨g, 4, none⟩ = some (.int .i64 u)) (x4' : w.frozen? ⟨g, 4, none⟩ = false)
    (hd : wrap64 (most - u) = most - u) (hw : (L : Int) ≤ most - u)
    (hud : u + (L : Int) = u2) (e1 : wrap64 u2 = u2) (e2 : IntKind.i64.wrap u2 = u2) 
    (n1 : ¬ gs = g) (n1' : ¬ g = gs) (n2 : ¬ gt = g) (n2' : ¬ g = gt) (n3 : ¬ gs = gt) (n3' : ¬ gt = gs) (n4 : ¬ gb = g) (n4' : ¬ g = gb) (hN : N < rl) (hcb : bl + 1 ≤ cab) (hbl : bl ≤ 2147483648)
    {P : World → Prop} (R : ∀ W, Still w W → ∃ av capv w', (Builtin.append_ #[29, 29] 29 #[.slice none 0 0, .slice a L cap]).run Try.prog (W.setCell ⟨g, 4, none⟩ (.int .i64 u2)) = .ok (.slice av L capv) w' ∧
      w'.cell? ⟨g, 0, none⟩ = some (.slice (some ⟨gs, 0, none⟩) rl cas) ∧ w'.cell? ⟨g, 1, none⟩ = some (.slice (some ⟨gt, 0, none⟩) rl cat) ∧ w'.cell? ⟨g, 2, none⟩ = some (.slice (some ⟨gb, 0, none⟩) (bl + 1) cab) ∧ w'.frozen? ⟨g, 2, none⟩ = false ∧
      w'.cell? ⟨gb, bl, none⟩ = some (.int .u32 (N : Int)) ∧ (∃ y, w'.cell? ⟨gs, N, none⟩ = some y) ∧ w'.frozen? ⟨gs, N, none⟩ = false ∧ (∃ y, w'.cell? ⟨gt, N, none⟩ = some y) ∧ w'.frozen? ⟨gt, N, none⟩ = false ∧
      ∀ W2, Still (((w'.setCell ⟨g, 2, none⟩ (.slice (some ⟨gb, 0, none⟩) bl cab)).setCell ⟨gs, N, none⟩ (.slice av L capv)).setCell ⟨gt, N, none⟩ (.bool true)) W2 → P W2) :
    Calls Try.prog 13 #[.pointer (some ⟨g, 0, none⟩), .slice a L cap] w fun e w' => e = .returned (.tuple #[.int .u32 (N : Int), .int .i64 0]) ∧ P w' := by
  have hw' : ¬ (most - u < (L : Int)) := by omega
  have hNi : (N : Int) < (rl : Int) := by omega
  have b1 : IntKind.i64.wrap (((bl + 1 : Nat) : Int) - 1) = (bl : Int) := by rw [IntKind.wrap_i64]; omega
  have b2 : (((bl + 1 : Nat) : Int) - 1) = (bl : Int) := by omega
  have b3 : wrap64 (bl : Int) = (bl : Int) := wrap64_in _ (by omega)
  have HR := hide R
  clear R
  go_enter Try.func13, Try.ntmps13
  go_wp2_with fail
  go_quiet (fail)
  obtain ⟨av, capv, w', r, y0, y1, y2, y3, y4, ⟨z5, y5⟩, y6, ⟨z7, y7⟩, y8, hP⟩ := HR.out _ ⟨nq, rfl⟩
  have HP := hide hP
  clear hP
  go_upto_region 7 with (at_builtin; refine wpList_append_run rfl _ _ _ _ rfl _ _ _ _ rfl rfl r ?_)
  clear hud e1 e2 hd hw hw' x3 x4 x4' HR r
  go_wp2_with fail
  go_region
  all_goals (
    go_wp2_with fail
    go_ret2
    exact ⟨rfl, HP.out _ ⟨1, rfl⟩⟩)

/-- append of one cell that lies in a block of its own. -/
theorem append_at {P : Program} (w : World) (t e : TypeId) (i : TypeInfo) (z : Value) (bytes : Nat) (ht : P.underlying t = some (.slice e)) (hi : P.info? e = some i) (hz : i.zero = some z)
    (hsize : i.size = 1) (hby : i.bytes = bytes) (hzs : z.cells.size = 1) (v : Value) (n : Nat) (xs : List Value) (hown : w.ownsRow 0 e 1 v n xs) (p : Nat) (x : Value) (hx : x.oneCell' = true) (hp : Blk w p e [x])
    (h63 : n + 1 ≤ 1099511627776) (hby2 : bytes ≤ 64) :
    ∃ av cap w', (Builtin.append_ #[t, t] t #[v, .slice (some ⟨p, 0, none⟩) 1 1]).run P w = .ok (.slice av (n + 1) cap) w' ∧ w'.ownsRow 0 e 1 (.slice av (n + 1) cap) (n + 1) (xs ++ [x]) ∧
      w.grownBy w' v.ownBlock ∧ (Value.ownBlock (.slice av (n + 1) cap) = v.ownBlock ∨ Value.ownBlock (.slice av (n + 1) cap) = some w.heap.size) := by
  have hs : Src P 1 t (.slice (some ⟨p, 0, none⟩) 1 1) 1 [x] w :=
    Src.ofSlice _ ht _ 1 1 _ rfl (fun j u hu => by
      have := World.news_of_block hp j u
      exact this (by simpa using hu)) (fun u hu => by simp at hu; subst hu; exact hx)
  obtain ⟨v', w', r, o, g, hb, _⟩ := run_append_src (P := P) (w := w) 0 t t t e i z 1 bytes ht hi hz hsize hby hzs (by omega) v n xs hown _ 1 [x] hs (by unfold maxLen; omega) (by
    have : (n + 1) * bytes ≤ 1099511627776 * 64 := Nat.mul_le_mul h63 hby2
    omega) (Nat.zero_le _)
  obtain ⟨av, cap, rfl⟩ := owns_slice' o
  exact ⟨av, cap, w', r, o, g, hb⟩
theorem info_bs : ∃ i, Try.prog.info? 29 = some i ∧ i.zero = some (.slice none 0 0) ∧ i.size = 1 ∧ i.bytes = 24 := info_of (by kernel_rfl)
theorem info_b : ∃ i, Try.prog.info? 4 = some i ∧ i.zero = some (.bool false) ∧ i.size = 1 ∧ i.bytes = 1 := info_of (by kernel_rfl)
/-- What the second append leaves, and both stores. -/
def After2 (P : World → Prop) (g : Nat) (vs vs' vt : Value) (rl : Nat) (W2 : World) (p2 : Nat) : Prop :=
  ∃ av2 c2 w2, (Builtin.append_ #[44, 44] 44 #[vt, .slice (some ⟨p2, 0, none⟩) 1 1]).run Try.prog W2 = .ok (.slice av2 (rl + 1) c2) w2 ∧ w2.cell? ⟨g, 0, none⟩ = some vs ∧ w2.frozen? ⟨g, 0, none⟩ = false ∧ w2.cell? ⟨g, 1, none⟩ = some vt ∧ w2.frozen? ⟨g, 1, none⟩ = false ∧
    ∀ W, Still ((w2.setCell ⟨g, 0, none⟩ vs').setCell ⟨g, 1, none⟩ (.slice av2 (rl + 1) c2)) W → P W
/-- What the first append leaves. -/
def After1 (P : World → Prop) (g : Nat) (vs vt own : Value) (rl : Nat) (w' W1 : World) (p1 : Nat) : Prop :=
  ∃ av1 c1 w1, (Builtin.append_ #[43, 43] 43 #[vs, .slice (some ⟨p1, 0, none⟩) 1 1]).run Try.prog W1 = .ok (.slice av1 (rl + 1) c1) w1 ∧ w1.cell? ⟨g, 0, none⟩ = some vs ∧ w1.cell? ⟨g, 1, none⟩ = some vt ∧ W1.heap.size ≤ w1.heap.size ∧ (∀ p2, Blk W1 p2 4 [.bool true] → Blk w1 p2 4 [.bool true]) ∧
    ∀ W2 p2, Below w1.heap.size w1 W2 → Blk W2 p2 4 [.bool true] → w'.heap.size ≤ p2 → After2 P g vs (.slice av1 (rl + 1) c1) vt rl W2 p2

end Go.Proofs.Ytaoabjcbolncoaa
