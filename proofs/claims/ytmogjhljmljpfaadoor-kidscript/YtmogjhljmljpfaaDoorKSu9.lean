/- A node beside an array of handles; bools that came in. -/
import Derived.Test.YtmogjhljmljpfaaDoorKBd9
import Derived.Deep.WholeRow
namespace Go.Proofs.YtmogjhljmljpfaaDoor
set_option maxRecDepth 20000
open Go.RowKit Go.Sort
set_option linter.unusedVariables false
set_option linter.unusedSimpArgs false

theorem rdn_at {w : World} {a : Option Addr} {xs : List Nat} (h : Rd w a (ints xs)) (k : Nat) (hk : k < xs.length) : ∃ g o, a = some ⟨g, o, none⟩ ∧ ∀ i, i < xs.length → w.cell? ⟨g, o + i, none⟩ = some (.int .u8 ((xs.getD i 0 : Nat) : Int)) := by
  rcases h.2.2 with h0 | ⟨g, o, rfl, hc⟩
  · have := ints_len xs; rw [h0] at this; simp at this; omega
  · refine ⟨g, o, rfl, fun i hi => ?_⟩
    rw [hc i (by rw [ints_len]; exact hi), ints_getD]
/-- A slice of bools that reads so. -/
def Bo (w : World) (a : Option Addr) (bs : List Bool) : Prop := bs = [] ∨ ∃ g o, a = some ⟨g, o, none⟩ ∧ ∀ i, i < bs.length → w.cell? ⟨g, o + i, none⟩ = some (.bool (bs.getD i false))
theorem Bo.below {B : Nat} {w w' : World} {a : Option Addr} {bs : List Bool} (h : Bo w a bs) (f : Below B w w') (hB : w.heap.size ≤ B) : Bo w' a bs := by
  rcases h with h | ⟨g, o, e, hc⟩
  · exact .inl h
  · refine .inr ⟨g, o, e, fun i hi => ?_⟩
    have h1 := hc i hi
    have hlt := World.block_lt_of_cell? w _ h1
    have hlt' : g < w.heap.size := hlt
    rw [World.cell?_of_block (w := w) (w' := w') (a := ⟨g, o + i, none⟩) (f.block g (by omega))]
    exact h1
theorem Bo.at {w : World} {a : Option Addr} {bs : List Bool} (h : Bo w a bs) (k : Nat) (hk : k < bs.length) : ∃ g o, a = some ⟨g, o, none⟩ ∧ ∀ i, i < bs.length → w.cell? ⟨g, o + i, none⟩ = some (.bool (bs.getD i false)) := by
  rcases h with h | h
  · rw [h] at hk; simp at hk
  · exact h

def arrF (f : Nat → Nat) : List Nat := (List.range 256).map f
theorem arr_len (f : Nat → Nat) : (u32s (arrF f)).length = 256 := by simp [u32s, arrF]
theorem arr_get (f : Nat → Nat) (k : Nat) (h : k < 256) : (u32s (arrF f))[k]? = some (.int .u32 (f k : Int)) := by simp [u32s, arrF, h]
theorem arr_set (f : Nat → Nat) (k x : Nat) (h : k < 256) : (u32s (arrF f)).set k (.int .u32 (x : Int)) = u32s (arrF (upd f k x)) := by
  apply List.ext_getElem?
  intro i
  rw [List.getElem?_set]
  by_cases hi : i < 256
  · rw [arr_get _ _ hi]
    split
    · rename_i e
      subst e
      rw [if_pos (by rw [arr_len]; exact hi), arr_get _ _ hi, upd_same]
    · rename_i e
      rw [arr_get _ _ hi, upd_other _ _ _ _ (fun x => e x.symm)]
  · have h1 : (u32s (arrF (upd f k x)))[i]? = none := List.getElem?_eq_none (by rw [arr_len]; omega)
    rw [h1]
    split
    · omega
    · exact List.getElem?_eq_none (by rw [arr_len]; omega)
set_option maxRecDepth 100000 in
theorem zero_arr : (∀ w, (zeroValue 40).run Tryd.prog w = .ok (.agg (u32s (arrF f0)).toArray) w) ∧ (Tryd.prog.info? 40).map (·.size) = some 256 := zero_of_info (by kernel_rfl)

/-- Any Put, any Drop. -/
theorem kput_any {g s : Nat} {f : Nat → Nat} {K : Nat → Prop} {w : World} (h : Kd g s f K w) (T : Tb w) (hK0 : K 0) (hK1 : K 1) (b : Nat) (hb : b < 256) (x : Nat) (hx : x ≠ 0) (hx2 : x < 4294967296) : Calls Tryd.prog 10 #[.pointer (some ⟨g, 0, none⟩), .int .u8 (b : Int), .int .u32 (x : Int)] w fun r w' => r = .returned (.int .i64 0) ∧ Kd g (if f b = 0 then upK s (cntF (upd f b x)) else s) (upd f b x) K w' ∧ Kp K w w' := by
  by_cases hf : f b = 0
  · rw [if_pos hf]; exact kput_new h T hK0 hK1 b hb hf x hx hx2
  · rw [if_neg hf]; exact kput_there h b hb hf x hx hx2
theorem kdrop_any {g s : Nat} {f : Nat → Nat} {K : Nat → Prop} {w : World} (h : Kd g s f K w) (T : Tb w) (hK0 : K 0) (hK1 : K 1) (b : Nat) (hb : b < 256) : Calls Tryd.prog 12 #[.pointer (some ⟨g, 0, none⟩), .int .u8 (b : Int)] w fun r w' => r = .returned (.tuple #[.int .u32 (f b : Int), .bool (decide (f b ≠ 0))]) ∧ Kd g (if f b = 0 then s else downK s (cntF (upd f b 0))) (upd f b 0) K w' ∧ Kp K w w' := by
  by_cases hf : f b = 0
  · rw [if_pos hf]
    refine (kdrop_none h b hb hf).mono fun r w' ⟨e, f1⟩ => ⟨?_, ?_, ?_⟩
    · rw [e, hf]; rfl
    · have : upd f b 0 = f := by
        funext c; unfold upd; split
        · rename_i e; rw [e, hf]
        · rfl
      rw [this]
      exact (Kd.lies g s f).below h f1
    · exact (Kp.of_below f1).mono (fun k hk => (Kd.lies g s f).lt h k hk)
  · rw [if_neg hf]
    refine (kdrop_there h T hK0 hK1 b hb hf).mono fun r w' ⟨e, a, k⟩ => ⟨?_, a, k⟩
    rw [e, decide_eq_true hf]

structure StK (w0 : World) (g hb s : Nat) (f a : Nat → Nat) (w : World) : Prop where
  kd : Kd g s f (fun k => k < w0.heap.size ∨ k = hb) w
  ar : Blk w hb 40 (u32s (arrF a))
  bl : Below w0.heap.size w0 w
  ge : w0.heap.size ≤ hb
section
variable {w0 w w' : World} {g hb s : Nat} {f a : Nat → Nat}
theorem StK.tb (h : StK w0 g hb s f a w) (T : Tb w0) : Tb w := T.below h.bl T.two
theorem StK.kp (h : StK w0 g hb s f a w) {s' : Nat} {f' : Nat → Nat} (k : Kp (fun k => k < w0.heap.size ∨ k = hb) w w') (d : Kd g s' f' (fun k => k < w0.heap.size ∨ k = hb) w') : StK w0 g hb s' f' a w' :=
  ⟨d, h.ar.kp k (.inr rfl), h.bl.trans (k.below h.bl.size (fun k hk => .inl hk)), h.ge⟩
theorem StK.below (h : StK w0 g hb s f a w) (b : Below w.heap.size w w') : StK w0 g hb s f a w' :=
  h.kp ((Kp.of_below b).mono (fun k hk => (Kd.lies g s f).lt h.kd k hk)) ((Kd.lies g s f).below h.kd b)
theorem StK.still (h : StK w0 g hb s f a w) (b : Still w w') : StK w0 g hb s f a w' := h.kp (b.kp _) ((Kd.lies g s f).still h.kd b)
theorem StK.store (h : StK w0 g hb s f a w) (b x : Nat) (hb' : b < 256) : StK w0 g hb s f (upd a b x) (w.setCell ⟨hb, b, none⟩ (.int .u32 (x : Int))) :=
  ⟨(Kd.lies g s f).kp h.kd (K' := fun k => k ≠ hb) ((Kp.refl _ w).setCell hb b _ (fun h => h rfl)) (fun k _ hk e => hk (.inr e)), by rw [← arr_set a b x hb']; exact h.ar.set b _, h.bl.setCell h.ge _, h.ge⟩
theorem StK.cell (h : StK w0 g hb s f a w) (b : Nat) (hb' : b < 256) : w.cell? ⟨hb, b, none⟩ = some (.int .u32 (a b : Int)) := (h.ar.cell b).trans (arr_get a b hb')
theorem StK.put (h : StK w0 g hb s f a w) (T : Tb w0) (b : Nat) (hb' : b < 256) (x : Nat) (hx : x ≠ 0) (hx2 : x < 4294967296) : Calls Tryd.prog 10 #[.pointer (some ⟨g, 0, none⟩), .int .u8 (b : Int), .int .u32 (x : Int)] w fun r w' => r = .returned (.int .i64 0) ∧ ∃ s', StK w0 g hb s' (upd f b x) a w' :=
  (kput_any h.kd (h.tb T) (.inl (by have := T.two; omega)) (.inl (by have := T.two; omega)) b hb' x hx hx2).mono fun r w' ⟨e, d, k⟩ => ⟨e, _, h.kp k d⟩
theorem StK.drop (h : StK w0 g hb s f a w) (T : Tb w0) (b : Nat) (hb' : b < 256) : Calls Tryd.prog 12 #[.pointer (some ⟨g, 0, none⟩), .int .u8 (b : Int)] w fun r w' => r = .returned (.tuple #[.int .u32 (f b : Int), .bool (decide (f b ≠ 0))]) ∧ ∃ s', StK w0 g hb s' (upd f b 0) a w' :=
  (kdrop_any h.kd (h.tb T) (.inl (by have := T.two; omega)) (.inl (by have := T.two; omega)) b hb').mono fun r w' ⟨e, d, k⟩ => ⟨e, _, h.kp k d⟩
/-- What was made, and the array behind it. -/
theorem StK.of (h : Kd g s f (fun k => k < w0.heap.size) w) (b : Below w0.heap.size w0 w) (Z : Array Value) (hZ : Z = (u32s (arrF a)).toArray) : StK w0 g w.heap.size s f a (w.alloc (.cells Z 40)) := by
  refine ⟨(Kd.lies g s f).weaken ((Kd.lies g s f).more h ((Below.refl _ _).alloc (Nat.le_refl _) _)) ?_, Blk.new w _ _ _ hZ, b.alloc b.size _, b.size⟩
  rintro k (hk | rfl)
  · exact .inl hk
  · exact .inr ⟨Nat.le_refl _, by simp⟩
end
end Go.Proofs.YtmogjhljmljpfaaDoor
