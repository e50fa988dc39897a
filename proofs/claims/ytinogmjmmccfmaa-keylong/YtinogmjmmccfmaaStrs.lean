/- Keys as strings: their order and sameness as the language has it. -/
import Derived.Test.YtinogmjmmccfmaaWords
namespace Go.Proofs.Ytinogmjmmccfmaa
open Go.RowKit

theorem cmpK_cons (x y : Int) (xs ys : List Int) : cmpK (x :: xs) (y :: ys) = if x = y then cmpK xs ys else if x < y then -1 else 1 := by
  by_cases h : x = y
  · subst h
    have hl := common_le xs ys
    simp [cmpK, common]
  · have hc : common (x :: xs) (y :: ys) = 0 := by simp [common, h]
    unfold cmpK
    rw [hc]
    simp [h]

theorem ofNat_inj (x y : Int) (hx : 0 ≤ x ∧ x ≤ 255) (hy : 0 ≤ y ∧ y ≤ 255) : UInt8.ofNat x.toNat = UInt8.ofNat y.toNat ↔ x = y := by
  constructor
  · intro h
    have := congrArg UInt8.toNat h
    simp at this
    omega
  · rintro rfl; rfl

theorem ofNat_lt (x y : Int) (hx : 0 ≤ x ∧ x ≤ 255) (hy : 0 ≤ y ∧ y ≤ 255) : UInt8.ofNat x.toNat < UInt8.ofNat y.toNat ↔ x < y := by
  rw [UInt8.lt_iff_toNat_lt]
  simp
  omega

theorem less_cmp (xs ys : List Int) (hx : IsBytes xs) (hy : IsBytes ys) :
    Op.bytesLess (xs.map fun n => UInt8.ofNat n.toNat) (ys.map fun n => UInt8.ofNat n.toNat) = decide (cmpK xs ys = -1) := by
  induction xs generalizing ys with
  | nil =>
    cases ys with
    | nil => simp [Op.bytesLess, cmpK, common]
    | cons y ys => simp [Op.bytesLess, cmpK, common]
  | cons x xs ih =>
    cases ys with
    | nil => simp [Op.bytesLess, cmpK, common]
    | cons y ys =>
      have bx := hx x (by simp)
      have bY := hy y (by simp)
      have := ih ys (fun z hz => hx z (by simp [hz])) (fun z hz => hy z (by simp [hz]))
      simp only [List.map_cons, Op.bytesLess, cmpK_cons, this]
      rw [Bool.eq_iff_iff]
      simp only [Bool.or_eq_true, Bool.and_eq_true, decide_eq_true_eq, beq_iff_eq, ofNat_inj x y bx bY, ofNat_lt x y bx bY]
      by_cases h : x = y
      · simp [h]
      · rw [if_neg h]
        by_cases h2 : x < y
        · simp [h2]
        · simp [h2, h]

theorem strs_eq (xs ys : List Int) (hx : IsBytes xs) (hy : IsBytes ys) :
    ((xs.map fun n => UInt8.ofNat n.toNat) == (ys.map fun n => UInt8.ofNat n.toNat)) = decide (xs = ys) := by
  rw [Bool.eq_iff_iff]
  simp only [beq_iff_eq, decide_eq_true_eq]
  constructor
  · intro h
    refine getD_eq_of xs ys (by simpa using congrArg List.length h) fun i hi => ?_
    have hl : xs.length = ys.length := by simpa using congrArg List.length h
    have h1 := congrArg (fun l => l[i]?) h
    have b1 := hx.getD i
    have b2 := hy.getD i
    simp only [List.getElem?_map, List.getElem?_eq_getElem hi, List.getElem?_eq_getElem (show i < ys.length by omega), Option.map_some, Option.some.injEq] at h1
    simp only [List.getD_eq_getElem?_getD, List.getElem?_eq_getElem hi, List.getElem?_eq_getElem (show i < ys.length by omega), Option.getD_some] at b1 b2 ⊢
    exact (ofNat_inj _ _ b1 b2).1 h1
  · rintro rfl; rfl

theorem strNums_toList (xs : List Int) : (strOfNums xs).toList = xs.map fun n => UInt8.ofNat n.toNat := by
  rw [ByteArray.toList_eq]; rfl

/-- A slice of bytes read as a string. -/
theorem conv_str {P : Program} {src dst e : TypeId} (hs : P.underlying src = some (.slice e)) (he : P.underlying e = some (.int .u8)) (hd : P.underlying dst = some .string)
    {w : World} {a : Option Addr} {xs : List Int} (h : Rd w a xs) (c : Nat) : (convert src dst (.slice a xs.length c)).run P w = .ok (.string (strOfNums xs)) w := by
  obtain ⟨_, _, h3⟩ := h
  rcases h3 with rfl | ⟨b, off, rfl, hc⟩
  · cases a with
    | none => exact run_convert_bytes_nil w src e hs he 0 c dst hd
    | some x =>
      rw [run_convert_bytes_string w src dst e _ _ c hs he hd]
      show (Conv.bytesToString (.slice (some x) 0 c)).run P w = _
      rw [run_bytesToString (P := P) w x 0 c [] (by simpa using run_loadCells_list (P := P) w x [] (fun j v hj => by simp at hj))]
      rfl
  · exact run_convert_bytes_arg w src e hs he b off xs.length c xs rfl hc dst hd

end Go.Proofs.Ytinogmjmmccfmaa
