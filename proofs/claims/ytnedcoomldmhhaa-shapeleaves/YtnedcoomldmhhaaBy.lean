/- Bytes: slices that are read, rows that are owned; make, append, copy, convert. No function of the program here. -/
import Derived.Test.YtnedcoomldmhhaaRows
import Derived.Test.YtnedcoomldmhhaaKp
import Derived.Laws.CopyRow
import Derived.Laws.CopyOwn
import Derived.Lib.SlBytesConst
import Derived.Laws.BytesArg
namespace Go.Proofs.Ytnedcoomldmhhaa
set_option maxRecDepth 20000
open Go.RowKit
set_option linter.unusedVariables false

def IsBytes (xs : List Int) : Prop := ∀ x ∈ xs, 0 ≤ x ∧ x ≤ 255
theorem IsBytes.getD {xs : List Int} (h : IsBytes xs) (i : Nat) : 0 ≤ xs.getD i 0 ∧ xs.getD i 0 ≤ 255 := by
  by_cases hi : i < xs.length
  · have := h xs[i] (List.getElem_mem hi)
    simpa [List.getD_eq_getElem?_getD, hi] using this
  · simp [List.getD_eq_getElem?_getD, List.getElem?_eq_none (Nat.le_of_not_lt hi)]

/-- The bytes xs lie where a slice at a begins. -/
def Rd (w : World) (a : Option Addr) (xs : List Int) : Prop :=
  IsBytes xs ∧ xs.length ≤ maxLen ∧
  (xs = [] ∨ ∃ b off, a = some ⟨b, off, none⟩ ∧ ∀ i, i < xs.length → w.cell? ⟨b, off + i, none⟩ = some (.int .u8 (xs.getD i 0)))

theorem Rd.drewN {w : World} {a : Option Addr} {xs : List Int} (h : Rd w a xs) (n : Nat) : Rd (w.drewN n) a xs := h
theorem Rd.drew {w : World} {a : Option Addr} {xs : List Int} (h : Rd w a xs) : Rd w.drew a xs := h
theorem Rd.nil (w : World) (a : Option Addr) : Rd w a [] := ⟨fun x h => by simp at h, by simp, .inl rfl⟩

/-- What a slice reads is as it was where all that was there is. -/
theorem Rd.below {B : Nat} {w w' : World} {a : Option Addr} {xs : List Int} (h : Rd w a xs) (hb : Below B w w') (hB : w.heap.size ≤ B) : Rd w' a xs := by
  obtain ⟨h1, h2, h3⟩ := h
  refine ⟨h1, h2, ?_⟩
  rcases h3 with h3 | ⟨b, off, ha, hc⟩
  · exact .inl h3
  · refine .inr ⟨b, off, ha, fun i hi => ?_⟩
    have := World.block_lt_of_cell? w _ (hc i hi)
    rw [hb.cell (p := ⟨b, off + i, none⟩) (by simp at this ⊢; omega)]
    exact hc i hi

/-- Bytes as cells. -/
def u8s (xs : List Int) : List Value := xs.map (Value.int .u8)
theorem u8s_length (xs : List Int) : (u8s xs).length = xs.length := by simp [u8s]
theorem u8s_append (xs ys : List Int) : u8s (xs ++ ys) = u8s xs ++ u8s ys := by simp [u8s]
theorem u8s_one (xs : List Int) : ∀ u ∈ u8s xs, u.oneCell' = true := by
  intro u hu
  obtain ⟨x, _, rfl⟩ := List.mem_map.1 hu
  rfl
theorem u8s_get (xs : List Int) (i : Nat) (h : i < xs.length) : (u8s xs)[i]? = some (.int .u8 (xs.getD i 0)) := by
  simp [u8s, List.getElem?_map, List.getElem?_eq_getElem h]

/-- A slice that is read, as a source of an append. -/
theorem Rd.src {P : Program} {tx e' : TypeId} (hk : P.underlying tx = some (.slice e')) {w : World} {a : Option Addr} {xs : List Int} (h : Rd w a xs) (c : Nat) :
    Src P 1 tx (.slice a xs.length c) xs.length (u8s xs) w := by
  obtain ⟨_, _, h3⟩ := h
  rcases h3 with rfl | ⟨b, off, rfl, hc⟩
  · cases a with
    | none => exact Src.ofNil w hk c
    | some x => exact Src.ofSlice w hk x 0 c [] rfl (fun j u hu => by simp at hu) (fun u hu => by simp at hu)
  · refine Src.ofSlice w hk ⟨b, off, none⟩ xs.length c (u8s xs) (by simp [u8s]) (fun j u hu => ?_) (u8s_one xs)
    have hj : j < xs.length := by
      rcases Nat.lt_or_ge j xs.length with h | h
      · exact h
      · rw [List.getElem?_eq_none (by simpa [u8s] using h)] at hu; cases hu
    rw [u8s_get xs j hj] at hu
    cases hu
    have hplain : (⟨b, off, none⟩ : Addr).add j = ⟨b, off + j, none⟩ := by unfold Addr.add; split <;> simp_all
    rw [hplain]
    exact hc j hj

/-- A row that the call owns, of bytes: the value is a slice that reads as these bytes. -/
theorem owns_rd {w : World} {base : Nat} {e : TypeId} {v : Value} {n : Nat} {xs : List Int} (h : w.ownsRow base e 1 v n (u8s xs)) (hb : IsBytes xs) :
    ∃ a c, v = .slice a xs.length c ∧ Rd w a xs ∧ n = xs.length := by
  have hl : xs.length = n := by simpa [u8s] using h.1
  subst hl
  rcases h.2 with ⟨rfl, h0⟩ | ⟨g, cap, cur, rfl, hbg, hg, hnc, hcm, hcs, htake⟩
  · exact ⟨none, 0, by rw [h0], ⟨hb, by rw [h0]; simp, .inl (List.eq_nil_of_length_eq_zero h0)⟩, rfl⟩
  · refine ⟨_, cap, rfl, ⟨hb, by omega, .inr ⟨g, 0, rfl, fun i hi => ?_⟩⟩, rfl⟩
    have := h.cellAt i (by omega)
    rw [u8s_get xs i hi] at this
    simpa using this

/-- A block of the call's own, as a row that it owns. -/
theorem blk_owns {w : World} {base g n : Nat} {e : TypeId} {cs : List Value} (hg : w.heap[g]? = some (.cells cs.toArray e (0, 0))) (hb : base ≤ g) (hn : n ≤ cs.length) (hm : cs.length ≤ maxLen) :
    w.ownsRow base e 1 (.slice (some ⟨g, 0, none⟩) n cs.length) n (cs.take n) :=
  ⟨by simp; omega, .inr ⟨g, cs.length, cs.toArray, rfl, hb, hg, hn, hm, by simp, by simp⟩⟩

/-- A block of bytes, as a slice that is read. -/
theorem blk_rd {w : World} {g : Nat} {e : TypeId} {xs : List Int} (hg : w.heap[g]? = some (.cells (u8s xs).toArray e (0, 0))) (hb : IsBytes xs) (hm : xs.length ≤ maxLen) : Rd w (some ⟨g, 0, none⟩) xs :=
  ⟨hb, hm, .inr ⟨g, 0, rfl, fun i hi => by rw [block_cell hg, Nat.zero_add, u8s_get xs i hi]⟩⟩

theorem info_u8' : (Try.prog.info? 5).map (fun i => (i.zero, i.size, i.bytes)) = some (some (.int .u8 0), 1, 1) := by kernel_rfl
theorem info_u8 : ∃ i, Try.prog.info? 5 = some i ∧ i.zero = some (.int .u8 0) ∧ i.size = 1 ∧ i.bytes = 1 := by
  have h := info_u8'
  cases hq : Try.prog.info? 5 with
  | none => rw [hq] at h; cases h
  | some i =>
    rw [hq] at h
    simp at h
    exact ⟨i, rfl, h.1, h.2.1, h.2.2⟩
theorem size_u8 : (Try.prog.info? 5).map (·.size) = some 1 := by kernel_rfl

theorem make_u8 (w : World) (kl kc : IntKind) (l c : Int) (n cap : Nat) (hl : l = n) (hc : c = cap) (hn : n ≤ cap) (hb : cap ≤ 281474976710656) :
    ∃ w', (Instr.makeSlice 38 (.int kl l) (.int kc c)).run Try.prog w = .ok (.slice (some ⟨w.heap.size, 0, none⟩) n cap) w' ∧
      w'.heap[w.heap.size]? = some (.cells (List.replicate cap (.int .u8 0)).toArray 5 (0, 0)) ∧ Below w.heap.size w w' ∧ w'.heap.size = w.heap.size + 1 := by
  obtain ⟨i, h1, h2, h3, h4⟩ := info_u8
  exact run_make_blk 38 5 i (.int .u8 0) Try.underlying38 h1 h2 h3 rfl kl kc l c n cap hl hc hn (by rw [h4]; omega) (by unfold maxLen; omega)

theorem append_u8 (w : World) (ty tx : TypeId) (base : Nat) (v : Value) (n : Nat) (xs : List Value) (hown : w.ownsRow base 5 1 v n xs)
    (x : Value) (m : Nat) (news : List Value) (hs : Src Try.prog 1 tx x m news w) (hb : n + m ≤ 140737488355328) (hbase : base ≤ w.heap.size) :
    ∃ v' w', (Builtin.append_ #[38, tx] ty #[v, x]).run Try.prog w = .ok v' w' ∧ w'.ownsRow base 5 1 v' (n + m) (xs ++ news) ∧ w.grownBy w' v.ownBlock ∧
      (v'.ownBlock = v.ownBlock ∨ v'.ownBlock = some w.heap.size) ∧ (m = 0 → v' = v ∧ w' = w) ∧ w'.ownsRow base 5 1 v n xs := by
  obtain ⟨i, h1, h2, h3, h4⟩ := info_u8
  exact run_append_src base 38 tx ty 5 i (.int .u8 0) 1 1 Try.underlying38 h1 h2 h3 h4 rfl (by omega) v n xs hown x m news hs (by unfold maxLen; omega) (by omega) hbase

/-- append of one byte that was laid into a block of its own. -/
theorem append1_u8 (w : World) (base : Nat) (v : Value) (n : Nat) (xs : List Value) (x : Int) (hown : w.ownsRow base 5 1 v n xs) (hb : n + 1 ≤ 140737488355328) (hbase : base ≤ w.heap.size) :
    ∃ v' w', (Builtin.append_ #[38, 38] 38 #[v, .slice (some ⟨w.heap.size, 0, none⟩) 1 1]).run Try.prog (w.alloc (.cells #[.int .u8 x] 5)) = .ok v' w' ∧
      w'.ownsRow base 5 1 v' (n + 1) (xs ++ [.int .u8 x]) ∧ w.grownBy w' v.ownBlock ∧ (v'.ownBlock = v.ownBlock ∨ v'.ownBlock = some (w.heap.size + 1)) ∧ w'.ownsRow base 5 1 v n xs := by
  have hs : Src Try.prog 1 38 (.slice (some ⟨w.heap.size, 0, none⟩) 1 1) 1 [.int .u8 x] (w.alloc (.cells #[.int .u8 x] 5)) :=
    Src.ofSlice _ Try.underlying38 _ 1 1 _ rfl (fun j u hu => by
      have := World.news_of_block (heap_alloc_new w (.cells #[.int .u8 x] 5)) j u
      exact this (by simpa using hu)) (fun u hu => by simp at hu; subst hu; rfl)
  obtain ⟨v', w', r, o, g, b, _, hk⟩ := append_u8 (w.alloc (.cells #[.int .u8 x] 5)) 38 38 base v n xs (hown.alloc _) _ 1 _ hs hb (by simp; omega)
  refine ⟨v', w', r, o, ⟨g.os, g.tape, g.output, ?_, fun k hk hne => ?_⟩, by simpa using b, hk⟩
  · have := g.size; simp at this; omega
  · rw [g.block k (by simp; omega) hne]
    exact Below.heap_alloc _ _ _ hk

/-- What is owned stays so where nothing that was there turns. -/
theorem _root_.Go.World.ownsRow.below {w w' : World} {base : Nat} {e : TypeId} {size : Nat} {v : Value} {n : Nat} {xs : List Value} (h : w.ownsRow base e size v n xs) {B : Nat} (k : Below B w w') (hB : w.heap.size ≤ B) : w'.ownsRow base e size v n xs := by
  refine ⟨h.1, ?_⟩
  rcases h.2 with h | ⟨g, cap, cur, hv, hb, hg, h1, h2, h3, h4⟩
  · exact .inl h
  · exact .inr ⟨g, cap, cur, hv, hb, by rw [k.block g (by have := block_lt hg; omega)]; exact hg, h1, h2, h3, h4⟩

/-- A beginning of what a slice reads. -/
theorem Rd.take {w : World} {a : Option Addr} {xs : List Int} (h : Rd w a xs) (n : Nat) : Rd w a (xs.take n) := by
  obtain ⟨h1, h2, h3⟩ := h
  refine ⟨fun x hx => h1 x (List.mem_of_mem_take hx), by have := List.length_take_le n xs; simp; omega, ?_⟩
  rcases h3 with h3 | ⟨b, off, ha, hc⟩
  · exact .inl (by simp [h3])
  · refine .inr ⟨b, off, ha, fun i hi => ?_⟩
    have hi' : i < n ∧ i < xs.length := by simpa [Nat.lt_min] using hi
    rw [hc i hi'.2]
    simp [hi'.1]

theorem getD_eq_of (xs ys : List Int) (hl : xs.length = ys.length) (h : ∀ i, i < xs.length → xs.getD i 0 = ys.getD i 0) : xs = ys := by
  refine List.ext_getElem hl fun i h1 h2 => ?_
  have := h i h1
  simpa [List.getD_eq_getElem?_getD, h1, h2] using this

/-- copy into a block of the call's own, out of a slice that is read. -/
theorem run_copy_rd {P : Program} {w : World} (dT sT ty e t : TypeId) (hu : P.underlying dT = some (.slice e)) (hs : (P.info? e).map (·.size) = some 1)
    (g : Nat) (cur : List Value) (hg : w.heap[g]? = some (.cells cur.toArray t (0, 0))) (dLen dCap : Nat) (hfit : dLen ≤ cur.length) {a : Option Addr} {xs : List Int} (h : Rd w a xs) (c : Nat) :
    ∃ w', (Builtin.copy_ #[dT, sT] ty #[.slice (some ⟨g, 0, none⟩) dLen dCap, .slice a xs.length c]).run P w = .ok (.int .i64 (min xs.length dLen : Nat)) w' ∧
      w'.heap[g]? = some (.cells (u8s (xs.take dLen) ++ cur.drop (xs.take dLen).length).toArray t (0, 0)) ∧ w.grownBy w' (some g) ∧ w'.heap.size = w.heap.size := by
  by_cases h0 : Nat.min xs.length dLen = 0
  · refine ⟨w, ?_, ?_, ⟨rfl, rfl, rfl, Nat.le_refl _, fun _ _ _ => rfl⟩, rfl⟩
    · rw [run_copy_none (P := P) w dT sT ty e _ a dLen dCap xs.length c hu hs h0]
      have : min xs.length dLen = 0 := h0
      rw [this]; rfl
    · have : xs.take dLen = [] := List.eq_nil_of_length_eq_zero (by rw [List.length_take]; have : min xs.length dLen = 0 := h0; omega)
      rw [this]
      simpa [u8s] using hg
  · have hmin : (xs.take dLen).length = Nat.min xs.length dLen := by rw [List.length_take]; show min dLen xs.length = min xs.length dLen; omega
    obtain ⟨_, _, h3⟩ := h
    rcases h3 with rfl | ⟨b, off, rfl, hc⟩
    · simp at h0
    · have hr := run_copy_row (P := P) w dT sT ty e g 0 dLen dCap ⟨b, off, none⟩ xs.length c cur.toArray t (u8s (xs.take dLen)) hu hs hg (by rw [u8s_length, hmin]) (fun j v hj => by
          have hjl : j < (xs.take dLen).length := by
            rcases Nat.lt_or_ge j (xs.take dLen).length with h | h
            · exact h
            · rw [List.getElem?_eq_none (by simpa [u8s] using h)] at hj; cases hj
          rw [u8s_get _ j hjl] at hj
          cases hj
          have hplain : (⟨b, off, none⟩ : Addr).add j = ⟨b, off + j, none⟩ := by unfold Addr.add; split <;> simp_all
          have hj2 : j < dLen ∧ j < xs.length := by simpa [Nat.lt_min] using hjl
          rw [hplain, hc j hj2.2]
          simp [hj2.1]) (by simp [u8s]; omega) (u8s_one _)
      have hv : goInt ((u8s (xs.take dLen)).length : Nat) = .int .i64 (min xs.length dLen : Nat) := by rw [u8s_length, hmin]; rfl
      rw [hv] at hr
      refine ⟨_, hr, ?_, ⟨rfl, rfl, rfl, by simp [World.setRow], fun k _ hk => setRow_other w g k _ (fun e => hk (by rw [e]))⟩, by simp [World.setRow]⟩
      rw [setRow_heap w g _ _ t _ hg]
      simp [u8s_length]

/-- A constant text as bytes: a block of its own. -/
theorem run_bytes_const {P : Program} (t e : TypeId) (ht : P.underlying t = some (.slice e)) (he : P.underlying e = some (.int .u8)) (w : World) (C : Array Value) (n c H : Nat) (hH : w.heap.size = H) :
    (convert t t (.slice (some ⟨H, 0, none⟩) n c)).run P (w.alloc (.cells C e)) = .ok (.slice (some ⟨H, 0, none⟩) n c) (w.alloc (.cells C e (C.size, C.size + 1))) := by
  subst hH
  exact Lib.run_convert_bytes_const w t e C n c ht he

theorem rd_of_heap {w : World} {g : Nat} {cs : Array Value} {e : TypeId} {fr : Nat × Nat} (xs : List Int) (h : w.heap[g]? = some (.cells cs e fr)) (hcs : cs = (u8s xs).toArray) (hb : IsBytes xs) (hm : xs.length ≤ maxLen) :
    Rd w (some ⟨g, 0, none⟩) xs := by
  subst hcs
  refine ⟨hb, hm, .inr ⟨g, 0, rfl, fun i hi => ?_⟩⟩
  simp only [World.cell?, h]
  simpa using u8s_get xs i hi

theorem ofNat_inj (x y : Int) (hx : 0 ≤ x ∧ x ≤ 255) (hy : 0 ≤ y ∧ y ≤ 255) : UInt8.ofNat x.toNat = UInt8.ofNat y.toNat ↔ x = y := by
  constructor
  · intro h
    have := congrArg UInt8.toNat h
    simp at this
    omega
  · rintro rfl; rfl

theorem strs_eq (xs ys : List Int) (hx : IsBytes xs) (hy : IsBytes ys) :
    ((xs.map fun n => UInt8.ofNat n.toNat) == (ys.map fun n => UInt8.ofNat n.toNat)) = decide (xs = ys) := by
  rw [Bool.eq_iff_iff]
  simp only [beq_iff_eq, decide_eq_true_eq]
  constructor
  · intro h
    refine getD_eq_of xs ys (by simpa using congrArg List.length h) fun i hi => ?_
    have hl : xs.length = ys.length := by simpa using congrArg List.length h
    have h1 := congrArg (fun l => l[i]?) h
    have b1 := hx.getD i
    have b2 := hy.getD i
    simp only [List.getElem?_map, List.getElem?_eq_getElem hi, List.getElem?_eq_getElem (show i < ys.length by omega), Option.map_some, Option.some.injEq] at h1
    simp only [List.getD_eq_getElem?_getD, List.getElem?_eq_getElem hi, List.getElem?_eq_getElem (show i < ys.length by omega), Option.getD_some] at b1 b2 ⊢
    exact (ofNat_inj _ _ b1 b2).1 h1
  · rintro rfl; rfl

theorem strNums_toList (xs : List Int) : (strOfNums xs).toList = xs.map fun n => UInt8.ofNat n.toNat := by
  rw [ByteArray.toList_eq]; rfl

/-- A slice of bytes read as a string. -/
theorem conv_str {P : Program} {src dst e : TypeId} (hs : P.underlying src = some (.slice e)) (he : P.underlying e = some (.int .u8)) (hd : P.underlying dst = some .string)
    {w : World} {a : Option Addr} {xs : List Int} (h : Rd w a xs) (c : Nat) : (convert src dst (.slice a xs.length c)).run P w = .ok (.string (strOfNums xs)) w := by
  obtain ⟨_, _, h3⟩ := h
  rcases h3 with rfl | ⟨b, off, rfl, hc⟩
  · cases a with
    | none => exact run_convert_bytes_nil w src e hs he 0 c dst hd
    | some x =>
      rw [run_convert_bytes_string w src dst e _ _ c hs he hd]
      show (Conv.bytesToString (.slice (some x) 0 c)).run P w = _
      rw [run_bytesToString (P := P) w x 0 c [] (by simpa using run_loadCells_list (P := P) w x [] (fun j v hj => by simp at hj))]
      rfl
  · exact run_convert_bytes_arg w src e hs he b off xs.length c xs rfl hc dst hd


theorem rd_new1 (w : World) (e : TypeId) (fr : Nat × Nat) (xs : List Int) (cs : Array Value) (hcs : cs = (u8s xs).toArray) (hb : IsBytes xs) (hm : xs.length ≤ maxLen) :
    Rd (w.alloc (.cells cs e fr)) (some ⟨w.heap.size, 0, none⟩) xs := rd_of_heap xs (heap_alloc_new w _) hcs hb hm
/-- What a slice reads from its n-th byte on. -/
theorem Rd.drop {w : World} {b off : Nat} {xs : List Int} (h : Rd w (some ⟨b, off, none⟩) xs) (n : Nat) : Rd w (some ⟨b, off + n, none⟩) (xs.drop n) := by
  obtain ⟨h1, h2, h3⟩ := h
  refine ⟨fun x hx => h1 x (List.mem_of_mem_drop hx), by simp; omega, ?_⟩
  by_cases h0 : xs.length ≤ n
  · exact .inl (by simp [h0])
  · rcases h3 with h3 | ⟨b', off', ha, hc⟩
    · subst h3; simp at h0
    · simp only [Option.some.injEq, Addr.mk.injEq] at ha
      obtain ⟨rfl, rfl, -⟩ := ha
      refine .inr ⟨b, off + n, rfl, fun i hi => ?_⟩
      have hi' : n + i < xs.length := by simp at hi; omega
      have := hc (n + i) hi'
      rw [← Nat.add_assoc] at this
      rw [this]
      simp [List.getD_eq_getElem?_getD]
/-- Bytes that are handed in: none of them turns where K is kept. -/
def Bd (K : Nat → Prop) (w : World) (a : Option Addr) (xs : List Int) : Prop := Rd w a xs ∧ (xs = [] ∨ ∃ b off, a = some ⟨b, off, none⟩ ∧ K b)
theorem Bd.kp {K : Nat → Prop} {w w' : World} {a : Option Addr} {xs : List Int} (h : Bd K w a xs) (k : Kp K w w') : Bd K w' a xs := by
  obtain ⟨⟨h1, h2, h3⟩, h4⟩ := h
  refine ⟨⟨h1, h2, ?_⟩, h4⟩
  rcases h3 with h3 | ⟨b, off, rfl, hc⟩
  · exact .inl h3
  · rcases h4 with h4 | ⟨b', off', e, hK⟩
    · exact .inl h4
    · simp only [Option.some.injEq, Addr.mk.injEq] at e
      obtain ⟨rfl, rfl, -⟩ := e
      refine .inr ⟨b, off, rfl, fun i hi => ?_⟩
      have h5 := hc i hi
      rw [World.cell?_of_block (w := w) (w' := w') (a := ⟨b, off + i, none⟩) (k.block b hK (World.block_lt_of_cell? w _ h5))]
      exact h5
theorem Bd.up {K K' : Nat → Prop} {w : World} {a : Option Addr} {xs : List Int} (h : Bd K w a xs) (hk : ∀ k, K k → K' k) : Bd K' w a xs := by
  refine ⟨h.1, ?_⟩
  rcases h.2 with h4 | ⟨b, off, e, hK⟩
  · exact .inl h4
  · exact .inr ⟨b, off, e, hk b hK⟩
theorem Rd.bd {w : World} {a : Option Addr} {xs : List Int} (h : Rd w a xs) : Bd (fun k => k < w.heap.size) w a xs := by
  refine ⟨h, ?_⟩
  by_cases h0 : xs = []
  · exact .inl h0
  · rcases h.2.2 with h3 | ⟨b, off, rfl, hc⟩
    · exact .inl h3
    · refine .inr ⟨b, off, rfl, World.block_lt_of_cell? w _ (hc 0 (List.length_pos_iff.2 h0))⟩
/-- A block of bytes that is kept. -/
theorem blk_bd {K : Nat → Prop} {w : World} {g : Nat} {e : TypeId} {xs : List Int} (hg : Blk w g e (u8s xs)) (hb : IsBytes xs) (hm : xs.length ≤ maxLen) (hK : K g) : Bd K w (some ⟨g, 0, none⟩) xs :=
  ⟨blk_rd hg hb hm, .inr ⟨g, 0, rfl, hK⟩⟩
/-- A row of bytes of the call's own that is kept. -/
theorem owns_bd {K : Nat → Prop} {w : World} {base : Nat} {e : TypeId} {v : Value} {n : Nat} {xs : List Int} (h : w.ownsRow base e 1 v n (u8s xs)) (hb : IsBytes xs) (hk : ∀ k, v.ownBlock = some k → K k) : ∃ a c, v = .slice a xs.length c ∧ Bd K w a xs ∧ n = xs.length := by
  obtain ⟨a, c, rfl, hr, hn⟩ := owns_rd h hb
  refine ⟨a, c, rfl, ⟨hr, ?_⟩, hn⟩
  by_cases h0 : xs.length = 0
  · exact .inl (List.eq_nil_of_length_eq_zero h0)
  · obtain ⟨g, cap', e⟩ := owns_slice h (by omega)
    simp only [Value.slice.injEq] at e
    obtain ⟨rfl, -, rfl⟩ := e
    exact .inr ⟨g, 0, rfl, hk g rfl⟩
theorem info_of {e : TypeId} {z : Value} {s b : Nat} (h : (Try.prog.info? e).map (fun i => (i.zero, i.size, i.bytes)) = some (some z, s, b)) : ∃ i, Try.prog.info? e = some i ∧ i.zero = some z ∧ i.size = s ∧ i.bytes = b := by
  cases hq : Try.prog.info? e with
  | none => rw [hq] at h; cases h
  | some i =>
    rw [hq] at h
    simp only [Option.map_some, Option.some.injEq, Prod.mk.injEq] at h
    exact ⟨i, rfl, h.1, h.2.1, h.2.2⟩
end Go.Proofs.Ytnedcoomldmhhaa
