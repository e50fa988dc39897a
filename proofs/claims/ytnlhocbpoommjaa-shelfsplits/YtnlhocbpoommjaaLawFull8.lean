/- ShelfFull. -/
import Derived.Test.YtnlhocbpoommjaaAwake8
import Derived.Test.YtnlhocbpoommjaaLow6
namespace Go.Proofs.Ytnlhocbpoommjaa
open Go.RowKit Go.Sort
set_option linter.unusedVariables false
set_option linter.unusedSimpArgs false
set_option maxRecDepth 20000

theorem putM_len_new {k : List Int} {v : Int} {ps : List KV} (h : isIn k ps = false) : (putM k v ps).length = ps.length + 1 := by
  have := rank_le k ps
  unfold putM; rw [h]; simp; omega
theorem putM_len_old {k : List Int} {v : Int} {ps : List KV} (h : isIn k ps = true) : (putM k v ps).length = ps.length := by
  have := isIn_lt h
  unfold putM; rw [h]; simp; omega
theorem dropM_len {k : List Int} {ps : List KV} (h : isIn k ps = true) : (dropM k ps).length + 1 = ps.length := by
  have := isIn_lt h
  unfold dropM; rw [h]; simp; omega
theorem mem_dropM {k : List Int} {ps : List KV} {p : KV} (h : p ∈ dropM k ps) : p ∈ ps := by
  unfold dropM at h
  split at h
  · rcases List.mem_append.1 h with h | h
    · exact List.mem_of_mem_take h
    · exact List.mem_of_mem_drop h
  · exact h
theorem find_mem {ps : List KV} (h : Ups ps) {k : List Int} {v : Int} (hm : (k, v) ∈ ps) : isIn k ps = true ∧ valO (findM k ps) = v := by
  obtain ⟨i, hi⟩ := List.getElem?_of_mem hm
  have h1 := isIn_at h hi
  have h2 := rank_at h hi
  refine ⟨h1, ?_⟩
  unfold findM
  simp only at h1 h2
  rw [h1, h2, hi]
  rfl
theorem isIn_none {ps : List KV} (h : Ups ps) {k : List Int} (hm : ∀ v, (k, v) ∉ ps) : isIn k ps = false := by
  cases hb : isIn k ps with
  | false => rfl
  | true => obtain ⟨v, hv⟩ := (isIn_iff h k).1 hb; exact absurd hv (hm v)
/-- The i-th key. -/
def kf (S : Nat) (i : Nat) : List Int := [wrap64 ((i : Int) * (S : Int)) % 256, (i : Int)]
theorem kf_bytes (S i : Nat) (h : i < 8) : IsBytes (kf S i) := by
  intro x hx
  simp only [kf, List.mem_cons, List.not_mem_nil, or_false] at hx
  rcases hx with rfl | rfl <;> omega
def fM (S : Nat) : Nat → List KV
  | 0 => []
  | i + 1 => putM (kf S i) (i : Int) (fM S i)
theorem fM_ups (S : Nat) : ∀ i, Ups (fM S i)
  | 0 => List.Pairwise.nil
  | i + 1 => putM_ups (fM_ups S i) _ _
theorem kf_inj {S i j : Nat} (h : kf S i = kf S j) : i = j := by
  simp [kf] at h; omega
theorem fM_mem (S : Nat) : ∀ (i : Nat) (k : List Int) (v : Int), (k, v) ∈ fM S i ↔ ∃ j : Nat, j < i ∧ k = kf S j ∧ v = j
  | 0, k, v => by simp [fM]
  | i + 1, k, v => by
    show (k, v) ∈ putM _ _ _ ↔ _
    rw [mem_putM (fM_ups S i)]
    by_cases hk : kf S i = k
    · rw [if_pos hk]
      constructor
      · intro h; exact ⟨i, by omega, hk.symm, h⟩
      · rintro ⟨j, hj, e1, e2⟩
        have : i = j := kf_inj (hk.trans e1)
        rw [this]; exact e2
    · rw [if_neg hk, fM_mem S i]
      constructor
      · rintro ⟨j, hj, e⟩; exact ⟨j, by omega, e⟩
      · rintro ⟨j, hj, e1, e2⟩
        have : j ≠ i := fun e => hk (by rw [← e]; exact e1.symm)
        exact ⟨j, by omega, e1, e2⟩
theorem fM_new (S i : Nat) : isIn (kf S i) (fM S i) = false := isIn_none (fM_ups S i) (fun v h => by
  obtain ⟨j, hj, e, _⟩ := (fM_mem S i _ _).1 h
  have := kf_inj e; omega)
theorem fM_len (S : Nat) : ∀ i, (fM S i).length = i
  | 0 => rfl
  | i + 1 => by show (putM _ _ _).length = _; rw [putM_len_new (fM_new S i), fM_len S i]
theorem isIn_long {ps : List KV} (h : Ups ps) {k : List Int} (hk : k.length ≠ 2) (hp : ∀ p ∈ ps, p.1.length = 2) : isIn k ps = false := isIn_none h (fun v hv => hk (hp _ hv))

theorem rd_kf (w : World) (T i : Nat) (h : i < 8) : Rd (w.alloc (.cells #[.int .u8 (wrap64 ((i : Int) * (T : Int)) % 256), .int .u8 (i : Int)] 5)) (some ⟨w.heap.size, 0, none⟩) (kf T i) := rd_new1 w _ _ (kf T i) _ rfl (kf_bytes T i h) (by simp [kf, maxLen])
theorem put_kf {g : Nat} {ps : List KV} {K : Nat → Prop} (w : World) (kb T i : Nat) (u : Int) (h : Sh.Md g ps K w) (ht : Rd w (some ⟨kb, 0, none⟩) (kf T i)) (hu : 0 ≤ u ∧ u ≤ 18446744073709551615) (hn : ps.length < 8 ∨ isIn (kf T i) ps = true) :
    Calls Try.prog 44 #[.pointer (some ⟨g, 0, none⟩), .slice (some ⟨kb, 0, none⟩) 2 2, .int .u64 u] w fun r w' => r = .returned (.tuple #[.int .u64 (valO (findM (kf T i) ps)), .bool (isIn (kf T i) ps), .int .i64 0]) ∧ Sh.Md g (putM (kf T i) u ps) K w' ∧ Kp K w w' :=
  Sh.put_any (some ⟨kb, 0, none⟩) 2 (kf T i) u w h ht (by simp [kf]) hu hn
theorem drop_kf {g : Nat} {ps : List KV} {K : Nat → Prop} (w : World) (kb T i : Nat) (h : Sh.Md g ps K w) (ht : Rd w (some ⟨kb, 0, none⟩) (kf T i)) :
    Calls Try.prog 43 #[.pointer (some ⟨g, 0, none⟩), .slice (some ⟨kb, 0, none⟩) 2 2] w fun r w' => r = .returned (.tuple #[.int .u64 (valO (findM (kf T i) ps)), .bool (isIn (kf T i) ps)]) ∧ Sh.Md g (dropM (kf T i) ps) K w' ∧ Kp K w w' :=
  Sh.drop_any (some ⟨kb, 0, none⟩) 2 (kf T i) w h ht
theorem find_none {ps : List KV} {k : List Int} (h : isIn k ps = false) : valO (findM k ps) = 0 := by unfold findM; rw [h]; rfl
theorem kp_rd {K : Nat → Prop} {w w' : World} {b off : Nat} {xs : List Int} (h : Rd w (some ⟨b, off, none⟩) xs) (k : Kp K w w') (hb : K b) : Rd w' (some ⟨b, off, none⟩) xs := by
  refine ⟨h.1, h.2.1, ?_⟩
  rcases h.2.2 with h0 | ⟨b', off', e, hc⟩
  · exact .inl h0
  · simp only [Option.some.injEq, Addr.mk.injEq] at e
    obtain ⟨rfl, rfl, -⟩ := e
    refine .inr ⟨b, off, rfl, fun i hi => ?_⟩
    have h1 := hc i hi
    have hlt := World.block_lt_of_cell? w _ h1
    rw [World.cell?_of_block (w := w) (w' := w') (a := ⟨b, off + i, none⟩) (k.block b hb hlt)]
    exact h1

set_option maxHeartbeats 3200000 in
theorem full_any (spread which : Int) (h0 : -9223372036854775808 ≤ spread) (h1 : spread ≤ 9223372036854775807) (h2 : -9223372036854775808 ≤ which) (h3 : which ≤ 9223372036854775807) (w : World) :
    Calls Try.prog 9 #[.int .i64 spread, .int .i64 which] w fun e w' => e = .returned (.bool true) ∧ Below w.heap.size w w' := by
  obtain ⟨M, hM, -, L0⟩ := low_nat spread 100 h0 h1 (by omega) (by omega)
  obtain ⟨X, hX, -, L1⟩ := low_nat which 8 h2 h3 (by omega) (by omega)
  have HL0 := hide L0
  have HL1 := hide L1
  have kc := run_bytes_const (P := Try.prog) 24 5 Try.underlying24 Try.underlying5
  clear L0 L1 h0 h1 h2 h3
  go_enter Try.func9, Try.ntmps9
  go_wp2_with fail
  refine (HL0.out _).mono ?_
  rintro e w0 ⟨rfl, rfl⟩
  go_wp2_with fail
  refine (Sh.new_ok [] none 0 w0 (Rp.nil _ _) (by simp) (by simp) rfl).mono ?_
  rintro r w1 ⟨g, rfl, m1, f1⟩
  have M1 := hide m1
  have F1 := hide f1
  clear m1 f1
  obtain ⟨T, hT⟩ : ∃ T : Nat, T = 1 + 2 * M := ⟨_, rfl⟩
  have hTi : (1 : Int) + 2 * (M : Int) = (T : Int) := by omega
  have hTb : T ≤ 201 := by omega
  clear hT
  go_wp2_with fail
  go_loopw [6] (fun vi wr => ∃ i : Nat, vi = .int .i64 i ∧ i ≤ 8 ∧ Hid (Sh.Md g (fM T i) (fun k => k < w0.heap.size) wr) ∧ Hid (Below w0.heap.size w0 wr)) (fun vi _ => (8 - intOf vi).toNat)
  case atStart => exact ⟨0, rfl, by omega, M1.out, F1.out⟩
  case round =>
    obtain ⟨i, rfl, hi, MW, FW⟩ := hrel
    by_cases hin : i < 8
    · go_wp2_with fail
      refine (put_kf _ wr.heap.size T i i ((Sh.Md.lies _ _).below MW.out (below_alloc _ _)) (rd_kf wr T i hin) (by omega) (.inl (by rw [fM_len]; exact hin))).mono ?_
      rw [fM_new, find_none (fM_new T i)]
      rintro r w2 ⟨rfl, m2, k2⟩
      have M2 : Hid (Sh.Md g (fM T (i + 1)) (fun k => k < w0.heap.size) w2) := m2
      have F2 : Hid (Below w0.heap.size w0 w2) := FW.out.trans (((below_alloc wr _).mono FW.out.size).trans (k2.below (by have := FW.out.size; simp; omega) (fun k hk => hk)))
      have HN := Sh.len_any w2 M2.out
      rw [fM_len] at HN
      have HN' := hide HN
      clear m2 k2 HN
      go_wp2_with fail
      refine HN'.out.mono ?_
      rintro r w3 ⟨rfl, hw⟩
      subst hw
      clear HN'
      go_wp2
      go_roundw
      case rel => exact ⟨i + 1, by go_num, by omega, M2, F2⟩
      case measure => simp [intOf]; omega
    · obtain rfl : i = 8 := by omega
      have hups := fM_ups T 8
      have hlen8 := fM_len T 8
      have hk2 : ∀ p ∈ fM T 8, p.1.length = 2 := fun p hp => by
        obtain ⟨j, _, e, _⟩ := (fM_mem T 8 p.1 p.2).1 hp
        rw [e]; rfl
      have hXm : (kf T X, (X : Int)) ∈ fM T 8 := (fM_mem T 8 _ _).2 ⟨X, hX, rfl, rfl⟩
      generalize fM T 8 = P at MW hups hlen8 hk2 hXm
      have hXf := find_mem hups hXm
      have HUPS := hide hups
      have HLEN := hide hlen8
      have HK2 := hide hk2
      have HXF := hide hXf
      clear hups hlen8 hk2 hXm hXf
      go_wp2_with fail
      refine (HL1.out _).mono ?_
      rintro e w2 ⟨rfl, hw⟩
      subst hw
      -- k, and "no more"
      have bk : Blk (w2.alloc (.cells #[.int .u8 (wrap64 ((X : Int) * (T : Int)) % 256), .int .u8 (X : Int)] 5)) w2.heap.size 5 [.int .u8 (wrap64 ((X : Int) * (T : Int)) % 256), .int .u8 (X : Int)] := Blk.new w2 _ _ _ rfl
      have RK := hide (rd_kf w2 T X hX)
      have FK := hide (below_alloc w2 (.cells #[.int .u8 (wrap64 ((X : Int) * (T : Int)) % 256), .int .u8 (X : Int)] 5))
      have MK := hide ((Sh.Md.lies g P).more MW.out FK.out)
      have hsK : (w2.alloc (.cells #[.int .u8 (wrap64 ((X : Int) * (T : Int)) % 256), .int .u8 (X : Int)] 5)).heap.size = w2.heap.size + 1 := by simp
      rw [hsK] at MK
      clear bk
      generalize hw3 : w2.alloc (.cells #[.int .u8 (wrap64 ((X : Int) * (T : Int)) % 256), .int .u8 (X : Int)] 5) = w3 at RK FK MK hsK
      go_wp2_with fail
      have R7 : Rd (w3.alloc (.cells #[.int .u8 110, .int .u8 111, .int .u8 32, .int .u8 109, .int .u8 111, .int .u8 114, .int .u8 101] 5 (7, 8))) (some ⟨w2.heap.size + 1, 0, none⟩) [110, 111, 32, 109, 111, 114, 101] := by
        have := rd_new1 w3 5 (7, 8) [110, 111, 32, 109, 111, 114, 101] _ rfl (by simp [IsBytes]) (by simp [maxLen])
        rwa [hsK] at this
      refine (Sh.put_full (some ⟨w2.heap.size + 1, 0, none⟩) 7 [110, 111, 32, 109, 111, 114, 101] 9 _ ((Sh.Md.lies _ _).below MK.out (below_alloc _ _)) R7 (by simp) HLEN.out (isIn_long HUPS.out (by simp) HK2.out)).mono ?_
      rintro r w4 ⟨rfl, f4⟩
      have f4' := (below_alloc w3 (.cells #[.int .u8 110, .int .u8 111, .int .u8 32, .int .u8 109, .int .u8 111, .int .u8 114, .int .u8 101] 5 (7, 8))).trans (f4.mono (by simp))
      have M4 := hide ((Sh.Md.lies _ _).below MK.out f4')
      have RK4 := hide (RK.out.below f4' (Nat.le_refl _))
      have F4 : Hid (Below w0.heap.size w0 w4) := FW.out.trans ((FK.out.mono FW.out.size).trans (f4'.mono (by have := FW.out.size; omega)))
      have HS4 : Hid (w2.heap.size < w4.heap.size) := by have := f4'.size; show _ < _; omega
      clear f4 f4' R7 hw3 MK RK
      have hB : Hid (w0.heap.size ≤ w2.heap.size) := FW.out.size
      go_wp2_with fail
      refine (put_kf _ w2.heap.size T X 77 M4.out RK4.out (by omega) (.inr HXF.out.1)).mono ?_
      rw [HXF.out.1, HXF.out.2]
      rintro r w5 ⟨rfl, m5, k5⟩
      have M5 := hide m5
      have RK5 := hide (kp_rd RK4.out k5 (.inr ⟨Nat.le_refl _, by omega⟩))
      have F5 : Hid (Below w0.heap.size w0 w5) := F4.out.trans (k5.below F4.out.size (fun k hk => .inl hk))
      have hin5 : Hid (isIn (kf T X) (putM (kf T X) 77 P) = true ∧ valO (findM (kf T X) (putM (kf T X) 77 P)) = 77) := find_mem (putM_ups HUPS.out _ _) ((mem_putM HUPS.out _ _ _ _).2 (by rw [if_pos rfl]))
      clear m5 k5 M4 RK4
      go_wp2_with fail
      refine (drop_kf _ w2.heap.size T X M5.out RK5.out).mono ?_
      rw [hin5.out.1, hin5.out.2]
      rintro r w6 ⟨rfl, m6, k6⟩
      have M6 := hide m6
      have F6 : Hid (Below w0.heap.size w0 w6) := F5.out.trans (k6.below F5.out.size (fun k hk => .inl hk))
      have hl6 : Hid ((dropM (kf T X) (putM (kf T X) 77 P)).length = 7) := by
        have h1 := dropM_len hin5.out.1
        rw [putM_len_old HXF.out.1, HLEN.out] at h1
        show _ = _
        omega
      have hu6 := hide (dropM_ups (putM_ups HUPS.out (kf T X) 77) (kf T X))
      have hk6 : Hid (∀ p ∈ dropM (kf T X) (putM (kf T X) 77 P), p.1.length = 2) := fun p hp => by
        have h1 := (mem_putM HUPS.out (kf T X) 77 p.1 p.2).1 (mem_dropM hp)
        by_cases he : kf T X = p.1
        · rw [← he]; rfl
        · rw [if_neg he] at h1; exact HK2.out p h1
      clear m6 k6 M5 RK5
      generalize dropM (kf T X) (putM (kf T X) 77 P) = P6 at M6 hl6 hu6 hk6
      go_wp2_with fail
      refine (Sh.put_any (some ⟨w6.heap.size, 0, none⟩) 8 [111, 110, 101, 32, 109, 111, 114, 101] 9 _ ((Sh.Md.lies _ _).below M6.out (below_alloc _ _)) (rd_new1 w6 _ _ _ _ rfl (by simp [IsBytes]) (by simp [maxLen])) (by simp) (by omega) (.inl (by rw [hl6.out]; omega))).mono ?_
      have hno := isIn_long (k := [111, 110, 101, 32, 109, 111, 114, 101]) hu6.out (by simp) hk6.out
      rw [hno, find_none hno]
      rintro r w7 ⟨rfl, m7, k7⟩
      have M7 := hide m7
      have F7 : Hid (Below w0.heap.size w0 w7) := F6.out.trans (((below_alloc w6 _).mono F6.out.size).trans (k7.below (by have := F6.out.size; simp; omega) (fun k hk => .inl hk)))
      have HN := Sh.len_any w7 m7
      rw [putM_len_new hno, hl6.out] at HN
      have HN' := hide HN
      clear m7 k7 HN hno
      go_wp2_with fail
      refine HN'.out.mono ?_
      rintro r w8 ⟨rfl, hw⟩
      subst hw
      have A := hide (awake8_any w8)
      go_wp2_with fail
      refine A.out.mono ?_
      rintro r w9 ⟨rfl, f9⟩
      have F9 := hide (F7.out.trans (f9.mono F7.out.size))
      clear f9 A
      go_wp2
      go_ret
      exact ⟨by rfl, F9.out⟩
end Go.Proofs.Ytnlhocbpoommjaa
