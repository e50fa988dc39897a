/- awake; lists of numbers of the law's own; NeedTells. -/
import Derived.Test.YtfeijlbljcbboaaNd10
namespace Go.Proofs.Ytfeijlbljcbboaa
set_option maxRecDepth 20000
open Go.RowKit
set_option linter.unusedVariables false
set_option linter.unusedSimpArgs false

theorem put_is (tag long : Int) (v : Nat) (h : putF tag long = v) (w : World) :
    Calls Try.prog 8 #[.int .i64 tag, .int .i64 long] w fun e w' => e = .returned (.int .i64 v) ∧ w' = w := h ▸ put_any tag long w
theorem Still.below {w w' : World} (s : Still w w') (B : Nat) : Below B w w' := by
  obtain ⟨n, rfl⟩ := s
  exact ⟨rfl, rfl, rfl, Nat.le_refl _, fun _ _ => rfl⟩
theorem Still.trans {a b c : World} (h : Still a b) (k : Still b c) : Still a c := by
  obtain ⟨n, rfl⟩ := h
  obtain ⟨m, rfl⟩ := k
  exact ⟨n + m, by simp [World.drewN]; omega⟩
theorem info_i64 : ∃ i, Try.prog.info? 3 = some i ∧ i.zero = some (.int .i64 0) ∧ i.size = 1 ∧ i.bytes = 8 := by
  have h : (Try.prog.info? 3).map (fun i => (i.zero, i.size, i.bytes)) = some (some (.int .i64 0), 1, 8) := by kernel_rfl
  cases hi : Try.prog.info? 3 with
  | none => rw [hi] at h; simp at h
  | some i =>
    rw [hi] at h
    simp at h
    exact ⟨i, rfl, h.1, h.2.1, h.2.2⟩
/-- append to nothing. -/
theorem append_nil (w : World) (a : Option Addr) (xs : List Int) (c : Nat) (h : Rn w a xs) (hl : xs.length ≤ 1000000) :
    ∃ v w', (Builtin.append_ #[22, 22] 22 #[.slice none 0 0, .slice a xs.length c]).run Try.prog w = .ok v w' ∧ w'.ownsRow w.heap.size 3 1 v xs.length (i64s xs) ∧ Below w.heap.size w w' := by
  obtain ⟨i, i1, i2, i3, i4⟩ := info_i64
  obtain ⟨v', w', r, o, g, hv, _⟩ := run_append_src (P := Try.prog) (w := w) w.heap.size 22 22 22 3 i _ 1 8 Try.underlying22 i1 i2 i3 i4 rfl (by omega) (.slice none 0 0) 0 [] (World.ownsRow_nil _ _ _ _) _ _ _ (h.src Try.underlying22 (by unfold maxLen; omega) c) (by unfold maxLen; omega) (by omega) (Nat.le_refl _)
  exact ⟨v', w', r, by simpa using o, ((Kp.refl (fun k => k < w.heap.size) w).grown g (fun k hk => by simp [Value.ownBlock] at hk)).below (Nat.le_refl _) (fun _ hk => hk)⟩
/-- append of one number. -/
theorem append_more (w : World) (B : Nat) (v : Value) (xs : List Int) (x : Int) (ow : w.ownsRow B 3 1 v xs.length (i64s xs)) (hl : xs.length ≤ 1048576) (hb : ∀ z ∈ xs, -9223372036854775808 ≤ z ∧ z ≤ 9223372036854775807) (hx : -9223372036854775808 ≤ x ∧ x ≤ 9223372036854775807) (hB : B ≤ w.heap.size) :
    ∃ a cap w', (Builtin.append_ #[22, 22] 22 #[v, .slice (some ⟨w.heap.size, 0, none⟩) 1 1]).run Try.prog (w.alloc (.cells #[.int .i64 x] 3)) = .ok (.slice a (xs.length + 1) cap) w' ∧
      Rn w' a (xs ++ [x]) ∧ Below B w w' := by
  obtain ⟨i, i1, i2, i3, i4⟩ := info_i64
  obtain ⟨v', w', r, o, gr, hv⟩ := append_lit (P := Try.prog) w B 22 3 i _ 1 8 Try.underlying22 i1 i2 i3 i4 rfl (by omega) v _ _ ow [.int .i64 x] rfl (by
    intro u hu
    simp at hu
    subst hu
    rfl) (by omega) (by omega) hB
  have o' : w'.ownsRow B 3 1 v' (xs.length + 1) (i64s (xs ++ [x])) := by simpa [i64s] using o
  obtain ⟨a, cap, rfl, h, _⟩ := owns_rn o' (by
    intro z hz
    rcases List.mem_append.1 hz with h | h
    · exact hb z h
    · simp at h; subst h; exact hx)
  refine ⟨a, cap, w', by simpa using r, h, ?_⟩
  exact (((Kp.refl (fun k => k < B) w).alloc _).grown gr (fun k hk hB => by have := (ow.lt k hk).1; omega)).below hB (fun _ hk => hk)
theorem rn_lit (w : World) (e : TypeId) (xs : List Int) (cs : Array Value) (hcs : cs = (i64s xs).toArray) (hb : ∀ z ∈ xs, -9223372036854775808 ≤ z ∧ z ≤ 9223372036854775807) : Rn (w.alloc (.cells cs e (0, 0))) (some ⟨w.heap.size, 0, none⟩) xs := by
  refine ⟨hb, .inr ⟨_, _, rfl, fun i hi => ?_⟩⟩
  have b := Blk.new w e (i64s xs) cs hcs
  rw [b.cell, Nat.zero_add]
  exact i64s_get xs i hi
set_option maxHeartbeats 1600000 in
theorem awake_any (w : World) : Calls Try.prog 5 #[] w fun e w' => e = .returned (.bool true) ∧ Below w.heap.size w w' := by
  go_enter Try.func5, Try.ntmps5
  go_wp2_with fail
  refine (put_is 2 3 4 (by decide) _).mono ?_
  rintro e w1 ⟨rfl, rfl⟩
  go_wp2_with fail
  refine (put_is 1 9 2 (by decide) _).mono ?_
  rintro e w1 ⟨rfl, rfl⟩
  go_wp2_with fail
  refine (put_is 9 1 0 (by decide) _).mono ?_
  rintro e w1 ⟨rfl, rfl⟩
  go_wp2_with fail
  have b1 : ∀ o, Below w1.heap.size w1 (w1.alloc o) := fun o => (Below.refl _ _).alloc (Nat.le_refl _) _
  refine (build_any 3 _ [1, 2] 2 _ (rn_lit _ _ [1, 2] _ rfl (by simp))  (by simp)).mono ?_
  rintro e w2 ⟨rfl, s2⟩
  have B2 := hide ((b1 (.cells #[.int .i64 1, .int .i64 2] 3)).trans (s2.below _))
  clear b1 s2
  go_wp2_with fail
  refine (build_any 4 none [] 0 _ ⟨by simp, .inl rfl⟩ (by simp)).mono ?_
  rintro e w3 ⟨rfl, s3⟩
  go_wp2_with fail
  go_ret
  exact ⟨rfl, B2.out.trans (s3.below _)⟩

set_option maxHeartbeats 1600000 in
theorem tells_any (tag : Int) (a : Option Addr) (xs : List Int) (c : Nat) (long more : Int) (w : World) (h : Rn w a xs) (hl : -9223372036854775808 ≤ long ∧ long ≤ 9223372036854775807) (hm : -9223372036854775808 ≤ more ∧ more ≤ 9223372036854775807) :
    Calls Try.prog 3 #[.int .i64 tag, .slice a xs.length c, .int .i64 long, .int .i64 more] w fun e w' => e = .returned (.bool true) ∧ Below w.heap.size w w' := by
  have HA := hide h
  clear h
  by_cases hla : 40 < xs.length
  · have hlai : (40 : Int) < (xs.length : Int) := by omega
    go_enter Try.func3, Try.ntmps3
    go_wp2_with (go_at_call 5; refine (awake_any _).mono ?_; rintro e w' ⟨rfl, hw⟩)
    go_ret
    exact ⟨rfl, hw⟩
  have hla' : ¬ (40 < (xs.length : Int)) := by omega
  go_enter Try.func3, Try.ntmps3
  go_wp2_with fail
  go_loopw [9, 10] (fun va vi wr => ∃ k : Nat, va = .int .i64 (sumF tag (xs.take k)) ∧ vi = .int .i64 k ∧ k ≤ xs.length ∧ Still w wr) (fun _ vi _ => xs.length - (intOf vi).toNat)
  case atStart => exact ⟨0, by simp [sumF], rfl, by omega, ⟨0, rfl⟩⟩
  case round =>
    obtain ⟨k, rfl, rfl, hk, hs⟩ := hrel
    have HS := hide hs
    clear hs
    have hle2 : sumF tag (xs.take k) ≤ 131082 * 1000 := by
      have hle := sumF_le tag (xs.take k)
      have : (xs.take k).length ≤ 1000 := by simp; omega
      omega
    by_cases h1 : k < xs.length
    · have hpl := putF_le tag (xs.getD k 0)
      have hsu := sumF_take tag xs k h1
      obtain ⟨b, off, rfl, hc⟩ : ∃ b off, a = some ⟨b, off, none⟩ ∧ ∀ i, i < xs.length → w.cell? ⟨b, off + i, none⟩ = some (.int .i64 (xs.getD i 0)) := by
        rcases HA.out.2 with h0 | h0
        · rw [h0] at h1; simp at h1
        · exact h0
      have c0 : wr.cell? ⟨b, off + k, none⟩ = some (.int .i64 (xs.getD k 0)) := by
        obtain ⟨n, rfl⟩ := HS.out
        exact hc k h1
      have HSU := hide hsu
      have P := refput_any tag (xs.getD k 0)
      clear hc hsu
      generalize xs.getD k 0 = z at *
      generalize hp : putF tag z = pz at *
      generalize hq : sumF tag (xs.take k) = qz at *
      have HP := hide P
      have H0 := hide hp
      have H1 := hide hq
      clear P hp hq
      go_wp2_with fail
      refine (HP.out _).mono ?_
      rintro e w2 ⟨rfl, rfl⟩
      go_wp2
      go_roundw
      case measure => simp only [intOf]; omega
      case rel => exact ⟨k + 1, by rw [HSU.out]; congr 1, by go_num, by omega, HS.out⟩
    · obtain rfl : k = xs.length := by omega
      rw [List.take_length] at hle2
      rw [List.take_length]
      have hlr := lowK_range long 65535 (by omega)
      have L := low_any long 65535 hl.1 hl.2 (by omega) (by omega)
      have M := putF_mono tag (lowK long 65535) hlr.1 hlr.2
      have p0 := putF_le tag long
      have p1 := putF_le tag (lowK long 65535)
      have p2 := putF_le tag (lowK long 65535 + 1)
      generalize hlk : lowK long 65535 = lk at *
      have HL := hide L
      have HLK := hide hlk
      have HM := hide M
      have B1 : Hid (∀ wx, Still w wx → Calls Try.prog 9 #[.int .i64 tag, .slice a xs.length c] wx fun e w' => e = .returned (.int .i64 (sumF tag xs)) ∧ Still wx w') := fun wx hs => build_any tag a xs c wx (HA.out.still hs) (by omega)
      have P0 := hide (put_any tag long)
      have R0 := hide (refput_any tag long)
      generalize hp : putF tag long = pz at *
      generalize hq : sumF tag xs = qz at *
      have H0 := hide hp
      have H1 := hide hq
      clear L hlk M hp hq
      go_wp2_with fail
      refine (HL.out _).mono ?_
      rintro e w2 ⟨rfl, rfl⟩
      go_wp2_with fail
      refine (P0.out _).mono ?_
      rintro e w2 ⟨rfl, rfl⟩
      go_wp2_with fail
      refine (R0.out _).mono ?_
      rintro e w2 ⟨rfl, rfl⟩
      go_wp2_with fail
      refine (B1.out _ HS.out).mono ?_
      rintro e w3 ⟨rfl, s3⟩
      obtain ⟨va, w4, r4, o4, f4⟩ := append_nil w3 a xs c (HA.out.still (HS.out.trans s3)) (by omega)
      obtain ⟨ab, cb, w5, r5, h5, f5⟩ := append_more w4 w3.heap.size va xs more o4 (by omega) HA.out.1 hm f4.size
      have S3 := hide s3
      have F5 := hide (((HS.out.trans s3).below w.heap.size).trans ((f4.trans f5).mono ((HS.out.trans s3).below 0).size))
      have B2 := build_any tag ab (xs ++ [more]) cb w5 h5 (by simp; omega)
      rw [List.length_append] at B2
      change Calls _ _ #[_, .slice ab (xs.length + 1) cb] _ _ at B2
      have hs2 := sumF_append tag xs [more]
      have p3 := putF_le tag more
      simp only [sumF, Nat.add_zero] at hs2
      rw [H1.out] at hs2
      have B3 := hide B2
      have hs3 : qz ≤ sumF tag (xs ++ [more]) ∧ sumF tag (xs ++ [more]) ≤ 131082 * 2000 := by omega
      have Pa := hide (put_any tag lk)
      have Pb := hide (put_any tag (lk + 1))
      have hM := HM.out
      generalize sumF tag (xs ++ [more]) = sz at *
      generalize putF tag (lk + 1) = pb at *
      generalize putF tag lk = pa at *
      have R5 := hide r5
      clear s3 o4 f4 h5 f5 B2 hs2 p3 HM r5
      go_wp2_with (at_builtin; first | (refine wpList_append_run' ?hg _ _ _ _ rfl _ _ _ _ rfl rfl r4 ?_; case hg => kernel_rfl) | (refine wpList_append_run' ?hh _ _ _ _ rfl _ _ _ _ rfl rfl R5.out ?_; case hh => kernel_rfl))
      refine B3.out.mono ?_
      rintro e w6 ⟨rfl, s6⟩
      go_wp2_with fail
      refine (Pa.out _).mono ?_
      rintro e w7 ⟨rfl, rfl⟩
      go_wp2_with fail
      refine (Pb.out _).mono ?_
      rintro e w8 ⟨rfl, rfl⟩
      go_wp2_with fail
      refine (awake_any _).mono ?_
      rintro e w9 ⟨rfl, f9⟩
      go_wp2_with fail
      go_ret
      exact ⟨rfl, (F5.out.trans (s6.below _)).trans (f9.mono (F5.out.trans (s6.below _)).size)⟩
end Go.Proofs.Ytfeijlbljcbboaa
