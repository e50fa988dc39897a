/- Contracts of the calls that make bytes: copied, Least, Behind, and their twins. -/
import Derived.Test.YtinogmjmmccfmaaReads
import Derived.Test.YtinogmjmmccfmaaMem
namespace Go.Proofs.Ytinogmjmmccfmaa
open Go.RowKit
set_option linter.unusedVariables false

theorem info_u8' : (Try.prog.info? 5).map (fun i => (i.zero, i.size, i.bytes)) = some (some (.int .u8 0), 1, 1) := by kernel_rfl
theorem info_u8 : ∃ i, Try.prog.info? 5 = some i ∧ i.zero = some (.int .u8 0) ∧ i.size = 1 ∧ i.bytes = 1 := by
  have h := info_u8'
  cases hq : Try.prog.info? 5 with
  | none => rw [hq] at h; cases h
  | some i =>
    rw [hq] at h
    simp at h
    exact ⟨i, rfl, h.1, h.2.1, h.2.2⟩
theorem size_u8 : (Try.prog.info? 5).map (·.size) = some 1 := by kernel_rfl

theorem make_u8 (w : World) (kl kc : IntKind) (l c : Int) (n cap : Nat) (hl : l = n) (hc : c = cap) (hn : n ≤ cap) (hb : cap ≤ 281474976710656) :
    ∃ w', (Instr.makeSlice 22 (.int kl l) (.int kc c)).run Try.prog w = .ok (.slice (some ⟨w.heap.size, 0, none⟩) n cap) w' ∧
      w'.heap[w.heap.size]? = some (.cells (List.replicate cap (.int .u8 0)).toArray 5 (0, 0)) ∧ Below w.heap.size w w' ∧ w'.heap.size = w.heap.size + 1 := by
  obtain ⟨i, h1, h2, h3, h4⟩ := info_u8
  exact run_make_blk 22 5 i (.int .u8 0) Try.underlying22 h1 h2 h3 rfl kl kc l c n cap hl hc hn (by rw [h4]; omega) (by unfold maxLen; omega)

theorem append_u8 (w : World) (ty tx : TypeId) (base : Nat) (v : Value) (n : Nat) (xs : List Value) (hown : w.ownsRow base 5 1 v n xs)
    (x : Value) (m : Nat) (news : List Value) (hs : Src Try.prog 1 tx x m news w) (hb : n + m ≤ 140737488355328) (hbase : base ≤ w.heap.size) :
    ∃ v' w', (Builtin.append_ #[22, tx] ty #[v, x]).run Try.prog w = .ok v' w' ∧ w'.ownsRow base 5 1 v' (n + m) (xs ++ news) ∧ w.grownBy w' v.ownBlock ∧
      (v'.ownBlock = v.ownBlock ∨ v'.ownBlock = some w.heap.size) ∧ (m = 0 → v' = v ∧ w' = w) ∧ w'.ownsRow base 5 1 v n xs := by
  obtain ⟨i, h1, h2, h3, h4⟩ := info_u8
  exact run_append_src base 22 tx ty 5 i (.int .u8 0) 1 1 Try.underlying22 h1 h2 h3 h4 rfl (by omega) v n xs hown x m news hs (by unfold maxLen; omega) (by omega) hbase

/-- What copied makes: n bytes, those of xs as many as fit, zeros behind them. -/
def padK (xs : List Int) (n : Nat) : List Int := xs.take n ++ List.replicate (n - xs.length) 0
theorem padK_length (xs : List Int) (n : Nat) : (padK xs n).length = n := by simp [padK]; omega
theorem padK_bytes {xs : List Int} (h : IsBytes xs) (n : Nat) : IsBytes (padK xs n) := by
  intro x hx
  simp only [padK, List.mem_append, List.mem_replicate] at hx
  rcases hx with hx | ⟨_, rfl⟩
  · exact h x (List.mem_of_mem_take hx)
  · omega
theorem padK_cells (xs : List Int) (n : Nat) : u8s (xs.take n) ++ (List.replicate n (Value.int .u8 0)).drop (xs.take n).length = u8s (padK xs n) := by
  rw [padK, u8s_append]
  congr 1
  simp [u8s, List.drop_replicate]
  omega

theorem padK_getD (xs : List Int) (n i : Nat) (hi : i < n) (hn : n ≤ xs.length) : (padK xs n).getD i 0 = xs.getD i 0 := by
  have e0 : n - xs.length = 0 := by omega
  simp [padK, e0, hi]

set_option maxHeartbeats 400000 in
theorem copied_any (a : Option Addr) (xs : List Int) (ca n : Nat) (w : World) (ha : Rd w a xs) (hn : n ≤ 1000000000) :
    Calls Try.prog 31 #[.slice a xs.length ca, .int .i64 n] w fun e w' => e = .returned (.slice (some ⟨w.heap.size, 0, none⟩) n n) ∧
      w'.heap[w.heap.size]? = some (.cells (u8s (padK xs n)).toArray 5 (0, 0)) ∧ Below w.heap.size w w' ∧ w'.heap.size = w.heap.size + 1 := by
  obtain ⟨w1, r1, b1, f1, s1⟩ := make_u8 w .i64 .i64 n n n n rfl rfl (Nat.le_refl _) (by omega)
  have ha1 := ha.below f1 (Nat.le_refl _)
  obtain ⟨w2, r2, b2, f2, s2⟩ := run_copy_rd (P := Try.prog) 22 22 3 5 5 Try.underlying22 size_u8 w.heap.size _ b1 n n (by simp) ha1 ca
  rw [padK_cells] at b2
  have B2 := hide b2
  have F2 : Hid (Below w.heap.size w w2) := f1.grown f2 (by omega) (fun k hk => by cases hk; exact Nat.le_refl _)
  have S2 : Hid (w2.heap.size = w.heap.size + 1) := by rw [s2]; exact s1
  clear b1 f1 s1 ha ha1 b2 f2 s2
  go_enter Try.func31, Try.ntmps31
  go_wp2
  go_ret
  exact ⟨rfl, B2.out, F2.out, S2.out⟩

theorem padK_succ (xs : List Int) : padK xs (xs.length + 1) = xs ++ [0] := by
  simp [padK, List.take_of_length_le (show xs.length ≤ xs.length + 1 by omega)]

set_option maxHeartbeats 400000 in
theorem least_any (a : Option Addr) (xs : List Int) (ca : Nat) (w : World) (ha : Rd w a xs) (hn : xs.length ≤ 100000000) :
    Calls Try.prog 13 #[.slice a xs.length ca] w fun e w' => e = .returned (.slice (some ⟨w.heap.size, 0, none⟩) (xs.length + 1) (xs.length + 1)) ∧
      w'.heap[w.heap.size]? = some (.cells (u8s (xs ++ [0])).toArray 5 (0, 0)) ∧ Below w.heap.size w w' ∧ w'.heap.size = w.heap.size + 1 := by
  have HC := hide (copied_any a xs ca (xs.length + 1) w ha (by omega))
  rw [padK_succ] at HC
  have ec : ((xs.length + 1 : Nat) : Int) = (xs.length : Int) + 1 := by omega
  rw [ec] at HC
  clear ha ec
  go_enter Try.func13, Try.ntmps13
  go_wp2_with fail
  refine HC.out.mono ?_
  rintro e w' ⟨rfl, h1, h2, h3⟩
  have H1 := hide h1
  have H2 := hide h2
  have H3 := hide h3
  clear h1 h2 h3
  go_wp2
  go_ret
  exact ⟨rfl, H1.out, H2.out, H3.out⟩

/-- How many bytes are left without those of 255 at the end. -/
def stripN (xs : List Int) : Nat → Nat
  | 0 => 0
  | n + 1 => if xs.getD n 0 = 255 then stripN xs n else n + 1
theorem stripN_pos (xs : List Int) (n : Nat) (h : xs.getD n 0 = 255) : stripN xs (n + 1) = stripN xs n := by simp only [stripN]; rw [if_pos h]
theorem stripN_neg (xs : List Int) (n : Nat) (h : xs.getD n 0 ≠ 255) : stripN xs (n + 1) = n + 1 := by simp only [stripN]; rw [if_neg h]
theorem stripN_le (xs : List Int) (n : Nat) : stripN xs n ≤ n := by
  induction n with
  | zero => exact Nat.le_refl _
  | succ n ih => simp only [stripN]; split <;> omega
theorem stripN_last (xs : List Int) (n : Nat) (h : 0 < stripN xs n) : xs.getD (stripN xs n - 1) 0 ≠ 255 := by
  induction n with
  | zero => simp [stripN] at h
  | succ n ih =>
    simp only [stripN] at h ⊢
    split
    · rename_i he; rw [if_pos he] at h; exact ih h
    · rename_i he; simpa using he
/-- The least key behind all that begin with xs (where there is one). -/
def behindK (xs : List Int) : List Int := xs.take (stripN xs xs.length - 1) ++ [xs.getD (stripN xs xs.length - 1) 0 + 1]

theorem behind_set (xs : List Int) (h : 0 < stripN xs xs.length) :
    (u8s (padK xs (stripN xs xs.length))).set (stripN xs xs.length - 1) (.int .u8 (xs.getD (stripN xs xs.length - 1) 0 + 1)) = u8s (behindK xs) := by
  have hle := stripN_le xs xs.length
  generalize hn : stripN xs xs.length = n at *
  have e0 : n - xs.length = 0 := by omega
  have e1 : padK xs n = xs.take n := by simp [padK, e0]
  rw [e1, behindK, hn]
  have e2 : xs.take n = xs.take (n - 1) ++ [xs.getD (n - 1) 0] := by
    have : n = (n - 1) + 1 := by omega
    conv => lhs; rw [this]
    rw [List.take_succ_eq_append_getElem (by omega)]
    congr 2
    simp [List.getElem?_eq_getElem (show n - 1 < xs.length by omega)]
  rw [e2]
  have hl : (xs.take (n - 1)).length = n - 1 := by simp; omega
  simp only [u8s, List.map_append, List.map_cons, List.map_nil]
  rw [List.set_append_right _ _ (by rw [List.length_map, hl]; exact Nat.le_refl _), List.length_map, hl]
  simp

theorem behindK_bytes {xs : List Int} (hx : IsBytes xs) (h : 0 < stripN xs xs.length) : IsBytes (behindK xs) := by
  intro x hm
  simp only [behindK, List.mem_append, List.mem_singleton] at hm
  rcases hm with hm | rfl
  · exact hx x (List.mem_of_mem_take hm)
  · have := hx.getD (stripN xs xs.length - 1)
    have := stripN_last xs xs.length h
    omega
theorem behindK_length {xs : List Int} (h : 0 < stripN xs xs.length) : (behindK xs).length = stripN xs xs.length := by
  have hle := stripN_le xs xs.length
  simp [behindK]; omega

set_option maxHeartbeats 800000 in
theorem behind_any (a : Option Addr) (xs : List Int) (ca : Nat) (w : World) (ha : Rd w a xs) (hn : xs.length ≤ 100000000) :
    Calls Try.prog 11 #[.slice a xs.length ca] w fun e w' =>
      (stripN xs xs.length = 0 ∧ e = .returned (.tuple #[.slice none 0 0, .bool false]) ∧ w' = w) ∨
      (0 < stripN xs xs.length ∧ e = .returned (.tuple #[.slice (some ⟨w.heap.size, 0, none⟩) (behindK xs).length (behindK xs).length, .bool true]) ∧
        w'.heap[w.heap.size]? = some (.cells (u8s (behindK xs)).toArray 5 (0, 0)) ∧ Below w.heap.size w w' ∧ w'.heap.size = w.heap.size + 1) := by
  have HC := hide fun n hn => copied_any a xs ca n w ha hn
  have hs := fun h => behind_set xs h
  have hle := stripN_le xs xs.length
  have HS := hide hs
  have HL := hide fun h => stripN_last xs xs.length h
  have HB := hide fun h => behindK_length (xs := xs) h
  clear hs
  obtain ⟨hxb, hxl, hxc⟩ := ha
  have HX : Hid (IsBytes xs) := hxb
  clear hxb
  go_enter Try.func11, Try.ntmps11
  go_wp2
  go_loop [4] (fun v => ∃ k : Nat, v = .int .i64 k ∧ k ≤ xs.length ∧ stripN xs xs.length = stripN xs k) (fun v => (intOf v).toNat)
  case atStart => exact ⟨xs.length, rfl, Nat.le_refl _, rfl⟩
  case round =>
    obtain ⟨k, rfl, hk, hst⟩ := hrel
    have HT := hide hst
    clear hst
    by_cases h0 : k = 0
    · subst h0
      go_wp2
      go_ret2
      exact .inl ⟨HT.out, rfl, rfl⟩
    · have hk0 : 0 < k := by omega
      have hk1 : (0 : Int) < (k : Int) := by omega
      have hne : ((k : Int) == 0) = false := by simp; omega
      rcases hxc with rfl | ⟨b, off, rfl, hxc⟩
      · simp at hk; omega
      have c1 := hxc (k - 1) (by omega)
      have hb := HX.out.getD (k - 1)
      generalize hx : xs.getD (k - 1) 0 = x at *
      have HXX := hide hx
      clear hx h0 hxc
      by_cases h255 : x = 255
      · have e255 : (x == 255) = true := by simpa using h255
        have H5 := hide h255
        clear h255
        go_wp2
        go_round
        case rel =>
          refine ⟨k - 1, by go_num, by omega, ?_⟩
          rw [HT.out]
          obtain ⟨m, rfl⟩ : ∃ m, k = m + 1 := ⟨k - 1, by omega⟩
          simp only [stripN]
          rw [if_pos (by rw [← H5.out, ← HXX.out]; simp)]
          simp
        case measure => simp [intOf]; omega
      · have e255 : (x == 255) = false := by simpa using h255
        have hx4 : x ≤ 254 := by omega
        have H5 : Hid (stripN xs xs.length = k) := by
          show _ = _
          rw [HT.out]
          obtain ⟨m, rfl⟩ : ∃ m, k = m + 1 := ⟨k - 1, by omega⟩
          simp only [stripN]
          rw [if_neg (by intro e; exact h255 (by rw [← e, ← HXX.out]; simp))]
        clear h255
        go_wp2_with fail
        refine (HC.out k (by omega)).mono ?_
        rintro e w' ⟨rfl, h1, h2, h3⟩
        have c2 : w'.cell? ⟨w.heap.size, k - 1, none⟩ = some (.int .u8 x) := by
          rw [block_cell h1, u8s_get _ _ (by rw [padK_length]; omega), padK_getD xs k (k - 1) (by omega) hk, HXX.out]
        have f2 := block_frozen h1 (k - 1)
        have H1 := hide h1
        have H2 := hide h2
        have H3 := hide h3
        clear h1 h2 h3 c1
        go_wp2
        go_ret2
        have hpos : 0 < stripN xs xs.length := by rw [H5.out]; exact hk0
        have hb5 := HB.out hpos
        have hs5 := HS.out hpos
        rw [H5.out] at hb5 hs5
        rw [HXX.out] at hs5
        refine .inr ⟨hpos, by rw [hb5]; rfl, ?_, H2.out.setCell (Nat.le_refl _) _, by simpa [World.setCell] using H3.out⟩
        rw [block_set _ _ _ _ _ _ H1.out, hs5]

theorem owns_cap {w : World} {base : Nat} {e : TypeId} {a : Option Addr} {n c m : Nat} {xs : List Value} (h : w.ownsRow base e 1 (.slice a n c) m xs) : m = n ∧ n ≤ c ∧ c ≤ maxLen := by
  rcases h.2 with ⟨hv, h0⟩ | ⟨g, cap, cur, hv, hbg, hg, hnc, hcm, hcs, htake⟩
  · cases hv; exact ⟨h0, Nat.le_refl _, Nat.zero_le _⟩
  · cases hv; exact ⟨rfl, hnc, hcm⟩

/-- append(append([]byte(nil), p...), m...). -/
theorem append2_u8 (w : World) (a b : Option Addr) (ps ms : List Int) (ca cb : Nat) (ha : Rd w a ps) (hb : Rd w b ms) (hl : ps.length + ms.length ≤ 1000000) :
    ∃ v1 w1 aa cA w2, (Builtin.append_ #[22, 22] 22 #[.slice none 0 0, .slice a ps.length ca]).run Try.prog w = .ok v1 w1 ∧
      (Builtin.append_ #[22, 22] 22 #[v1, .slice b ms.length cb]).run Try.prog w1 = .ok (.slice aa (ps ++ ms).length cA) w2 ∧
      Rd w2 aa (ps ++ ms) ∧ Below w.heap.size w w2 ∧ (ps ++ ms).length ≤ cA ∧ cA ≤ maxLen := by
  obtain ⟨v1, w1, r1, o1, g1, b1, _⟩ := append_u8 w 22 22 w.heap.size (.slice none 0 0) 0 [] (World.ownsRow_nil w _ _ _) _ _ _ (ha.src Try.underlying22 ca) (by omega) (Nat.le_refl _)
  have f1 : Below w.heap.size w w1 := (Below.refl _ _).grown g1 (Nat.le_refl _) (fun k hk => by cases hk)
  have hs1 := f1.size
  obtain ⟨v2, w2, r2, o2, g2, b2, _⟩ := append_u8 w1 22 22 w.heap.size v1 _ _ o1 _ _ _ ((hb.below f1 (Nat.le_refl _)).src Try.underlying22 cb) (by omega) hs1
  have f2 : Below w.heap.size w w2 := f1.grown g2 hs1 (fun k hk => (o1.lt k hk).1)
  simp only [List.nil_append, ← u8s_append] at o2
  have hall : IsBytes (ps ++ ms) := fun x hm => by
    simp only [List.mem_append] at hm
    rcases hm with hm | hm
    · exact ha.1 x hm
    · exact hb.1 x hm
  obtain ⟨aa, cA, rfl, ral, hn⟩ := owns_rd o2 hall
  have hc := owns_cap o2
  exact ⟨v1, w1, aa, cA, w2, r1, r2, ral, f2, hc.2.1, hc.2.2⟩

end Go.Proofs.Ytinogmjmmccfmaa
