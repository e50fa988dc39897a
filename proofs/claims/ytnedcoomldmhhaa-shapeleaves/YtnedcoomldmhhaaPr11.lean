/- shape.Pairs of trees that are not ternary; of one ternary cell. -/
import Derived.Test.YtnedcoomldmhhaaKt11
namespace Go.Proofs.Ytnedcoomldmhhaa
set_option maxRecDepth 20000
open Go.RowKit Go.Sort
set_option linter.unusedVariables false
set_option linter.unusedSimpArgs false

def PAns (w w' : World) (ps : List KV) (r : Ending) : Prop := ∃ a c fs, r = .returned (.slice a fs.length c) ∧ Rf.Lk w.heap.size w' (.slice a fs.length c) fs ∧ Apart fs ∧ fs.map Ent.kv = ps ∧ Below w.heap.size w w'
def pairsN (tag : Int) (cs : List PC) : List KV := match lookP tag cs with
  | none => []
  | some ss => keptP cs
set_option maxHeartbeats 1600000 in
theorem pairs_any (tag : Int) (a : Option Addr) (cs : List Cel) (k : Nat) (w : World) (h : Rc w a cs) (ht : tag = 2 → lookP tag (cs.map Cel.pure) = none) (hk : ∀ c ∈ cs, c.key.length ≤ 65535 ∧ c.ps.length ≤ 8 ∧ ∀ e ∈ c.ps, e.k.length ≤ 65535) :
    Calls Try.prog 17 #[.int .i64 tag, .slice a cs.length k] w fun r w' => PAns w w' (pairsN tag (cs.map Cel.pure)) r := by
  have L := hide (look_any tag a cs k w h)
  have H := hide h
  have HK := hide hk
  have HT := hide ht
  clear h hk ht
  go_enter Try.func17, Try.ntmps17
  go_wp2_with fail
  refine L.out.mono ?_
  rintro r w1 ⟨b, a1, n1, k1, a2, n2, k2, rfl, hc, f⟩
  have F := hide f
  clear f
  rcases hc with ⟨rfl, h⟩ | ⟨rfl, ss, g, h, ⟨rfl, rfl, rfl, rfl, rfl, rfl⟩, hg, hsp⟩
  · have hp : Hid (pairsN tag (cs.map Cel.pure) = []) := by show _ = _; unfold pairsN; rw [h]
    have F2 : Hid (Below w.heap.size w (w1.alloc (.cells #[.slice a1 n1 k1, .slice a2 n2 k2] 61 (0, 0)))) := F.out.alloc F.out.size _
    go_wp2_with fail
    go_ret
    rw [hp.out]
    exact ⟨none, 0, [], rfl, Rf.Lk.nil _ _, List.Pairwise.nil, rfl, F2.out⟩
  · have hp : Hid (pairsN tag (cs.map Cel.pure) = keptP (cs.map Cel.pure)) := by show _ = _; unfold pairsN; rw [h]
    have ht2 : ¬ tag = 2 := fun e => by have := HT.out e; rw [this] at h; simp at h
    have ht' : (tag == 2) = false := by simpa using ht2
    have F2 : Hid (Below w.heap.size w (w1.alloc (.cells #[.slice a1 cs.length k1, .slice (some ⟨g, 0, none⟩) cs.length cs.length] 61 (0, 0)))) := F.out.alloc F.out.size _
    clear hsp F
    go_wp2_with fail
    generalize World.alloc _ _ = w2 at F2 ⊢
    refine (kept_any a1 cs g cs.length k1 cs.length w2 (H.out.below F2.out (Nat.le_refl _)) HK.out).mono ?_
    rintro r w3 ⟨a3, c3, fs, rfl, l3, ap3, m3, f3⟩
    have L3 : Hid (Rf.Lk w.heap.size w3 (.slice a3 fs.length c3) fs) := ⟨owns_down l3.row F2.out.size, fun e he => ⟨owns_down (l3.ks e he).1 F2.out.size, (l3.ks e he).2⟩, l3.ln⟩
    have F3 := hide (F2.out.trans (f3.mono F2.out.size))
    have AP := hide ap3
    have M3 := hide m3
    clear l3 ap3 m3 f3
    go_wp2_with fail
    go_ret
    rw [hp.out]
    exact ⟨a3, c3, fs, rfl, L3.out, AP.out, M3.out, F3.out⟩
end Go.Proofs.Ytnedcoomldmhhaa
