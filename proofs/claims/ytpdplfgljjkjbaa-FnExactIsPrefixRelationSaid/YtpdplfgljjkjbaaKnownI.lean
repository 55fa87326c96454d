
/- What the program's function for a small automaton hands back.
   Conditions: stated at each theorem. -/
import Derived.Test.YtpdplfgljjkjbaaImplTidyRel
import Derived.Test.YtpdplfgljjkjbaaResKit
namespace Go.Proofs.Ytpdplfgljjkjbaa.ClosedImpl
set_option linter.unusedVariables false
set_option linter.unusedSimpArgs false
set_option maxRecDepth 100000
open Go.RowKit Mem Copy Rel Valid Heap Bld ColMath Columns ToL TidyAuto TidyRight SpecRight SpecTidyRel ImplRight Sim ResKit

set_option maxHeartbeats 8000000 in
theorem knownI (v : Value) (r : R) (hok : okB r = true) (w : World) (B : Nat) (h : RelAt w B v r) (hB : B ≤ w.heap.size) :
    Calls Try.prog 48 #[v] w fun e w' => ∃ va vn, e = .returned (.agg #[.int .i64 (tidyK r), .int .i64 0, va, vn]) ∧ Built w' w.heap.size va vn (tidyA r) (tidyN r) ∧ Below w.heap.size w w' := by
  obtain ⟨K, hK⟩ : ∃ K, K = tidyK r := ⟨_, rfl⟩
  obtain ⟨C, hC⟩ : ∃ C, C = tidyC r := ⟨_, rfl⟩
  have HTT := Lib.hid (fun W (hb : Below w.heap.size w W) => ImplTidyRel.tidied v r hok W W.heap.size ((h.below hb hB).mono (Nat.le_trans hB hb.size)) (Nat.le_refl _))
  rw [← hK, ← hC] at HTT
  rw [← hK]
  clear hK hC
  obtain ⟨va, vn, rfl, ha, hn⟩ := h
  obtain ⟨aa, ba, oa, ca, rfl, -, -, -⟩ := ha
  obtain ⟨-, ⟨ab, bb, ob, cb, rfl, -, -, -⟩, -⟩ := hn
  obtain ⟨k, hk⟩ : ∃ k, k = r.tapes := ⟨_, rfl⟩
  obtain ⟨st, hs⟩ : ∃ st, st = r.start := ⟨_, rfl⟩
  obtain ⟨na, hna⟩ : ∃ na, na = r.accept.length := ⟨_, rfl⟩
  obtain ⟨nb, hnb⟩ : ∃ nb, nb = r.next.length := ⟨_, rfl⟩
  rw [← hk, ← hs, ← hna, ← hnb] at HTT
  rw [← hk, ← hs, ← hna, ← hnb]
  have HT := Lib.hid (HTT.out ((w.alloc (.cells #[.int .i64 k, .int .i64 st, .slice aa na ca, .slice ab nb cb] 27)).alloc (.cells #[Value.int .i64 0, .int .i64 0, .slice none 0 0, .slice none 0 0] 27)) (((Below.refl _ _).alloc (Nat.le_refl _) _).alloc (by rw [size_alloc']; omega) _))
  clear hk hs hna hnb HTT hok hB
  go_enter Try.func48, Try.ntmps48
  go_wp2_with fail
  refine HT.out.mono ?_
  rintro e w3 ⟨va, vn, rfl, hbu, hb3⟩
  have hk3 : K0 w #[.int .i64 k, .int .i64 st, .slice aa na ca, .slice ab nb cb] w3 := by
    have h1 := hb3
    rw [size_alloc', size_alloc'] at h1
    exact h1
  have HK3 := Lib.hid hk3
  obtain ⟨a4, n4, c4, rfl, -⟩ := hbu.acc.shape'
  obtain ⟨items0, -, hnx0, -⟩ := hbu.rows
  obtain ⟨b4, m4, d4, rfl, -⟩ := hnx0.shape'
  have HBU := Lib.hid hbu
  have hr1 := K0.res hk3
  have hlt1 := lt_of_block hr1
  have HW3 := Lib.hid (K0.base hk3)
  have HBU := Lib.hid (show Built w3 (w.heap.size + 2) (.slice a4 n4 c4) (.slice b4 m4 d4) (tidyA r) (tidyN r) from by
    have h1 := hbu
    rw [size_alloc', size_alloc'] at h1
    exact h1)
  have r0 := cells_get hr1 0
  have r1 := cells_get hr1 1
  have r2 := cells_get hr1 2
  have r3 := cells_get hr1 3
  have f0 := cells_free hr1 0
  have f1 := cells_free hr1 1
  have f2 := cells_free hr1 2
  have f3 := cells_free hr1 3
  have p0 := cells_set hr1 0 (.int .i64 K)
  have p1 := cells_set p0 1 (.int .i64 0)
  have p2 := cells_set p1 2 (Value.slice a4 n4 c4)
  have p3 := cells_set p2 3 (Value.slice b4 m4 d4)
  simp at r0 r1 r2 r3 p3
  have p4 : (((((w3.setCell ⟨w.heap.size + 1, 0, none⟩ (.int .i64 K)).setCell ⟨w.heap.size + 1, 1, none⟩ (.int .i64 0)).setCell ⟨w.heap.size + 1, 2, none⟩ (.slice a4 n4 c4)).setCell ⟨w.heap.size + 1, 3, none⟩ (.slice b4 m4 d4)).alloc (.cells #[.int .i64 K, .int .i64 0, .slice a4 n4 c4, .slice b4 m4 d4] 27)).heap[w.heap.size + 1]? = some (.cells #[.int .i64 K, .int .i64 0, .slice a4 n4 c4, .slice b4 m4 d4] 27 (0, 0)) := by
    rw [Below.heap_alloc _ _ _ (lt_of_block p3)]; exact p3
  have g0 := cells_get p4 0
  have g1 := cells_get p4 1
  have g2 := cells_get p4 2
  have g3 := cells_get p4 3
  simp at g0 g1 g2 g3
  have HG := Lib.hid (And.intro g0 (And.intro g1 (And.intro g2 g3)))
  clear p0 p1 p2 p3 p4 g0 g1 g2 g3 hr1 hbu hb3 hk3 hnx0 HK3
  go_wp2_with fail
  obtain ⟨g0, g1, g2, g3⟩ := HG.out
  refine bodyPost_ret (v := .agg #[.int .i64 K, .int .i64 0, .slice a4 n4 c4, .slice b4 m4 d4]) (by simp [results, Try.results48, go_sem, g0, g1, g2, g3]) rfl ⟨.slice a4 n4 c4, .slice b4 m4 d4, rfl, ?_, ?_⟩
  · exact (((((HBU.out.setLow (a := ⟨w.heap.size + 1, 0, none⟩) (Nat.lt_succ_self _) _).setLow (a := ⟨w.heap.size + 1, 1, none⟩) (Nat.lt_succ_self _) _).setLow (a := ⟨w.heap.size + 1, 2, none⟩) (Nat.lt_succ_self _) _).setLow (a := ⟨w.heap.size + 1, 3, none⟩) (Nat.lt_succ_self _) _).below ((Below.refl _ _).alloc (Nat.le_refl _) _)).mono (by omega)
  · have HBW := HW3.out
    exact base_box ((((HBW.setCell (p := ⟨w.heap.size + 1, 0, none⟩) (Nat.le_succ _) _).setCell (p := ⟨w.heap.size + 1, 1, none⟩) (Nat.le_succ _) _).setCell (p := ⟨w.heap.size + 1, 2, none⟩) (Nat.le_succ _) _).setCell (p := ⟨w.heap.size + 1, 3, none⟩) (Nat.le_succ _) _) _

end Go.Proofs.Ytpdplfgljjkjbaa.ClosedImpl
