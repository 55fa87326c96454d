
/- What the program's TidyRelation answers: a relation in memory of its own, and a code.
   Conditions: the relation is read as XRel's text says. -/
import Derived.Test.YtpdplfgljjkjbaaImplTidied
import Derived.Test.YtpdplfgljjkjbaaSpecTidyRel
import Derived.Test.YtpdplfgljjkjbaaValidImpl
namespace Go.Proofs.Ytpdplfgljjkjbaa.ImplTidyRel
set_option linter.unusedVariables false
set_option linter.unusedSimpArgs false
open Go.RowKit Mem Copy Rel Valid Heap Columns TidyAuto TidyRight SpecRight ToL Bld SpecTidyRel ImplRight ImplTidied

theorem few_of {r : R} (h : okB r = true) : few r = fewB (toL r) 150 := by unfold few fewB; rw [h]; rfl
theorem tidyK_of {r : R} (h : okB r = true) : tidyK r = fewK (toL r) 150 := by
  unfold tidyK fewK
  rw [few_of h]
  have : ((toL r).k : Int) = r.tapes := by rw [← congrArg R.tapes (okL h).1.1]; rfl
  rw [this]
theorem tidyA_of {r : R} (h : okB r = true) : tidyA r = fewA (toL r) 150 := by unfold tidyA fewA; rw [few_of h]
theorem tidyN_of {r : R} (h : okB r = true) : tidyN r = fewN (toL r) 150 := by unfold tidyN fewN; rw [few_of h]
theorem tidyC_of {r : R} (h : okB r = true) : tidyC r = if fewB (toL r) 150 = true then 0 else 3 := by
  unfold tidyC fewB
  rw [if_pos h]
  by_cases hl : (tidyAcc (toL r)).length ≤ 150
  · rw [if_pos hl, if_pos (decide_eq_true hl)]
  · rw [if_neg hl, if_neg (by simpa using hl)]

set_option maxRecDepth 100000 in
set_option maxHeartbeats 8000000 in
theorem tidied (v : Value) (r : R) (hok : okB r = true) (w : World) (B : Nat) (h : RelAt w B v r) (hB : B ≤ w.heap.size) :
    Calls Try.prog 40 #[v] w fun e w' => ∃ va vn, e = .returned (.tuple #[.agg #[.int .i64 (tidyK r), .int .i64 0, va, vn], .int .i64 (tidyC r)]) ∧ Built w' w.heap.size va vn (tidyA r) (tidyN r) ∧ Below w.heap.size w w' := by
  rw [tidyK_of hok, tidyA_of hok, tidyN_of hok, tidyC_of hok]
  have HTT := Lib.hid (fun W (hb : Below w.heap.size w W) (hs : w.heap.size ≤ W.heap.size) => ImplTidied.tidiedTo (toL r) (okL hok).1.2 v W B (by
    rw [(okL hok).1.1]
    obtain ⟨va, vn, rfl, ha, hx⟩ := h
    exact ⟨va, vn, rfl, ha.below hb hB, hx.below hb hB⟩) (Nat.le_trans hB hs) (by have := (okL hok).2; omega) 150 (by omega))
  obtain ⟨K, hK⟩ : ∃ K, K = fewK (toL r) 150 := ⟨_, rfl⟩
  obtain ⟨A, hA⟩ : ∃ A, A = fewA (toL r) 150 := ⟨_, rfl⟩
  obtain ⟨N, hN⟩ : ∃ N, N = fewN (toL r) 150 := ⟨_, rfl⟩
  obtain ⟨Q, hQ⟩ : ∃ Q, Q = fewB (toL r) 150 := ⟨_, rfl⟩
  have HE0 := Lib.hid (show Q = false → K = 0 ∧ A = [] ∧ N = [] from fun h => by rw [hK, hA, hN]; unfold fewK fewA fewN; rw [← hQ, h]; exact ⟨rfl, rfl, rfl⟩)
  rw [← hK, ← hA, ← hN, ← hQ] at HTT
  rw [← hK, ← hA, ← hN, ← hQ]
  obtain ⟨va, vn, rfl, ha, hn⟩ := h
  obtain ⟨aa, ba, oa, ca, rfl, -, -, -⟩ := ha
  obtain ⟨-, ⟨ab, bb, ob, cb, rfl, -, -, -⟩, -⟩ := hn
  obtain ⟨k, hk⟩ : ∃ k, k = r.tapes := ⟨_, rfl⟩
  obtain ⟨st, hs⟩ : ∃ st, st = r.start := ⟨_, rfl⟩
  obtain ⟨na, hna⟩ : ∃ na, na = r.accept.length := ⟨_, rfl⟩
  obtain ⟨nb, hnb⟩ : ∃ nb, nb = r.next.length := ⟨_, rfl⟩
  rw [← hk, ← hs, ← hna, ← hnb] at HTT
  rw [← hk, ← hs, ← hna, ← hnb]
  have HT := Lib.hid (HTT.out ((w.alloc (.cells #[.int .i64 k, .int .i64 st, .slice aa na ca, .slice ab nb cb] 27)).alloc (.cells #[Value.int .i64 0, .int .i64 0, .slice none 0 0, .slice none 0 0] 27)) (((Below.refl _ _).alloc (Nat.le_refl _) _).alloc (by rw [size_alloc']; omega) _) (by rw [size_alloc', size_alloc']; omega))
  clear hk hs hna hnb hK hA hN hQ HTT hok hB
  go_enter Try.func40, Try.ntmps40
  go_wp2_with fail
  refine HT.out.mono ?_
  rintro e w3 ⟨va, vn, rfl, hbu, hb3⟩
  have hk3 : K0 w #[.int .i64 k, .int .i64 st, .slice aa na ca, .slice ab nb cb] w3 := by
    have h1 := hb3
    rw [size_alloc', size_alloc'] at h1
    exact h1
  have hbu2 : Built w3 (w.heap.size + 2) va vn A N := by
    have h1 := hbu
    rw [size_alloc', size_alloc'] at h1
    exact h1
  have HBU := Lib.hid hbu2
  obtain ⟨a3, n3, c3, rfl, -⟩ := hbu.acc.shape'
  obtain ⟨items0, -, hnx0, -⟩ := hbu.rows
  obtain ⟨b3, m3, d3, rfl, -⟩ := hnx0.shape'
  have HK3 := Lib.hid hk3
  have hres := K0.res hk3
  have HRES := Lib.hid hres
  clear hb3 hbu hbu2 hnx0 hk3 HT
  cases Q with
  | true =>
    have r0 := cells_get hres 0
    have r1 := cells_get hres 1
    have r2 := cells_get hres 2
    have r3 := cells_get hres 3
    have f0 := cells_free hres 0
    have f1 := cells_free hres 1
    have f2 := cells_free hres 2
    have f3 := cells_free hres 3
    have hlS := lt_of_block hres
    have p0 := cells_set hres 0 (.int .i64 K)
    have p1 := cells_set p0 1 (.int .i64 0)
    have p2 := cells_set p1 2 (Value.slice a3 n3 c3)
    have p3 := cells_set p2 3 (Value.slice b3 m3 d3)
    simp at r0 r1 r2 r3 p3
    have p4 := (Below.heap_alloc _ (.cells #[.int .i64 K, .int .i64 0, .slice a3 n3 c3, .slice b3 m3 d3] 27) _ (lt_of_block p3)).trans p3
    have g0 := cells_get p4 0
    have g1 := cells_get p4 1
    have g2 := cells_get p4 2
    have g3 := cells_get p4 3
    simp at g0 g1 g2 g3
    have HG := Lib.hid (And.intro g0 (And.intro g1 (And.intro g2 g3)))
    clear p0 p1 p2 p3 p4 g0 g1 g2 g3 hres
    go_wp2_with fail
    obtain ⟨g0, g1, g2, g3⟩ := HG.out
    refine bodyPost_ret (v := .tuple #[.agg #[.int .i64 K, .int .i64 0, .slice a3 n3 c3, .slice b3 m3 d3], .int .i64 0]) (by simp [results, Try.results40, go_sem, g0, g1, g2, g3]) rfl ⟨.slice a3 n3 c3, .slice b3 m3 d3, rfl, ?_, ?_⟩
    · exact ((((((HBU.out.setLow (a := ⟨w.heap.size + 1, 0, none⟩) (Nat.lt_succ_self _) _).setLow (a := ⟨w.heap.size + 1, 1, none⟩) (Nat.lt_succ_self _) _).setLow (a := ⟨w.heap.size + 1, 2, none⟩) (Nat.lt_succ_self _) _).setLow (a := ⟨w.heap.size + 1, 3, none⟩) (Nat.lt_succ_self _) _).below ((Below.refl _ _).alloc (Nat.le_refl _) _)).mono (by omega))
    · have HBW := K0.base HK3.out
      exact ((((HBW.setCell (p := ⟨w.heap.size + 1, 0, none⟩) (Nat.le_succ _) _).setCell (p := ⟨w.heap.size + 1, 1, none⟩) (Nat.le_succ _) _).setCell (p := ⟨w.heap.size + 1, 2, none⟩) (Nat.le_succ _) _).setCell (p := ⟨w.heap.size + 1, 3, none⟩) (Nat.le_succ _) _).alloc (by simp [World.setCell]; have := HBW.size; omega) _
  | false =>
    obtain ⟨rfl, rfl, rfl⟩ := HE0.out rfl
    have r0 := cells_get hres 0
    have r1 := cells_get hres 1
    have r2 := cells_get hres 2
    have r3 := cells_get hres 3
    have f0 := cells_free hres 0
    have f1 := cells_free hres 1
    have f2 := cells_free hres 2
    have f3 := cells_free hres 3
    have hlS := lt_of_block hres
    have p0 := cells_set hres 0 (.int .i64 0)
    have p1 := cells_set p0 1 (.int .i64 0)
    have p2 := cells_set p1 2 (Value.slice none 0 0)
    have p3 := cells_set p2 3 (Value.slice none 0 0)
    simp at r0 r1 r2 r3 p3
    have p4 := (Below.heap_alloc _ (.cells #[.int .i64 0, .int .i64 0, .slice a3 n3 c3, .slice b3 m3 d3] 27) _ (lt_of_block p3)).trans p3
    have g0 := cells_get p4 0
    have g1 := cells_get p4 1
    have g2 := cells_get p4 2
    have g3 := cells_get p4 3
    simp at g0 g1 g2 g3
    have HG := Lib.hid (And.intro g0 (And.intro g1 (And.intro g2 g3)))
    clear p0 p1 p2 p3 p4 g0 g1 g2 g3 hres
    go_wp2_with fail
    obtain ⟨g0, g1, g2, g3⟩ := HG.out
    refine bodyPost_ret (v := .tuple #[.agg #[.int .i64 0, .int .i64 0, .slice none 0 0, .slice none 0 0], .int .i64 3]) (by simp [results, Try.results40, go_sem, g0, g1, g2, g3]) rfl ⟨.slice none 0 0, .slice none 0 0, rfl, ImplTidied.built_none _ _, ?_⟩
    have HBW := K0.base HK3.out
    exact ((((HBW.setCell (p := ⟨w.heap.size + 1, 0, none⟩) (Nat.le_succ _) _).setCell (p := ⟨w.heap.size + 1, 1, none⟩) (Nat.le_succ _) _).setCell (p := ⟨w.heap.size + 1, 2, none⟩) (Nat.le_succ _) _).setCell (p := ⟨w.heap.size + 1, 3, none⟩) (Nat.le_succ _) _).alloc (by simp [World.setCell]; have := HBW.size; omega) _

set_option maxRecDepth 100000 in
set_option maxHeartbeats 8000000 in
theorem implTidy (v : Value) (r : R) (w : World) (B : Nat) (h : RelAt w B v r) (hB : B ≤ w.heap.size) :
    Calls Try.prog 14 #[v] w fun e w' => ∃ va vn, e = .returned (.tuple #[.agg #[.int .i64 (tidyK r), .int .i64 0, va, vn], .int .i64 (tidyC r)]) ∧ Built w' w.heap.size va vn (tidyA r) (tidyN r) ∧ Below w.heap.size w w' := by
  have HV := Lib.hid (fun W (hb : Below w.heap.size w W) (hs : w.heap.size ≤ W.heap.size) => ValidImpl.implValid v r W B (by
    obtain ⟨va, vn, rfl, ha, hx⟩ := h
    exact ⟨va, vn, rfl, ha.below hb hB, hx.below hb hB⟩) (Nat.le_trans hB hs))
  have HTT := Lib.hid (fun hok W (hb : Below w.heap.size w W) (hs : w.heap.size ≤ W.heap.size) => tidied v r hok W B (by
    obtain ⟨va, vn, rfl, ha, hx⟩ := h
    exact ⟨va, vn, rfl, ha.below hb hB, hx.below hb hB⟩) (Nat.le_trans hB hs))
  have HE0 := Lib.hid (show okB r = false → tidyK r = 0 ∧ tidyC r = 1 ∧ tidyA r = [] ∧ tidyN r = [] from fun hok => by simp [tidyC, tidyK, tidyA, tidyN, few, hok])
  obtain ⟨va, vn, rfl, ha, hn⟩ := h
  obtain ⟨aa, ba, oa, ca, rfl, -, -, -⟩ := ha
  obtain ⟨-, ⟨ab, bb, ob, cb, rfl, -, -, -⟩, -⟩ := hn
  obtain ⟨K, hK⟩ : ∃ K, K = tidyK r := ⟨_, rfl⟩
  obtain ⟨A, hA⟩ : ∃ A, A = tidyA r := ⟨_, rfl⟩
  obtain ⟨N, hN⟩ : ∃ N, N = tidyN r := ⟨_, rfl⟩
  obtain ⟨C, hC⟩ : ∃ C, C = tidyC r := ⟨_, rfl⟩
  obtain ⟨k, hk⟩ : ∃ k, k = r.tapes := ⟨_, rfl⟩
  obtain ⟨st, hs⟩ : ∃ st, st = r.start := ⟨_, rfl⟩
  obtain ⟨na, hna⟩ : ∃ na, na = r.accept.length := ⟨_, rfl⟩
  obtain ⟨nb, hnb⟩ : ∃ nb, nb = r.next.length := ⟨_, rfl⟩
  rw [← hK, ← hA, ← hN, ← hC, ← hk, ← hs, ← hna, ← hnb] at HTT
  rw [← hk, ← hs, ← hna, ← hnb] at HV
  rw [← hK, ← hA, ← hN, ← hC] at HE0
  rw [← hK, ← hA, ← hN, ← hC, ← hk, ← hs, ← hna, ← hnb]
  have HV1 := Lib.hid (HV.out ((w.alloc (.cells #[.int .i64 k, .int .i64 st, .slice aa na ca, .slice ab nb cb] 27)).alloc (.cells #[Value.int .i64 0, .int .i64 0, .slice none 0 0, .slice none 0 0] 27)) (((Below.refl _ _).alloc (Nat.le_refl _) _).alloc (by rw [size_alloc']; omega) _) (by rw [size_alloc', size_alloc']; omega))
  clear hk hs hna hnb hK hA hN hC HV hB
  go_enter Try.func14, Try.ntmps14
  go_wp2_with fail
  refine HV1.out.mono ?_
  rintro e w3 ⟨rfl, hb3⟩
  have hk3 : K0 w #[.int .i64 k, .int .i64 st, .slice aa na ca, .slice ab nb cb] w3 := by
    have h1 := hb3
    rw [size_alloc', size_alloc'] at h1
    exact h1
  have HK3 := Lib.hid hk3
  have hres := K0.res hk3
  have hbx := K0.box hk3
  clear hb3 hk3 HV1
  cases hok : okB r with
  | false =>
    obtain ⟨rfl, rfl, rfl, rfl⟩ := HE0.out hok
    have r0 := cells_get hres 0
    have r1 := cells_get hres 1
    have r2 := cells_get hres 2
    have r3 := cells_get hres 3
    have f0 := cells_free hres 0
    have f1 := cells_free hres 1
    have f2 := cells_free hres 2
    have f3 := cells_free hres 3
    have hlS := lt_of_block hres
    have p0 := cells_set hres 0 (.int .i64 0)
    have p1 := cells_set p0 1 (.int .i64 0)
    have p2 := cells_set p1 2 (Value.slice none 0 0)
    have p3 := cells_set p2 3 (Value.slice none 0 0)
    simp at r0 r1 r2 r3 p3
    have g0 := cells_get p3 0
    have g1 := cells_get p3 1
    have g2 := cells_get p3 2
    have g3 := cells_get p3 3
    simp at g0 g1 g2 g3
    have HG := Lib.hid (And.intro g0 (And.intro g1 (And.intro g2 g3)))
    clear p0 p1 p2 p3 g0 g1 g2 g3 hres hok hbx
    go_wp2_with fail
    obtain ⟨g0, g1, g2, g3⟩ := HG.out
    refine bodyPost_ret (v := .tuple #[.agg #[.int .i64 0, .int .i64 0, .slice none 0 0, .slice none 0 0], .int .i64 1]) (by simp [results, Try.results14, go_sem, g0, g1, g2, g3]) rfl ⟨.slice none 0 0, .slice none 0 0, rfl, ImplTidied.built_none _ _, ?_⟩
    have HBW := K0.base HK3.out
    exact (((HBW.setCell (p := ⟨w.heap.size + 1, 0, none⟩) (Nat.le_succ _) _).setCell (p := ⟨w.heap.size + 1, 1, none⟩) (Nat.le_succ _) _).setCell (p := ⟨w.heap.size + 1, 2, none⟩) (Nat.le_succ _) _).setCell (p := ⟨w.heap.size + 1, 3, none⟩) (Nat.le_succ _) _
  | true =>
    have HT := Lib.hid (HTT.out hok w3 (K0.base HK3.out) (by have := K0.size HK3.out; omega))
    have r0 := cells_get hbx 0
    have r1 := cells_get hbx 1
    have r2 := cells_get hbx 2
    have r3 := cells_get hbx 3
    simp at r0 r1 r2 r3
    clear hok hres hbx HTT
    go_wp2_with fail
    refine HT.out.mono ?_
    rintro e w4 ⟨va, vn, rfl, hbu, hb4⟩
    have HBU := Lib.hid hbu
    have HB4 := Lib.hid (show Below (w.heap.size + 2) w3 w4 from hb4.mono (K0.size HK3.out))
    obtain ⟨a4, n4, c4, rfl, -⟩ := hbu.acc.shape'
    obtain ⟨items0, -, hnx0, -⟩ := hbu.rows
    obtain ⟨b4, m4, d4, rfl, -⟩ := hnx0.shape'
    have hres := K0.res (Below.trans HK3.out HB4.out)
    clear hbu hb4 hnx0 HT r0 r1 r2 r3
    have r0 := cells_get hres 0
    have r1 := cells_get hres 1
    have r2 := cells_get hres 2
    have r3 := cells_get hres 3
    have f0 := cells_free hres 0
    have f1 := cells_free hres 1
    have f2 := cells_free hres 2
    have f3 := cells_free hres 3
    have hlS := lt_of_block hres
    have p0 := cells_set hres 0 (.int .i64 K)
    have p1 := cells_set p0 1 (.int .i64 0)
    have p2 := cells_set p1 2 (Value.slice a4 n4 c4)
    have p3 := cells_set p2 3 (Value.slice b4 m4 d4)
    simp at r0 r1 r2 r3 p3
    have g0 := cells_get p3 0
    have g1 := cells_get p3 1
    have g2 := cells_get p3 2
    have g3 := cells_get p3 3
    simp at g0 g1 g2 g3
    have HG := Lib.hid (And.intro g0 (And.intro g1 (And.intro g2 g3)))
    clear p0 p1 p2 p3 g0 g1 g2 g3 hres
    go_wp2_with fail
    obtain ⟨g0, g1, g2, g3⟩ := HG.out
    refine bodyPost_ret (v := .tuple #[.agg #[.int .i64 K, .int .i64 0, .slice a4 n4 c4, .slice b4 m4 d4], .int .i64 C]) (by simp [results, Try.results14, go_sem, g0, g1, g2, g3]) rfl ⟨.slice a4 n4 c4, .slice b4 m4 d4, rfl, ?_, ?_⟩
    · have hlow : w.heap.size + 1 < w3.heap.size := by have := K0.size HK3.out; omega
      exact (((((HBU.out.setLow (a := ⟨w.heap.size + 1, 0, none⟩) hlow _).setLow (a := ⟨w.heap.size + 1, 1, none⟩) hlow _).setLow (a := ⟨w.heap.size + 1, 2, none⟩) hlow _).setLow (a := ⟨w.heap.size + 1, 3, none⟩) hlow _).mono (by omega))
    · have HBW := K0.base (Below.trans HK3.out HB4.out)
      exact (((HBW.setCell (p := ⟨w.heap.size + 1, 0, none⟩) (Nat.le_succ _) _).setCell (p := ⟨w.heap.size + 1, 1, none⟩) (Nat.le_succ _) _).setCell (p := ⟨w.heap.size + 1, 2, none⟩) (Nat.le_succ _) _).setCell (p := ⟨w.heap.size + 1, 3, none⟩) (Nat.le_succ _) _
end Go.Proofs.Ytpdplfgljjkjbaa.ImplTidyRel
