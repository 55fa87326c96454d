
/- The code of an error of limits; an outcome; a tidied relation or its error.
   Conditions: stated at each theorem. -/
import Derived.Test.YthebmpdkiocbmaaDoorErrAs
import Derived.Test.YthebmpdkiocbmaaDoorImplTidied
import Derived.Test.YthebmpdkiocbmaaDoorTidyDefs
namespace Go.Proofs.YthebmpdkiocbmaaDoor.ErrCode
set_option linter.unusedVariables false
set_option linter.unusedSimpArgs false
set_option maxRecDepth 100000
open Go.RowKit Mem Copy Rel Valid Heap Bld TidyAuto TidyRight SpecRight ToL SpecTidyRel ImplRight ImplTidied ErrAs

/-- The type's handle lies where errors.As reads it. -/
def Laid (W : World) : Prop := W.cell? ⟨0, 0, none⟩ = some (.iface 125 (.agg #[.pointer (some ⟨1, 54, none⟩)]))
theorem Laid.pos {W : World} (h : Laid W) : 0 < W.heap.size := by
  rcases Nat.eq_zero_or_pos W.heap.size with h0 | h'
  · unfold Laid at h; simp [World.cell?, h0] at h
  · exact h'
theorem Laid.below {W W' : World} (h : Laid W) (hb : Below W.heap.size W W') : Laid W' := (hb.cell (p := ⟨0, 0, none⟩) h.pos).trans h
theorem Laid.low {w W W' : World} (h : Laid w) (hb : Below w.heap.size w W) : Laid W := h.below hb

/-- The block of a result, not yet written. -/
structure Res0 (w : World) (Rb : Nat) (W : World) : Prop where
  base : Below w.heap.size w W
  res : W.heap[Rb]? = some (.cells #[Value.int .i64 0, .int .i64 0, .slice none 0 0, .slice none 0 0] 27 (0, 0))
  hR : w.heap.size ≤ Rb
theorem Res0.lt {w W : World} {Rb : Nat} (h : Res0 w Rb W) : Rb < W.heap.size := lt_of_block h.res
theorem Res0.step {w W W' : World} {Rb : Nat} (h : Res0 w Rb W) (hb : Below W.heap.size W W') : Res0 w Rb W' :=
  ⟨base_step h.base hb, by rw [hb.block Rb h.lt]; exact h.res, h.hR⟩

/-- An error: none, or that of a limit. -/
def errV (few : Bool) (n : Int) : Value := if few = true then .nilIface else .iface 91 (.int .i64 n)

theorem code_nil (w : World) : Calls Tryd.prog 67 #[.nilIface] w fun e w' => e = .returned (.int .i64 0) ∧ Below w.heap.size w w' := by
  go_enter Tryd.func67, Tryd.ntmps67
  go_wp2_with (go_at_call 87; refine (as_nil _ _).mono ?_; rintro e w' ⟨rfl, rfl⟩)
  go_ret
  exact ⟨rfl, (Below.refl _ _).alloc (Nat.le_refl _) _⟩
set_option maxHeartbeats 4000000 in
theorem code_hit (n : Int) (w : World) (hg : Laid w) : Calls Tryd.prog 67 #[.iface 91 (.int .i64 n)] w fun e w' => e = .returned (.int .i64 3) ∧ Below w.heap.size w w' := by
  have HA := Lib.hid ((as_hit n ⟨w.heap.size, 0, none⟩ (.int .i64 0) (w.alloc (.cells #[.int .i64 0] 91)) (hg.below ((Below.refl _ _).alloc (Nat.le_refl _) _)) (by simp) (by simp)).mono (fun e w' ⟨he, hw⟩ => (show e = Ending.returned (.bool true) ∧ Below w.heap.size w w' from ⟨he, by
    rw [hw]
    exact (base_box (base_box (base_box (base_box (base_box (Below.refl _ _) _) _) _) _) _).setCell (p := ⟨w.heap.size, 0, none⟩) (Nat.le_refl _) _⟩)))
  go_enter Tryd.func67, Tryd.ntmps67
  go_wp2_with fail
  refine HA.out.mono ?_
  rintro e w' ⟨rfl, hb⟩
  have HB := Lib.hid hb
  clear hb
  go_wp2_with fail
  go_ret
  exact ⟨rfl, HB.out⟩
theorem code (few : Bool) (n : Int) (w : World) (hg : Laid w) : Calls Tryd.prog 67 #[errV few n] w fun e w' => e = .returned (.int .i64 (if few = true then 0 else 3)) ∧ Below w.heap.size w w' := by
  cases few with
  | true => exact code_nil w
  | false => exact code_hit n w hg
/-! TIDY -/
set_option maxHeartbeats 8000000 in
theorem tidyToI (l : L) (hl : l.Ok) (v : Value) (w : World) (B : Nat) (h : RelAt w B v (relOf l)) (hB : B ≤ w.heap.size) (hn : l.acc.length ≤ 100000) (mst : Nat) (hmst : mst ≤ 100000) :
    Calls Tryd.prog 88 #[v, .int .i64 mst] w fun e w' => ∃ va vn, e = .returned (.tuple #[.agg #[.int .i64 (fewK l mst), .int .i64 0, va, vn], errV (fewB l mst) mst]) ∧ Built w' w.heap.size va vn (fewA l mst) (fewN l mst) ∧ Below w.heap.size w w' := by
  have HTT := Lib.hid (fun W (hb : Below w.heap.size w W) (hs : w.heap.size ≤ W.heap.size) => ImplTidied.tidiedTo l hl v W B (h.below hb hB) (Nat.le_trans hB hs) hn mst hmst)
  obtain ⟨K, hK⟩ : ∃ K, K = fewK l mst := ⟨_, rfl⟩
  obtain ⟨A, hA⟩ : ∃ A, A = fewA l mst := ⟨_, rfl⟩
  obtain ⟨N, hN⟩ : ∃ N, N = fewN l mst := ⟨_, rfl⟩
  obtain ⟨Q, hQ⟩ : ∃ Q, Q = fewB l mst := ⟨_, rfl⟩
  have HE0 := Lib.hid (show Q = false → K = 0 ∧ A = [] ∧ N = [] from fun h => by rw [hK, hA, hN]; unfold fewK fewA fewN; rw [← hQ, h]; exact ⟨rfl, rfl, rfl⟩)
  rw [← hK, ← hA, ← hN, ← hQ] at HTT
  rw [← hK, ← hA, ← hN, ← hQ]
  obtain ⟨r, hr⟩ : ∃ r, r = relOf l := ⟨_, rfl⟩
  rw [← hr] at h
  clear hr
  obtain ⟨va, vn, rfl, ha, hn⟩ := h
  obtain ⟨aa, ba, oa, ca, rfl, -, -, -⟩ := ha
  obtain ⟨-, ⟨ab, bb, ob, cb, rfl, -, -, -⟩, -⟩ := hn
  obtain ⟨k, hk⟩ : ∃ k, k = r.tapes := ⟨_, rfl⟩
  obtain ⟨st, hs⟩ : ∃ st, st = r.start := ⟨_, rfl⟩
  obtain ⟨na, hna⟩ : ∃ na, na = r.accept.length := ⟨_, rfl⟩
  obtain ⟨nb, hnb⟩ : ∃ nb, nb = r.next.length := ⟨_, rfl⟩
  rw [← hk, ← hs, ← hna, ← hnb] at HTT
  rw [← hk, ← hs, ← hna, ← hnb]
  have HT := Lib.hid (HTT.out ((w.alloc (.cells #[.int .i64 k, .int .i64 st, .slice aa na ca, .slice ab nb cb] 27)).alloc (.cells #[Value.int .i64 0, .int .i64 0, .slice none 0 0, .slice none 0 0] 27)) (((Below.refl _ _).alloc (Nat.le_refl _) _).alloc (by rw [size_alloc']; omega) _) (by rw [size_alloc', size_alloc']; omega))
  clear hk hs hna hnb hK hA hN hQ HTT hB hl hn hmst
  go_enter Tryd.func88, Tryd.ntmps88
  go_wp2_with fail
  refine HT.out.mono ?_
  rintro e w3 ⟨va, vn, rfl, hbu, hb3⟩
  have hk3 : K0 w #[.int .i64 k, .int .i64 st, .slice aa na ca, .slice ab nb cb] w3 := by
    have h1 := hb3
    rw [size_alloc', size_alloc'] at h1
    exact h1
  have hbu2 : Built w3 (w.heap.size + 2) va vn A N := by
    have h1 := hbu
    rw [size_alloc', size_alloc'] at h1
    exact h1
  have HBU := Lib.hid hbu2
  obtain ⟨a3, n3, c3, rfl, -⟩ := hbu.acc.shape'
  obtain ⟨items0, -, hnx0, -⟩ := hbu.rows
  obtain ⟨b3, m3, d3, rfl, -⟩ := hnx0.shape'
  have HK3 := Lib.hid hk3
  have hres := K0.res hk3
  have HRES := Lib.hid hres
  clear hb3 hbu hbu2 hnx0 hk3 HT
  cases Q with
  | true =>
    have r0 := cells_get hres 0
    have r1 := cells_get hres 1
    have r2 := cells_get hres 2
    have r3 := cells_get hres 3
    have f0 := cells_free hres 0
    have f1 := cells_free hres 1
    have f2 := cells_free hres 2
    have f3 := cells_free hres 3
    have hlS := lt_of_block hres
    have p0 := cells_set hres 0 (.int .i64 K)
    have p1 := cells_set p0 1 (.int .i64 0)
    have p2 := cells_set p1 2 (Value.slice a3 n3 c3)
    have p3 := cells_set p2 3 (Value.slice b3 m3 d3)
    simp at r0 r1 r2 r3 p3
    have p4 := (Below.heap_alloc _ (.cells #[.int .i64 K, .int .i64 0, .slice a3 n3 c3, .slice b3 m3 d3] 27) _ (lt_of_block p3)).trans p3
    have g0 := cells_get p4 0
    have g1 := cells_get p4 1
    have g2 := cells_get p4 2
    have g3 := cells_get p4 3
    simp at g0 g1 g2 g3
    have HG := Lib.hid (And.intro g0 (And.intro g1 (And.intro g2 g3)))
    clear p0 p1 p2 p3 p4 g0 g1 g2 g3 hres
    go_wp2_with fail
    obtain ⟨g0, g1, g2, g3⟩ := HG.out
    refine bodyPost_ret (v := .tuple #[.agg #[.int .i64 K, .int .i64 0, .slice a3 n3 c3, .slice b3 m3 d3], .nilIface]) (by simp [results, Tryd.results88, go_sem, g0, g1, g2, g3]) rfl ⟨.slice a3 n3 c3, .slice b3 m3 d3, rfl, ?_, ?_⟩
    · exact ((((((HBU.out.setLow (a := ⟨w.heap.size + 1, 0, none⟩) (Nat.lt_succ_self _) _).setLow (a := ⟨w.heap.size + 1, 1, none⟩) (Nat.lt_succ_self _) _).setLow (a := ⟨w.heap.size + 1, 2, none⟩) (Nat.lt_succ_self _) _).setLow (a := ⟨w.heap.size + 1, 3, none⟩) (Nat.lt_succ_self _) _).below ((Below.refl _ _).alloc (Nat.le_refl _) _)).mono (by omega))
    · have HBW := K0.base HK3.out
      exact ((((HBW.setCell (p := ⟨w.heap.size + 1, 0, none⟩) (Nat.le_succ _) _).setCell (p := ⟨w.heap.size + 1, 1, none⟩) (Nat.le_succ _) _).setCell (p := ⟨w.heap.size + 1, 2, none⟩) (Nat.le_succ _) _).setCell (p := ⟨w.heap.size + 1, 3, none⟩) (Nat.le_succ _) _).alloc (by simp [World.setCell]; have := HBW.size; omega) _
  | false =>
    obtain ⟨rfl, rfl, rfl⟩ := HE0.out rfl
    have r0 := cells_get hres 0
    have r1 := cells_get hres 1
    have r2 := cells_get hres 2
    have r3 := cells_get hres 3
    have f0 := cells_free hres 0
    have f1 := cells_free hres 1
    have f2 := cells_free hres 2
    have f3 := cells_free hres 3
    have hlS := lt_of_block hres
    have p0 := cells_set hres 0 (.int .i64 0)
    have p1 := cells_set p0 1 (.int .i64 0)
    have p2 := cells_set p1 2 (Value.slice none 0 0)
    have p3 := cells_set p2 3 (Value.slice none 0 0)
    simp at r0 r1 r2 r3 p3
    have p4 := (Below.heap_alloc _ (.cells #[.int .i64 0, .int .i64 0, .slice a3 n3 c3, .slice b3 m3 d3] 27) _ (lt_of_block p3)).trans p3
    have g0 := cells_get p4 0
    have g1 := cells_get p4 1
    have g2 := cells_get p4 2
    have g3 := cells_get p4 3
    simp at g0 g1 g2 g3
    have HG := Lib.hid (And.intro g0 (And.intro g1 (And.intro g2 g3)))
    clear p0 p1 p2 p3 p4 g0 g1 g2 g3 hres
    go_wp2_with fail
    obtain ⟨g0, g1, g2, g3⟩ := HG.out
    refine bodyPost_ret (v := .tuple #[.agg #[.int .i64 0, .int .i64 0, .slice none 0 0, .slice none 0 0], .iface 91 (.int .i64 mst)]) (by simp [results, Tryd.results88, go_sem, g0, g1, g2, g3]) rfl ⟨.slice none 0 0, .slice none 0 0, rfl, ImplTidied.built_none _ _, ?_⟩
    have HBW := K0.base HK3.out
    exact ((((HBW.setCell (p := ⟨w.heap.size + 1, 0, none⟩) (Nat.le_succ _) _).setCell (p := ⟨w.heap.size + 1, 1, none⟩) (Nat.le_succ _) _).setCell (p := ⟨w.heap.size + 1, 2, none⟩) (Nat.le_succ _) _).setCell (p := ⟨w.heap.size + 1, 3, none⟩) (Nat.le_succ _) _).alloc (by simp [World.setCell]; have := HBW.size; omega) _


set_option maxHeartbeats 8000000 in
theorem tidyStepI (l : L) (hl : l.Ok) (v : Value) (w : World) (B : Nat) (h : RelAt w B v (relOf l)) (hB : B ≤ w.heap.size) (hn : l.acc.length ≤ 100000) :
    Calls Tryd.prog 68 #[v] w fun e w' => ∃ va vn, e = .returned (.tuple #[.agg #[.int .i64 (fewK l 150), .int .i64 0, va, vn], errV (fewB l 150) 150]) ∧ Built w' w.heap.size va vn (fewA l 150) (fewN l 150) ∧ Below w.heap.size w w' := by
  have HTT := Lib.hid (fun W (hb : Below w.heap.size w W) (hs : w.heap.size ≤ W.heap.size) => tidyToI l hl v W B (h.below hb hB) (Nat.le_trans hB hs) hn 150 (by omega))
  obtain ⟨K, hK⟩ : ∃ K, K = fewK l 150 := ⟨_, rfl⟩
  obtain ⟨A, hA⟩ : ∃ A, A = fewA l 150 := ⟨_, rfl⟩
  obtain ⟨N, hN⟩ : ∃ N, N = fewN l 150 := ⟨_, rfl⟩
  obtain ⟨Q, hQ⟩ : ∃ Q, Q = fewB l 150 := ⟨_, rfl⟩
  rw [← hK, ← hA, ← hN, ← hQ] at HTT
  rw [← hK, ← hA, ← hN, ← hQ]
  obtain ⟨r, hr⟩ : ∃ r, r = relOf l := ⟨_, rfl⟩
  rw [← hr] at h
  clear hr hK hA hN hQ hl
  obtain ⟨va, vn, rfl, ha, hn⟩ := h
  obtain ⟨aa, ba, oa, ca, rfl, -, -, -⟩ := ha
  obtain ⟨-, ⟨ab, bb, ob, cb, rfl, -, -, -⟩, -⟩ := hn
  obtain ⟨k, hk⟩ : ∃ k, k = r.tapes := ⟨_, rfl⟩
  obtain ⟨st, hs⟩ : ∃ st, st = r.start := ⟨_, rfl⟩
  obtain ⟨na, hna⟩ : ∃ na, na = r.accept.length := ⟨_, rfl⟩
  obtain ⟨nb, hnb⟩ : ∃ nb, nb = r.next.length := ⟨_, rfl⟩
  rw [← hk, ← hs, ← hna, ← hnb] at HTT
  rw [← hk, ← hs, ← hna, ← hnb]
  have HT := Lib.hid (HTT.out ((w.alloc (.cells #[.int .i64 k, .int .i64 st, .slice aa na ca, .slice ab nb cb] 27)).alloc (.cells #[Value.int .i64 0, .int .i64 0, .slice none 0 0, .slice none 0 0] 27)) (((Below.refl _ _).alloc (Nat.le_refl _) _).alloc (by rw [size_alloc']; omega) _) (by rw [size_alloc', size_alloc']; omega))
  clear hk hs hna hnb HTT hB
  go_enter Tryd.func68, Tryd.ntmps68
  go_wp2_with fail
  refine HT.out.mono ?_
  rintro e w3 ⟨va, vn, rfl, hbu, hb3⟩
  have hk3 : K0 w #[.int .i64 k, .int .i64 st, .slice aa na ca, .slice ab nb cb] w3 := by
    have h1 := hb3
    rw [size_alloc', size_alloc'] at h1
    exact h1
  have HR3 := Lib.hid (show Res0 w (w.heap.size + 1) w3 from ⟨K0.base hk3, K0.res hk3, Nat.le_succ _⟩)
  have HB3 := Lib.hid (show Built w3 (w.heap.size + 1 + 1) va vn A N from by
    have h1 := hbu
    rw [size_alloc', size_alloc'] at h1
    exact h1)
  clear hb3 hbu hk3 HT
  have hres := HR3.out.res
  obtain ⟨a7, n7, c7, rfl, -⟩ := HB3.out.acc.shape'
  obtain ⟨items7, -, hnx7, -⟩ := HB3.out.rows
  obtain ⟨b7, m7, d7, rfl, -⟩ := hnx7.shape'
  have r0 := cells_get hres 0
  have r1 := cells_get hres 1
  have r2 := cells_get hres 2
  have r3 := cells_get hres 3
  have f0 := cells_free hres 0
  have f1 := cells_free hres 1
  have f2 := cells_free hres 2
  have f3 := cells_free hres 3
  have hlS := HR3.out.lt
  have p0 := cells_set hres 0 (.int .i64 K)
  have p1 := cells_set p0 1 (.int .i64 0)
  have p2 := cells_set p1 2 (.slice a7 n7 c7)
  have p3 := cells_set p2 3 (.slice b7 m7 d7)
  simp at r0 r1 r2 r3 p3
  have g0 := cells_get p3 0
  have g1 := cells_get p3 1
  have g2 := cells_get p3 2
  have g3 := cells_get p3 3
  simp at g0 g1 g2 g3
  have HG := Lib.hid (And.intro g0 (And.intro g1 (And.intro g2 g3)))
  clear p0 p1 p2 p3 g0 g1 g2 g3 hres hnx7
  go_wp2_with fail
  obtain ⟨g0, g1, g2, g3⟩ := HG.out
  refine bodyPost_ret (v := .tuple #[.agg #[.int .i64 K, .int .i64 0, .slice a7 n7 c7, .slice b7 m7 d7], errV Q 150]) (by simp [results, Tryd.results68, go_sem, g0, g1, g2, g3]) rfl ⟨.slice a7 n7 c7, .slice b7 m7 d7, rfl, ?_, ?_⟩
  · exact (((((HB3.out.setLow (a := ⟨w.heap.size + 1, 0, none⟩) (Nat.lt_succ_self _) _).setLow (a := ⟨w.heap.size + 1, 1, none⟩) (Nat.lt_succ_self _) _).setLow (a := ⟨w.heap.size + 1, 2, none⟩) (Nat.lt_succ_self _) _).setLow (a := ⟨w.heap.size + 1, 3, none⟩) (Nat.lt_succ_self _) _).mono (by omega))
  · exact ((((HR3.out.base.setCell (p := ⟨w.heap.size + 1, 0, none⟩) HR3.out.hR _).setCell (p := ⟨w.heap.size + 1, 1, none⟩) HR3.out.hR _).setCell (p := ⟨w.heap.size + 1, 2, none⟩) HR3.out.hR _).setCell (p := ⟨w.heap.size + 1, 3, none⟩) HR3.out.hR _)

set_option maxHeartbeats 8000000 in
theorem outcome_ok (K : Int) (aa ab : Option Addr) (na ca nb cb : Nat) (w : World) : Calls Tryd.prog 40 #[.agg #[.int .i64 K, .int .i64 0, .slice aa na ca, .slice ab nb cb], .nilIface] w fun e w' => e = .returned (.tuple #[.agg #[.int .i64 K, .int .i64 0, .slice aa na ca, .slice ab nb cb], .int .i64 0]) ∧ Below w.heap.size w w' := by
  have HC := Lib.hid (code_nil ((w.alloc (.cells #[.int .i64 K, .int .i64 0, .slice aa na ca, .slice ab nb cb] 27)).alloc (.cells #[Value.int .i64 0, .int .i64 0, .slice none 0 0, .slice none 0 0] 27)))
  go_enter Tryd.func40, Tryd.ntmps40
  go_wp2_with fail
  refine HC.out.mono ?_
  rintro e w3 ⟨rfl, hb3⟩
  have hk3 : K0 w #[.int .i64 K, .int .i64 0, .slice aa na ca, .slice ab nb cb] w3 := by
    have h1 := hb3
    rw [size_alloc', size_alloc'] at h1
    exact h1
  have HW3 := Lib.hid (K0.base hk3)
  have hbx := K0.box hk3
  have hres := K0.res hk3
  have y0 := cells_get hbx 0
  have y1 := cells_get hbx 1
  have y2 := cells_get hbx 2
  have y3 := cells_get hbx 3
  have r0 := cells_get hres 0
  have r1 := cells_get hres 1
  have r2 := cells_get hres 2
  have r3 := cells_get hres 3
  have f0 := cells_free hres 0
  have f1 := cells_free hres 1
  have f2 := cells_free hres 2
  have f3 := cells_free hres 3
  have hlS := lt_of_block hres
  have p0 := cells_set hres 0 (.int .i64 K)
  have p1 := cells_set p0 1 (.int .i64 0)
  have p2 := cells_set p1 2 (.slice aa na ca)
  have p3 := cells_set p2 3 (.slice ab nb cb)
  simp at y0 y1 y2 y3 r0 r1 r2 r3 p3
  have g0 := cells_get p3 0
  have g1 := cells_get p3 1
  have g2 := cells_get p3 2
  have g3 := cells_get p3 3
  simp at g0 g1 g2 g3
  have HG := Lib.hid (And.intro g0 (And.intro g1 (And.intro g2 g3)))
  clear p0 p1 p2 p3 g0 g1 g2 g3 hres hbx hb3 hk3 HC
  go_wp2_with fail
  obtain ⟨g0, g1, g2, g3⟩ := HG.out
  refine bodyPost_ret (v := .tuple #[.agg #[.int .i64 K, .int .i64 0, .slice aa na ca, .slice ab nb cb], .int .i64 0]) (by simp [results, Tryd.results40, go_sem, g0, g1, g2, g3]) rfl ⟨rfl, ?_⟩
  exact ((((HW3.out.setCell (p := ⟨w.heap.size + 1, 0, none⟩) (Nat.le_succ _) _).setCell (p := ⟨w.heap.size + 1, 1, none⟩) (Nat.le_succ _) _).setCell (p := ⟨w.heap.size + 1, 2, none⟩) (Nat.le_succ _) _).setCell (p := ⟨w.heap.size + 1, 3, none⟩) (Nat.le_succ _) _)

set_option maxHeartbeats 8000000 in
theorem outcome_no (K : Int) (aa ab : Option Addr) (na ca nb cb : Nat) (w : World) (n : Int) (hg : Laid w) : Calls Tryd.prog 40 #[.agg #[.int .i64 K, .int .i64 0, .slice aa na ca, .slice ab nb cb], .iface 91 (.int .i64 n)] w fun e w' => e = .returned (.tuple #[.agg #[.int .i64 0, .int .i64 0, .slice none 0 0, .slice none 0 0], .int .i64 3]) ∧ Below w.heap.size w w' := by
  have HC := Lib.hid (code_hit n ((w.alloc (.cells #[.int .i64 K, .int .i64 0, .slice aa na ca, .slice ab nb cb] 27)).alloc (.cells #[Value.int .i64 0, .int .i64 0, .slice none 0 0, .slice none 0 0] 27)) (hg.below (base_box (base_box (Below.refl _ _) _) _)))
  go_enter Tryd.func40, Tryd.ntmps40
  go_wp2_with fail
  refine HC.out.mono ?_
  rintro e w3 ⟨rfl, hb3⟩
  have hk3 : K0 w #[.int .i64 K, .int .i64 0, .slice aa na ca, .slice ab nb cb] w3 := by
    have h1 := hb3
    rw [size_alloc', size_alloc'] at h1
    exact h1
  have HW3 := Lib.hid (K0.base hk3)
  have hbx := K0.box hk3
  have hres := K0.res hk3
  have y0 := cells_get hbx 0
  have y1 := cells_get hbx 1
  have y2 := cells_get hbx 2
  have y3 := cells_get hbx 3
  have r0 := cells_get hres 0
  have r1 := cells_get hres 1
  have r2 := cells_get hres 2
  have r3 := cells_get hres 3
  have f0 := cells_free hres 0
  have f1 := cells_free hres 1
  have f2 := cells_free hres 2
  have f3 := cells_free hres 3
  have hlS := lt_of_block hres
  have p0 := cells_set hres 0 (.int .i64 0)
  have p1 := cells_set p0 1 (.int .i64 0)
  have p2 := cells_set p1 2 (.slice none 0 0)
  have p3 := cells_set p2 3 (.slice none 0 0)
  simp at y0 y1 y2 y3 r0 r1 r2 r3 p3
  have g0 := cells_get p3 0
  have g1 := cells_get p3 1
  have g2 := cells_get p3 2
  have g3 := cells_get p3 3
  simp at g0 g1 g2 g3
  have HG := Lib.hid (And.intro g0 (And.intro g1 (And.intro g2 g3)))
  clear p0 p1 p2 p3 g0 g1 g2 g3 hres hbx hb3 hk3 HC
  go_wp2_with fail
  obtain ⟨g0, g1, g2, g3⟩ := HG.out
  refine bodyPost_ret (v := .tuple #[.agg #[.int .i64 0, .int .i64 0, .slice none 0 0, .slice none 0 0], .int .i64 3]) (by simp [results, Tryd.results40, go_sem, g0, g1, g2, g3]) rfl ⟨rfl, ?_⟩
  exact ((((HW3.out.setCell (p := ⟨w.heap.size + 1, 0, none⟩) (Nat.le_succ _) _).setCell (p := ⟨w.heap.size + 1, 1, none⟩) (Nat.le_succ _) _).setCell (p := ⟨w.heap.size + 1, 2, none⟩) (Nat.le_succ _) _).setCell (p := ⟨w.heap.size + 1, 3, none⟩) (Nat.le_succ _) _)
end Go.Proofs.YthebmpdkiocbmaaDoor.ErrCode
