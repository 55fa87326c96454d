
/- The code of an error of limits; an outcome; a tidied relation or its error.
   Conditions: stated at each theorem. -/
import Derived.Test.YtaimealknkhfbaaDoorRB15
import Derived.Test.YtaimealknkhfbaaDoorRB21
import Derived.Test.YtaimealknkhfbaaDoorRB9
namespace Go.Proofs.YtaimealknkhfbaaDoor.ErrCode
set_option linter.unusedVariables false
set_option linter.unusedSimpArgs false
set_option maxRecDepth 100000
open Go.RowKit Mem Copy Rel Valid Heap Bld TidyAuto TidyRight SpecRight ToL SpecTidyRel ImplRight ImplTidied ErrAs

/-- The type's handle lies where errors.As reads it. -/
def Laid (W : World) : Prop := W.cell? ⟨0, 0, none⟩ = some (.iface 105 (.agg #[.pointer (some ⟨1, 46, none⟩)]))
theorem Laid.pos {W : World} (h : Laid W) : 0 < W.heap.size := by
  rcases Nat.eq_zero_or_pos W.heap.size with h0 | h'
  · unfold Laid at h; simp [World.cell?, h0] at h
  · exact h'
theorem Laid.below {W W' : World} (h : Laid W) (hb : Below W.heap.size W W') : Laid W' := (hb.cell (p := ⟨0, 0, none⟩) h.pos).trans h
theorem Laid.low {w W W' : World} (h : Laid w) (hb : Below w.heap.size w W) : Laid W := h.below hb

/-- The block of a result, not yet written. -/
structure Res0 (w : World) (Rb : Nat) (W : World) : Prop where
  base : Below w.heap.size w W
  res : W.heap[Rb]? = some (.cells #[Value.int .i64 0, .int .i64 0, .slice none 0 0, .slice none 0 0] 27 (0, 0))
  hR : w.heap.size ≤ Rb
theorem Res0.lt {w W : World} {Rb : Nat} (h : Res0 w Rb W) : Rb < W.heap.size := lt_of_block h.res
theorem Res0.step {w W W' : World} {Rb : Nat} (h : Res0 w Rb W) (hb : Below W.heap.size W W') : Res0 w Rb W' :=
  ⟨base_step h.base hb, by rw [hb.block Rb h.lt]; exact h.res, h.hR⟩

/-- An error: none, or that of a limit. -/
def errV (few : Bool) (n : Int) : Value := if few = true then .nilIface else .iface 71 (.int .i64 n)

theorem code_nil (w : World) : Calls Tryd.prog 39 #[.nilIface] w fun e w' => e = .returned (.int .i64 0) ∧ Below w.heap.size w w' := by
  go_enter Tryd.func39, Tryd.ntmps39
  go_wp2_with (go_at_call 52; refine (as_nil _ _).mono ?_; rintro e w' ⟨rfl, rfl⟩)
  go_ret
  exact ⟨rfl, (Below.refl _ _).alloc (Nat.le_refl _) _⟩
set_option maxHeartbeats 4000000 in
theorem code_hit (n : Int) (w : World) (hg : Laid w) : Calls Tryd.prog 39 #[.iface 71 (.int .i64 n)] w fun e w' => e = .returned (.int .i64 3) ∧ Below w.heap.size w w' := by
  have HA := Lib.hid ((as_hit n ⟨w.heap.size, 0, none⟩ (.int .i64 0) (w.alloc (.cells #[.int .i64 0] 71)) (hg.below ((Below.refl _ _).alloc (Nat.le_refl _) _)) (by simp) (by simp)).mono (fun e w' ⟨he, hw⟩ => (show e = Ending.returned (.bool true) ∧ Below w.heap.size w w' from ⟨he, by
    rw [hw]
    exact (base_box (base_box (base_box (base_box (base_box (Below.refl _ _) _) _) _) _) _).setCell (p := ⟨w.heap.size, 0, none⟩) (Nat.le_refl _) _⟩)))
  go_enter Tryd.func39, Tryd.ntmps39
  go_wp2_with fail
  refine HA.out.mono ?_
  rintro e w' ⟨rfl, hb⟩
  have HB := Lib.hid hb
  clear hb
  go_wp2_with fail
  go_ret
  exact ⟨rfl, HB.out⟩
theorem code (few : Bool) (n : Int) (w : World) (hg : Laid w) : Calls Tryd.prog 39 #[errV few n] w fun e w' => e = .returned (.int .i64 (if few = true then 0 else 3)) ∧ Below w.heap.size w w' := by
  cases few with
  | true => exact code_nil w
  | false => exact code_hit n w hg
/-! TIDY -/
set_option maxHeartbeats 8000000 in
theorem tidyToI (l : L) (hl : l.Ok) (v : Value) (w : World) (B : Nat) (h : RelAt w B v (relOf l)) (hB : B ≤ w.heap.size) (hn : l.acc.length ≤ 100000) (mst : Nat) (hmst : mst ≤ 100000) :
    Calls Tryd.prog 56 #[v, .int .i64 mst] w fun e w' => ∃ va vn, e = .returned (.tuple #[.agg #[.int .i64 (fewK l mst), .int .i64 0, va, vn], errV (fewB l mst) mst]) ∧ Built w' w.heap.size va vn (fewA l mst) (fewN l mst) ∧ Below w.heap.size w w' := by
  have HTT := Lib.hid (fun W (hb : Below w.heap.size w W) (hs : w.heap.size ≤ W.heap.size) => ImplTidied.tidiedTo l hl v W B (h.below hb hB) (Nat.le_trans hB hs) hn mst hmst)
  obtain ⟨K, hK⟩ : ∃ K, K = fewK l mst := ⟨_, rfl⟩
  obtain ⟨A, hA⟩ : ∃ A, A = fewA l mst := ⟨_, rfl⟩
  obtain ⟨N, hN⟩ : ∃ N, N = fewN l mst := ⟨_, rfl⟩
  obtain ⟨Q, hQ⟩ : ∃ Q, Q = fewB l mst := ⟨_, rfl⟩
  have HE0 := Lib.hid (show Q = false → K = 0 ∧ A = [] ∧ N = [] from fun h => by rw [hK, hA, hN]; unfold fewK fewA fewN; rw [← hQ, h]; exact ⟨rfl, rfl, rfl⟩)
  rw [← hK, ← hA, ← hN, ← hQ] at HTT
  rw [← hK, ← hA, ← hN, ← hQ]
  obtain ⟨r, hr⟩ : ∃ r, r = relOf l := ⟨_, rfl⟩
  rw [← hr] at h
  clear hr
  obtain ⟨va, vn, rfl, ha, hn⟩ := h
  obtain ⟨aa, ba, oa, ca, rfl, -, -, -⟩ := ha
  obtain ⟨-, ⟨ab, bb, ob, cb, rfl, -, -, -⟩, -⟩ := hn
  obtain ⟨k, hk⟩ : ∃ k, k = r.tapes := ⟨_, rfl⟩
  obtain ⟨st, hs⟩ : ∃ st, st = r.start := ⟨_, rfl⟩
  obtain ⟨na, hna⟩ : ∃ na, na = r.accept.length := ⟨_, rfl⟩
  obtain ⟨nb, hnb⟩ : ∃ nb, nb = r.next.length := ⟨_, rfl⟩
  rw [← hk, ← hs, ← hna, ← hnb] at HTT
  rw [← hk, ← hs, ← hna, ← hnb]
  have HT := Lib.hid (HTT.out ((w.alloc (.cells #[.int .i64 k, .int .i64 st, .slice aa na ca, .slice ab nb cb] 27)).alloc (.cells #[Value.int .i64 0, .int .i64 0, .slice none 0 0, .slice none 0 0] 27)) (((Below.refl _ _).alloc (Nat.le_refl _) _).alloc (by rw [size_alloc']; omega) _) (by rw [size_alloc', size_alloc']; omega))
  clear hk hs hna hnb hK hA hN hQ HTT hB hl hn hmst
  go_enter Tryd.func56, Tryd.ntmps56
  go_wp2_with fail
  refine HT.out.mono ?_
  rintro e w3 ⟨va, vn, rfl, hbu, hb3⟩
  have hk3 : K0 w #[.int .i64 k, .int .i64 st, .slice aa na ca, .slice ab nb cb] w3 := by
    have h1 := hb3
    rw [size_alloc', size_alloc'] at h1
    exact h1
  have hbu2 : Built w3 (w.heap.size + 2) va vn A N := by
    have h1 := hbu
    rw [size_alloc', size_alloc'] at h1
    exact h1
  have HBU := Lib.hid hbu2
  obtain ⟨a3, n3, c3, rfl, -⟩ := hbu.acc.shape'
  obtain ⟨items0, -, hnx0, -⟩ := hbu.rows
  obtain ⟨b3, m3, d3, rfl, -⟩ := hnx0.shape'
  have HK3 := Lib.hid hk3
  have hres := K0.res hk3
  have HRES := Lib.hid hres
  clear hb3 hbu hbu2 hnx0 hk3 HT
  cases Q with
  | true =>
    have r0 := cells_get hres 0
    have r1 := cells_get hres 1
    have r2 := cells_get hres 2
    have r3 := cells_get hres 3
    have f0 := cells_free hres 0
    have f1 := cells_free hres 1
    have f2 := cells_free hres 2
    have f3 := cells_free hres 3
    have hlS := lt_of_block hres
    have p0 := cells_set hres 0 (.int .i64 K)
    have p1 := cells_set p0 1 (.int .i64 0)
    have p2 := cells_set p1 2 (Value.slice a3 n3 c3)
    have p3 := cells_set p2 3 (Value.slice b3 m3 d3)
    simp at r0 r1 r2 r3 p3
    have p4 := (Below.heap_alloc _ (.cells #[.int .i64 K, .int .i64 0, .slice a3 n3 c3, .slice b3 m3 d3] 27) _ (lt_of_block p3)).trans p3
    have g0 := cells_get p4 0
    have g1 := cells_get p4 1
    have g2 := cells_get p4 2
    have g3 := cells_get p4 3
    simp at g0 g1 g2 g3
    have HG := Lib.hid (And.intro g0 (And.intro g1 (And.intro g2 g3)))
    clear p0 p1 p2 p3 p4 g0 g1 g2 g3 hres
    go_wp2_with fail
    obtain ⟨g0, g1, g2, g3⟩ := HG.out
    refine bodyPost_ret (v := .tuple #[.agg #[.int .i64 K, .int .i64 0, .slice a3 n3 c3, .slice b3 m3 d3], .nilIface]) (by simp [results, Tryd.results56, go_sem, g0, g1, g2, g3]) rfl ⟨.slice a3 n3 c3, .slice b3 m3 d3, rfl, ?_, ?_⟩
    · exact ((((((HBU.out.setLow (a := ⟨w.heap.size + 1, 0, none⟩) (Nat.lt_succ_self _) _).setLow (a := ⟨w.heap.size + 1, 1, none⟩) (Nat.lt_succ_self _) _).setLow (a := ⟨w.heap.size + 1, 2, none⟩) (Nat.lt_succ_self _) _).setLow (a := ⟨w.heap.size + 1, 3, none⟩) (Nat.lt_succ_self _) _).below ((Below.refl _ _).alloc (Nat.le_refl _) _)).mono (by omega))
    · have HBW := K0.base HK3.out
      exact ((((HBW.setCell (p := ⟨w.heap.size + 1, 0, none⟩) (Nat.le_succ _) _).setCell (p := ⟨w.heap.size + 1, 1, none⟩) (Nat.le_succ _) _).setCell (p := ⟨w.heap.size + 1, 2, none⟩) (Nat.le_succ _) _).setCell (p := ⟨w.heap.size + 1, 3, none⟩) (Nat.le_succ _) _).alloc (by simp [World.setCell]; have := HBW.size; omega) _
  | false =>
    obtain ⟨rfl, rfl, rfl⟩ := HE0.out rfl
    have r0 := cells_get hres 0
    have r1 := cells_get hres 1
    have r2 := cells_get hres 2
    have r3 := cells_get hres 3
    have f0 := cells_free hres 0
    have f1 := cells_free hres 1
    have f2 := cells_free hres 2
    have f3 := cells_free hres 3
    have hlS := lt_of_block hres
    have p0 := cells_set hres 0 (.int .i64 0)
    have p1 := cells_set p0 1 (.int .i64 0)
    have p2 := cells_set p1 2 (Value.slice none 0 0)
    have p3 := cells_set p2 3 (Value.slice none 0 0)
    simp at r0 r1 r2 r3 p3
    have p4 := (Below.heap_alloc _ (.cells #[.int .i64 0, .int .i64 0, .slice a3 n3 c3, .slice b3 m3 d3] 27) _ (lt_of_block p3)).trans p3
    have g0 := cells_get p4 0
    have g1 := cells_get p4 1
    have g2 := cells_get p4 2
    have g3 := cells_get p4 3
    simp at g0 g1 g2 g3
    have HG := Lib.hid (And.intro g0 (And.intro g1 (And.intro g2 g3)))
    clear p0 p1 p2 p3 p4 g0 g1 g2 g3 hres
    go_wp2_with fail
    obtain ⟨g0, g1, g2, g3⟩ := HG.out
    refine bodyPost_ret (v := .tuple #[.agg #[.int .i64 0, .int .i64 0, .slice none 0 0, .slice none 0 0], .iface 71 (.int .i64 mst)]) (by simp [results, Tryd.results56, go_sem, g0, g1, g2, g3]) rfl ⟨.slice none 0 0, .slice none 0 0, rfl, ImplTidied.built_none _ _, ?_⟩
    have HBW := K0.base HK3.out
    exact ((((HBW.setCell (p := ⟨w.heap.size + 1, 0, none⟩) (Nat.le_succ _) _).setCell (p := ⟨w.heap.size + 1, 1, none⟩) (Nat.le_succ _) _).setCell (p := ⟨w.heap.size + 1, 2, none⟩) (Nat.le_succ _) _).setCell (p := ⟨w.heap.size + 1, 3, none⟩) (Nat.le_succ _) _).alloc (by simp [World.setCell]; have := HBW.size; omega) _


set_option maxHeartbeats 8000000 in
theorem tidyStepI (l : L) (hl : l.Ok) (v : Value) (w : World) (B : Nat) (h : RelAt w B v (relOf l)) (hB : B ≤ w.heap.size) (hn : l.acc.length ≤ 100000) :
    Calls Tryd.prog 57 #[v] w fun e w' => ∃ va vn, e = .returned (.tuple #[.agg #[.int .i64 (fewK l 150), .int .i64 0, va, vn], errV (fewB l 150) 150]) ∧ Built w' w.heap.size va vn (fewA l 150) (fewN l 150) ∧ Below w.heap.size w w' := by
  have HTT := Lib.hid (fun W (hb : Below w.heap.size w W) (hs : w.heap.size ≤ W.heap.size) => tidyToI l hl v W B (h.below hb hB) (Nat.le_trans hB hs) hn 150 (by omega))
  obtain ⟨K, hK⟩ : ∃ K, K = fewK l 150 := ⟨_, rfl⟩
  obtain ⟨A, hA⟩ : ∃ A, A = fewA l 150 := ⟨_, rfl⟩
  obtain ⟨N, hN⟩ : ∃ N, N = fewN l 150 := ⟨_, rfl⟩
  obtain ⟨Q, hQ⟩ : ∃ Q, Q = fewB l 150 := ⟨_, rfl⟩
  rw [← hK, ← hA, ← hN, ← hQ] at HTT
  rw [← hK, ← hA, ← hN, ← hQ]
  obtain ⟨r, hr⟩ : ∃ r, r = relOf l := ⟨_, rfl⟩
  rw [← hr] at h
  clear hr hK hA hN hQ hl
  obtain ⟨va, vn, rfl, ha, hn⟩ := h
  obtain ⟨aa, ba, oa, ca, rfl, -, -, -⟩ := ha
  obtain ⟨-, ⟨ab, bb, ob, cb, rfl, -, -, -⟩, -⟩ := hn
  obtain ⟨k, hk⟩ : ∃ k, k = r.tapes := ⟨_, rfl⟩
  obtain ⟨st, hs⟩ : ∃ st, st = r.start := ⟨_, rfl⟩
  obtain ⟨na, hna⟩ : ∃ na, na = r.accept.length := ⟨_, rfl⟩
  obtain ⟨nb, hnb⟩ : ∃ nb, nb = r.next.length := ⟨_, rfl⟩
  rw [← hk, ← hs, ← hna, ← hnb] at HTT
  rw [← hk, ← hs, ← hna, ← hnb]
  have HT := Lib.hid (HTT.out ((w.alloc (.cells #[.int .i64 k, .int .i64 st, .slice aa na ca, .slice ab nb cb] 27)).alloc (.cells #[Value.int .i64 0, .int .i64 0, .slice none 0 0, .slice none 0 0] 27)) (((Below.refl _ _).alloc (Nat.le_refl _) _).alloc (by rw [size_alloc']; omega) _) (by rw [size_alloc', size_alloc']; omega))
  clear hk hs hna hnb HTT hB
  go_enter Tryd.func57, Tryd.ntmps57
  go_wp2_with fail
  refine HT.out.mono ?_
  rintro e w3 ⟨va, vn, rfl, hbu, hb3⟩
  have hk3 : K0 w #[.int .i64 k, .int .i64 st, .slice aa na ca, .slice ab nb cb] w3 := by
    have h1 := hb3
    rw [size_alloc', size_alloc'] at h1
    exact h1
  have HR3 := Lib.hid (show Res0 w (w.heap.size + 1) w3 from ⟨K0.base hk3, K0.res hk3, Nat.le_succ _⟩)
  have HB3 := Lib.hid (show Built w3 (w.heap.size + 1 + 1) va vn A N from by
    have h1 := hbu
    rw [size_alloc', size_alloc'] at h1
    exact h1)
  clear hb3 hbu hk3 HT
  have hres := HR3.out.res
  obtain ⟨a7, n7, c7, rfl, -⟩ := HB3.out.acc.shape'
  obtain ⟨items7, -, hnx7, -⟩ := HB3.out.rows
  obtain ⟨b7, m7, d7, rfl, -⟩ := hnx7.shape'
  have r0 := cells_get hres 0
  have r1 := cells_get hres 1
  have r2 := cells_get hres 2
  have r3 := cells_get hres 3
  have f0 := cells_free hres 0
  have f1 := cells_free hres 1
  have f2 := cells_free hres 2
  have f3 := cells_free hres 3
  have hlS := HR3.out.lt
  have p0 := cells_set hres 0 (.int .i64 K)
  have p1 := cells_set p0 1 (.int .i64 0)
  have p2 := cells_set p1 2 (.slice a7 n7 c7)
  have p3 := cells_set p2 3 (.slice b7 m7 d7)
  simp at r0 r1 r2 r3 p3
  have g0 := cells_get p3 0
  have g1 := cells_get p3 1
  have g2 := cells_get p3 2
  have g3 := cells_get p3 3
  simp at g0 g1 g2 g3
  have HG := Lib.hid (And.intro g0 (And.intro g1 (And.intro g2 g3)))
  clear p0 p1 p2 p3 g0 g1 g2 g3 hres hnx7
  go_wp2_with fail
  obtain ⟨g0, g1, g2, g3⟩ := HG.out
  refine bodyPost_ret (v := .tuple #[.agg #[.int .i64 K, .int .i64 0, .slice a7 n7 c7, .slice b7 m7 d7], errV Q 150]) (by simp [results, Tryd.results57, go_sem, g0, g1, g2, g3]) rfl ⟨.slice a7 n7 c7, .slice b7 m7 d7, rfl, ?_, ?_⟩
  · exact (((((HB3.out.setLow (a := ⟨w.heap.size + 1, 0, none⟩) (Nat.lt_succ_self _) _).setLow (a := ⟨w.heap.size + 1, 1, none⟩) (Nat.lt_succ_self _) _).setLow (a := ⟨w.heap.size + 1, 2, none⟩) (Nat.lt_succ_self _) _).setLow (a := ⟨w.heap.size + 1, 3, none⟩) (Nat.lt_succ_self _) _).mono (by omega))
  · exact ((((HR3.out.base.setCell (p := ⟨w.heap.size + 1, 0, none⟩) HR3.out.hR _).setCell (p := ⟨w.heap.size + 1, 1, none⟩) HR3.out.hR _).setCell (p := ⟨w.heap.size + 1, 2, none⟩) HR3.out.hR _).setCell (p := ⟨w.heap.size + 1, 3, none⟩) HR3.out.hR _)

set_option maxHeartbeats 8000000 in
theorem outcome_ok (K : Int) (aa ab : Option Addr) (na ca nb cb : Nat) (w : World) : Calls Tryd.prog 20 #[.agg #[.int .i64 K, .int .i64 0, .slice aa na ca, .slice ab nb cb], .nilIface] w fun e w' => e = .returned (.tuple #[.agg #[.int .i64 K, .int .i64 0, .slice aa na ca, .slice ab nb cb], .int .i64 0]) ∧ Below w.heap.size w w' := by
  have HC := Lib.hid (code_nil ((w.alloc (.cells #[.int .i64 K, .int .i64 0, .slice aa na ca, .slice ab nb cb] 27)).alloc (.cells #[Value.int .i64 0, .int .i64 0, .slice none 0 0, .slice none 0 0] 27)))
  go_enter Tryd.func20, Tryd.ntmps20
  go_wp2_with fail
  refine HC.out.mono ?_
  rintro e w3 ⟨rfl, hb3⟩
  have hk3 : K0 w #[.int .i64 K, .int .i64 0, .slice aa na ca, .slice ab nb cb] w3 := by
    have h1 := hb3
    rw [size_alloc', size_alloc'] at h1
    exact h1
  have HW3 := Lib.hid (K0.base hk3)
  have hbx := K0.box hk3
  have hres := K0.res hk3
  have y0 := cells_get hbx 0
  have y1 := cells_get hbx 1
  have y2 := cells_get hbx 2
  have y3 := cells_get hbx 3
  have r0 := cells_get hres 0
  have r1 := cells_get hres 1
  have r2 := cells_get hres 2
  have r3 := cells_get hres 3
  have f0 := cells_free hres 0
  have f1 := cells_free hres 1
  have f2 := cells_free hres 2
  have f3 := cells_free hres 3
  have hlS := lt_of_block hres
  have p0 := cells_set hres 0 (.int .i64 K)
  have p1 := cells_set p0 1 (.int .i64 0)
  have p2 := cells_set p1 2 (.slice aa na ca)
  have p3 := cells_set p2 3 (.slice ab nb cb)
  simp at y0 y1 y2 y3 r0 r1 r2 r3 p3
  have g0 := cells_get p3 0
  have g1 := cells_get p3 1
  have g2 := cells_get p3 2
  have g3 := cells_get p3 3
  simp at g0 g1 g2 g3
  have HG := Lib.hid (And.intro g0 (And.intro g1 (And.intro g2 g3)))
  clear p0 p1 p2 p3 g0 g1 g2 g3 hres hbx hb3 hk3 HC
  go_wp2_with fail
  obtain ⟨g0, g1, g2, g3⟩ := HG.out
  refine bodyPost_ret (v := .tuple #[.agg #[.int .i64 K, .int .i64 0, .slice aa na ca, .slice ab nb cb], .int .i64 0]) (by simp [results, Tryd.results20, go_sem, g0, g1, g2, g3]) rfl ⟨rfl, ?_⟩
  exact ((((HW3.out.setCell (p := ⟨w.heap.size + 1, 0, none⟩) (Nat.le_succ _) _).setCell (p := ⟨w.heap.size + 1, 1, none⟩) (Nat.le_succ _) _).setCell (p := ⟨w.heap.size + 1, 2, none⟩) (Nat.le_succ _) _).setCell (p := ⟨w.heap.size + 1, 3, none⟩) (Nat.le_succ _) _)

set_option maxHeartbeats 8000000 in
theorem outcome_no (K : Int) (aa ab : Option Addr) (na ca nb cb : Nat) (w : World) (n : Int) (hg : Laid w) : Calls Tryd.prog 20 #[.agg #[.int .i64 K, .int .i64 0, .slice aa na ca, .slice ab nb cb], .iface 71 (.int .i64 n)] w fun e w' => e = .returned (.tuple #[.agg #[.int .i64 0, .int .i64 0, .slice none 0 0, .slice none 0 0], .int .i64 3]) ∧ Below w.heap.size w w' := by
  have HC := Lib.hid (code_hit n ((w.alloc (.cells #[.int .i64 K, .int .i64 0, .slice aa na ca, .slice ab nb cb] 27)).alloc (.cells #[Value.int .i64 0, .int .i64 0, .slice none 0 0, .slice none 0 0] 27)) (hg.below (base_box (base_box (Below.refl _ _) _) _)))
  go_enter Tryd.func20, Tryd.ntmps20
  go_wp2_with fail
  refine HC.out.mono ?_
  rintro e w3 ⟨rfl, hb3⟩
  have hk3 : K0 w #[.int .i64 K, .int .i64 0, .slice aa na ca, .slice ab nb cb] w3 := by
    have h1 := hb3
    rw [size_alloc', size_alloc'] at h1
    exact h1
  have HW3 := Lib.hid (K0.base hk3)
  have hbx := K0.box hk3
  have hres := K0.res hk3
  have y0 := cells_get hbx 0
  have y1 := cells_get hbx 1
  have y2 := cells_get hbx 2
  have y3 := cells_get hbx 3
  have r0 := cells_get hres 0
  have r1 := cells_get hres 1
  have r2 := cells_get hres 2
  have r3 := cells_get hres 3
  have f0 := cells_free hres 0
  have f1 := cells_free hres 1
  have f2 := cells_free hres 2
  have f3 := cells_free hres 3
  have hlS := lt_of_block hres
  have p0 := cells_set hres 0 (.int .i64 0)
  have p1 := cells_set p0 1 (.int .i64 0)
  have p2 := cells_set p1 2 (.slice none 0 0)
  have p3 := cells_set p2 3 (.slice none 0 0)
  simp at y0 y1 y2 y3 r0 r1 r2 r3 p3
  have g0 := cells_get p3 0
  have g1 := cells_get p3 1
  have g2 := cells_get p3 2
  have g3 := cells_get p3 3
  simp at g0 g1 g2 g3
  have HG := Lib.hid (And.intro g0 (And.intro g1 (And.intro g2 g3)))
  clear p0 p1 p2 p3 g0 g1 g2 g3 hres hbx hb3 hk3 HC
  go_wp2_with fail
  obtain ⟨g0, g1, g2, g3⟩ := HG.out
  refine bodyPost_ret (v := .tuple #[.agg #[.int .i64 0, .int .i64 0, .slice none 0 0, .slice none 0 0], .int .i64 3]) (by simp [results, Tryd.results20, go_sem, g0, g1, g2, g3]) rfl ⟨rfl, ?_⟩
  exact ((((HW3.out.setCell (p := ⟨w.heap.size + 1, 0, none⟩) (Nat.le_succ _) _).setCell (p := ⟨w.heap.size + 1, 1, none⟩) (Nat.le_succ _) _).setCell (p := ⟨w.heap.size + 1, 2, none⟩) (Nat.le_succ _) _).setCell (p := ⟨w.heap.size + 1, 3, none⟩) (Nat.le_succ _) _)
end Go.Proofs.YtaimealknkhfbaaDoor.ErrCode
/- What the program's reread hands back, as a relation that is read.
   Conditions: stated at each theorem. -/
namespace Go.Proofs.YtaimealknkhfbaaDoor.RereadI
set_option linter.unusedVariables false
set_option linter.unusedSimpArgs false
set_option maxRecDepth 100000
open Go.RowKit Go.Maps Mem Copy Rel Valid Heap Bld Columns ColMath SpecFiner Numbers TidyMath TidyRight SpecRight ImplRight Automaton TapeMath Reread

/-- Three blocks: the box of a relation, of a function, and a result's place. -/
abbrev K3 (w : World) (x : Array Value) (F : Value) (W : World) : Prop := Below (w.heap.size + 3) (((w.alloc (.cells x 27)).alloc (.cells #[F] 77)).alloc (.cells #[Value.int .i64 0, .int .i64 0, .slice none 0 0, .slice none 0 0] 27)) W
section
variable {w W : World} {x : Array Value} {F : Value}
theorem K3.size3 (w : World) (x : Array Value) (F : Value) : (((w.alloc (.cells x 27)).alloc (.cells #[F] 77)).alloc (.cells #[Value.int .i64 0, .int .i64 0, .slice none 0 0, .slice none 0 0] 27)).heap.size = w.heap.size + 3 := by rw [size_alloc', size_alloc', size_alloc']
theorem K3.size (h : K3 w x F W) : w.heap.size + 3 ≤ W.heap.size := by have := Below.size h; rw [K3.size3] at this; exact this
theorem K3.base (h : K3 w x F W) : Below w.heap.size w W := (base_box (base_box (base_box (Below.refl _ w) _) _) _).trans (Below.mono h (by omega))
theorem K3.step {W' : World} (h : K3 w x F W) (hb : Below W.heap.size W W') : K3 w x F W' := Below.trans h (hb.mono (K3.size h))
theorem K3.box (h : K3 w x F W) : W.heap[w.heap.size]? = some (.cells x 27 (0, 0)) := by
  rw [Below.block h _ (by omega), Below.heap_alloc _ _ _ (by rw [size_alloc', size_alloc']; omega), Below.heap_alloc _ _ _ (by rw [size_alloc']; omega)]; exact heap_alloc_new _ _
theorem K3.fn (h : K3 w x F W) : W.heap[w.heap.size + 1]? = some (.cells #[F] 77 (0, 0)) := by
  rw [Below.block h _ (by omega), Below.heap_alloc _ _ _ (by rw [size_alloc', size_alloc']; omega)]
  have := heap_alloc_new (w.alloc (.cells x 27)) (.cells #[F] 77)
  rwa [size_alloc'] at this
theorem K3.res (h : K3 w x F W) : W.heap[w.heap.size + 2]? = some (.cells #[Value.int .i64 0, .int .i64 0, .slice none 0 0, .slice none 0 0] 27 (0, 0)) := by
  rw [Below.block h _ (by omega)]
  have := heap_alloc_new ((w.alloc (.cells x 27)).alloc (.cells #[F] 77)) (.cells #[Value.int .i64 0, .int .i64 0, .slice none 0 0, .slice none 0 0] 27)
  rwa [size_alloc', size_alloc'] at this
end

set_option maxHeartbeats 8000000 in
theorem rereadB (l : L) (hl : l.Ok) (k2 : Nat) (h21 : 1 ≤ k2) (h23 : k2 ≤ 3) (φ : Nat → Nat) (hφ : ∀ c, c < wide k2 → φ c ≤ wide l.k) (v : Value) (w : World) (B : Nat) (h : RelAt w B v (relOf l)) (hB : B ≤ w.heap.size) (hn : l.acc.length ≤ 100000)
    (cf : FuncId) (caps : Array Value) (hcf : ∀ (args : Array Value) (W : World), (callFunc cf args).run Tryd.prog W = .ok (.enter cf args) W)
    (hch : ∀ W', Below w.heap.size w W' → ∀ c, c < wide k2 → Calls Tryd.prog cf (#[lettersV k2 c] ++ caps) W' fun e w' => e = .returned (lettersV l.k (φ c)) ∧ Below W'.heap.size W' w') :
    Calls Tryd.prog 55 #[v, .int .i64 k2, .func (.func cf) #[] caps] w fun e w' => ∃ va vn, e = .returned (.agg #[.int .i64 k2, .int .i64 (l.start : Nat), va, vn]) ∧ (∃ x y z, v = .agg #[x, y, va, z]) ∧ Built w' w.heap.size (.slice none 0 0) vn [] (autN k2 l.acc.length (reN l φ)) ∧ Below w.heap.size w w' := by
  obtain ⟨va, vn, rfl, ha, hx⟩ := h
  obtain ⟨K, hK⟩ := keys_are
  have hk1 := hl.k0
  have hk3 := hl.k3
  obtain ⟨F, hF⟩ : ∃ F : Value, F = .func (.func cf) #[] caps := ⟨_, rfl⟩
  obtain ⟨x, hxx⟩ : ∃ x : Array Value, x = #[.int .i64 ((relOf l).tapes), .int .i64 ((relOf l).start), va, vn] := ⟨_, rfl⟩
  have HNU := Lib.hid (fun W => numbers K hK l.k hk1 hk3 W)
  have hrc : ∀ (args : Array Value) (W : World), (callFunc 65 args).run Tryd.prog W = .ok (.enter 65 args) W := fun _ _ => rfl
  have HAU := Lib.hid (fun W mb (hW : K3 w x F W) (hm : mb < W.heap.size) (h7 : W.cell? ⟨mb, 0, none⟩ = some (.map (some (w.heap.size + 3)))) (hown : W.ownsMap Tryd.prog 75 (plainElem Tryd.prog 2) (w.heap.size + 3) (widN l.k) (Numbers.D K l.k (widN l.k))) (hmb : w.heap.size + 3 < W.heap.size) =>
    automaton k2 h21 h23 va l.acc W B (ha.below (K3.base hW) hB) (by have := K3.size hW; omega) hn 65 hrc #[.pointer (some ⟨mb, 0, none⟩), .pointer (some ⟨w.heap.size + 1, 0, none⟩), .pointer (some ⟨w.heap.size, 0, none⟩)] (reN l φ)
      (fun W' hW' s c hs hc => rule l hl k2 φ s c hs (hφ c hc) hK mb (w.heap.size + 1) w.heap.size (w.heap.size + 3) cf caps va vn hcf W' W.heap.size (hW'.size) hm (by have := K3.size hW; omega) (by have := K3.size hW; omega) hmb
        ((hW'.cell hm).trans h7) (by rw [cells_get (K3.fn (K3.step hW hW')), hF]; rfl) (by rw [cells_get (K3.box (K3.step hW hW')), hxx]; rfl)
        (ownsMap_of hown (hW'.block _ hmb)) ((hx.below (K3.base (K3.step hW hW')) hB).mono (by have := K3.size hW; omega))
        (fun W'' hW'' => hch W'' ((K3.base (K3.step hW hW')).trans (hW''.mono (by have := K3.size hW; omega))) c hc)))
  obtain ⟨aa, ba, oa, ca, rfl, -, -, -⟩ := ha
  obtain ⟨-, ⟨ab, bb, ob, cb, rfl, -, -, -⟩, -⟩ := hx
  have e1 : (relOf l).accept.length = l.acc.length := rfl
  rw [e1] at HAU hxx ⊢
  obtain ⟨na, hna⟩ : ∃ n, n = l.acc.length := ⟨_, rfl⟩
  obtain ⟨nb, hnb⟩ : ∃ n, n = (relOf l).next.length := ⟨_, rfl⟩
  obtain ⟨k, hk⟩ : ∃ n : Int, n = (relOf l).tapes := ⟨_, rfl⟩
  obtain ⟨st, hst⟩ : ∃ n : Int, n = (relOf l).start := ⟨_, rfl⟩
  have hst' : ((l.start : Nat) : Int) = st := hst.symm
  have hk' : ((l.k : Nat) : Int) = k := hk.symm
  rw [hst']
  rw [← hk, ← hst, ← hna, ← hnb] at hxx
  rw [← hna] at HAU
  rw [← hk, ← hst, ← hna, ← hnb]
  rw [hk'] at HNU
  have HXX := Lib.hid hxx
  have HFF := Lib.hid hF
  have hmf : ∀ (fn : Fn) (first cap : Array Value) (w : World), (Instr.makeFunc fn first cap).run Tryd.prog w = .ok (.func fn first cap) w := fun _ _ _ _ => rfl
  have HK0 := Lib.hid (show K3 w x F (((w.alloc (.cells x 27)).alloc (.cells #[F] 77)).alloc (.cells #[Value.int .i64 0, .int .i64 0, .slice none 0 0, .slice none 0 0] 27)) from Below.refl _ _)
  rw [← hF]
  clear hna hnb hk hst hst' hk' hF e1 hch hB hl hφ hn hcf hxx
  go_enter Tryd.func55, Tryd.ntmps55
  go_wp2_with fail
  have hs3 := K3.size3 w x F
  rw [← HXX.out]
  refine (HNU.out _).mono ?_
  rintro e w1 ⟨rfl, hown, hb, hlt⟩
  rw [hs3] at hown hb hlt ⊢
  have HK1 := Lib.hid (show K3 w x F w1 from hb)
  have HOW := Lib.hid hown
  have hl1 := K3.size HK1.out
  clear hb hown hs3 HNU HK0
  have HK2 := Lib.hid (K3.step HK1.out ((Below.refl _ _).alloc (Nat.le_refl _) (.cells #[.map (some (w.heap.size + 3))] 97)))
  have b0 := K3.box HK2.out
  have c2 := cells_get b0 2
  rw [HXX.out] at c2
  simp at c2
  have HC := Lib.hid (HAU.out (w1.alloc (.cells #[.map (some (w.heap.size + 3))] 97)) w1.heap.size HK2.out (by rw [size_alloc']; omega) (by rw [cells_get (heap_alloc_new _ _)]; rfl)
    (ownsMap_of HOW.out (Below.heap_alloc _ _ _ hlt)) (by rw [size_alloc']; omega))
  clear b0 HAU
  go_wp2_with fail
  refine HC.out.mono ?_
  rintro e w3 ⟨rn, rfl, hbu, hb⟩
  have HK3 := Lib.hid (K3.step HK2.out hb)
  have HBU := Lib.hid (hbu.mono (C := w.heap.size + 3) (by rw [size_alloc']; have := hl1; omega))
  obtain ⟨items3, -, hnx, -⟩ := hbu.rows
  obtain ⟨b3, m3, d3, rfl, -⟩ := hnx.shape'
  have y1 := cells_get (K3.box HK3.out) 1
  rw [HXX.out] at y1
  simp at y1
  have hres3 := K3.res HK3.out
  have hl3 := K3.size HK3.out
  obtain ⟨Z, hZ⟩ : ∃ Z, Z = w.heap.size + 2 := ⟨_, rfl⟩
  have hZ2 : w.heap.size + 1 + 1 = Z := by rw [hZ]
  have hlZ : Z < w3.heap.size := by omega
  have hly : w.heap.size < w3.heap.size := by omega
  rw [← hZ] at hres3
  have r0 := cells_get hres3 0
  have r1 := cells_get hres3 1
  have r2 := cells_get hres3 2
  have r3 := cells_get hres3 3
  have f0 := cells_free hres3 0
  have f1 := cells_free hres3 1
  have f2 := cells_free hres3 2
  have f3 := cells_free hres3 3
  have p0 := cells_set hres3 0 (.int .i64 k2)
  have p1 := cells_set p0 1 (.int .i64 st)
  have p2 := cells_set p1 2 (.slice aa na ca)
  have p3 := cells_set p2 3 (.slice b3 m3 d3)
  simp at r0 r1 r2 r3 p3
  have p4 := (Below.heap_alloc ((((w3.setCell ⟨Z, 0, none⟩ (.int .i64 k2)).setCell ⟨Z, 1, none⟩ (.int .i64 st)).setCell ⟨Z, 2, none⟩ (.slice aa na ca)).setCell ⟨Z, 3, none⟩ (.slice b3 m3 d3)) (.cells #[.int .i64 k2, .int .i64 st, .slice aa na ca, .slice b3 m3 d3] 27) _ (lt_of_block p3)).trans p3
  have g0 := cells_get p4 0
  have g1 := cells_get p4 1
  have g2 := cells_get p4 2
  have g3 := cells_get p4 3
  simp at g0 g1 g2 g3
  have HG := Lib.hid (And.intro g0 (And.intro g1 (And.intro g2 g3)))
  have HZ := Lib.hid hZ
  rw [hZ2]
  clear p0 p1 p2 p3 p4 g0 g1 g2 g3 hres3 hbu hb hnx HC hZ hl1 hl3 c2 hlt
  go_wp2_with fail
  obtain ⟨g0, g1, g2, g3⟩ := HG.out
  have HBW : Below w.heap.size w (((((w3.setCell ⟨Z, 0, none⟩ (.int .i64 k2)).setCell ⟨Z, 1, none⟩ (.int .i64 st)).setCell ⟨Z, 2, none⟩ (.slice aa na ca)).setCell ⟨Z, 3, none⟩ (.slice b3 m3 d3)).alloc (.cells #[.int .i64 k2, .int .i64 st, .slice aa na ca, .slice b3 m3 d3] 27)) := by
    have hZw : w.heap.size ≤ Z := by rw [HZ.out]; omega
    exact base_box (((((K3.base HK3.out).setCell (p := ⟨Z, 0, none⟩) hZw _).setCell (p := ⟨Z, 1, none⟩) hZw _).setCell (p := ⟨Z, 2, none⟩) hZw _).setCell (p := ⟨Z, 3, none⟩) hZw _) _
  refine bodyPost_ret (v := .agg #[.int .i64 k2, .int .i64 st, .slice aa na ca, .slice b3 m3 d3]) (by simp [results, Tryd.results55, go_sem, g0, g1, g2, g3]) rfl ⟨_, _, rfl, ⟨_, _, _, rfl⟩, ?_, HBW⟩
  have hZB : Z < w.heap.size + 3 := by rw [HZ.out]; omega
  exact ((((((HBU.out.setLow (a := ⟨Z, 0, none⟩) hZB _).setLow (a := ⟨Z, 1, none⟩) hZB _).setLow (a := ⟨Z, 2, none⟩) hZB _).setLow (a := ⟨Z, 3, none⟩) hZB _).below ((Below.refl _ _).alloc (Nat.le_refl _) _)).mono (by omega))
/-- The accepting states of a relation that is read. -/
theorem acc_of {w : World} {B : Nat} {v va x y z : Value} {r : R} (h : RelAt w B v r) (e : v = .agg #[x, y, va, z]) : Bools w B va r.accept := by
  obtain ⟨va', vn', rfl, ha, -⟩ := h
  injection e with e
  replace e := congrArg Array.toList e
  simp only [List.cons.injEq, and_true] at e
  obtain ⟨-, -, rfl, -⟩ := e
  exact ha
/-- The automaton, as a relation that is read. -/
theorem rel_of {l : L} {k2 : Nat} {φ : Nat → Nat} {w W : World} {B C : Nat} {va vn : Value} (ha : Bools w B va l.acc) (hB : B ≤ w.heap.size) (hb : Below w.heap.size w W) (hbu : Built W C (.slice none 0 0) vn [] (autN k2 l.acc.length (reN l φ))) :
    RelAt W W.heap.size (.agg #[.int .i64 k2, .int .i64 (l.start : Nat), va, vn]) (relOf (reL l k2 φ)) := by
  rw [reL_rel]
  exact ⟨va, vn, rfl, (ha.below hb hB).mono (Nat.le_trans hB hb.size), built_rows hbu _ (Nat.le_refl _)⟩
theorem rereadI (l : L) (hl : l.Ok) (k2 : Nat) (h21 : 1 ≤ k2) (h23 : k2 ≤ 3) (φ : Nat → Nat) (hφ : ∀ c, c < wide k2 → φ c ≤ wide l.k) (v : Value) (w : World) (B : Nat) (h : RelAt w B v (relOf l)) (hB : B ≤ w.heap.size) (hn : l.acc.length ≤ 100000)
    (cf : FuncId) (caps : Array Value) (hcf : ∀ (args : Array Value) (W : World), (callFunc cf args).run Tryd.prog W = .ok (.enter cf args) W)
    (hch : ∀ W', Below w.heap.size w W' → ∀ c, c < wide k2 → Calls Tryd.prog cf (#[lettersV k2 c] ++ caps) W' fun e w' => e = .returned (lettersV l.k (φ c)) ∧ Below W'.heap.size W' w') :
    Calls Tryd.prog 55 #[v, .int .i64 k2, .func (.func cf) #[] caps] w fun e w' => ∃ va vn, e = .returned (.agg #[.int .i64 k2, .int .i64 (l.start : Nat), va, vn]) ∧ RelAt w' w'.heap.size (.agg #[.int .i64 k2, .int .i64 (l.start : Nat), va, vn]) (relOf (reL l k2 φ)) ∧ Below w.heap.size w w' :=
  (rereadB l hl k2 h21 h23 φ hφ v w B h hB hn cf caps hcf hch).mono fun _ _ ⟨va, vn, he, ⟨_, _, _, hv⟩, hbu, hb⟩ => ⟨va, vn, he, rel_of (acc_of h hv) hB hb hbu, hb⟩
end Go.Proofs.YtaimealknkhfbaaDoor.RereadI
