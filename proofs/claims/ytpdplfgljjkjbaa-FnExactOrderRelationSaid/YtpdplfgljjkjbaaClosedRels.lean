
/- What the functions that make known relations hand back, the program's and the model's.
   Conditions: stated at each theorem. -/
import Derived.Test.YtpdplfgljjkjbaaClosedRules
import Derived.Test.YtpdplfgljjkjbaaSuccRule
import Derived.Test.YtpdplfgljjkjbaaClosedImpl
namespace Go.Proofs.Ytpdplfgljjkjbaa.ClosedRels
set_option linter.unusedVariables false
set_option linter.unusedSimpArgs false
set_option maxRecDepth 100000
open Go.RowKit Mem Copy Rel Valid Heap Bld ColMath Columns Numbers ToL TidyAuto TidyRight SpecRight SpecTidyRel ImplRight Automaton Known Sim ResKit Closed ClosedImpl
open ClosedRules SuccRule

/-- The block of a result, not yet written. -/
structure Res0 (w : World) (Rb : Nat) (W : World) : Prop where
  base : Below w.heap.size w W
  res : W.heap[Rb]? = some (.cells #[Value.int .i64 0, .int .i64 0, .slice none 0 0, .slice none 0 0] 27 (0, 0))
  hR : w.heap.size ≤ Rb
theorem Res0.lt {w W : World} {Rb : Nat} (h : Res0 w Rb W) : Rb < W.heap.size := lt_of_block h.res
theorem Res0.step {w W W' : World} {Rb : Nat} (h : Res0 w Rb W) (hb : Below W.heap.size W W') : Res0 w Rb W' :=
  ⟨base_step h.base hb, by rw [hb.block Rb h.lt]; exact h.res, h.hR⟩
theorem Res0.new {w W : World} (h : Below w.heap.size w W) : Res0 w W.heap.size (W.alloc (.cells #[Value.int .i64 0, .int .i64 0, .slice none 0 0, .slice none 0 0] 27)) :=
  ⟨base_box h _, heap_alloc_new _ _, h.size⟩
theorem Res0.alloc {w W : World} {Rb : Nat} (h : Res0 w Rb W) (o : Obj) : Res0 w Rb (W.alloc o) := h.step ((Below.refl _ _).alloc (Nat.le_refl _) _)

set_option maxHeartbeats 8000000 in
theorem implPrefix (w : World) : Calls Try.prog 21 #[] w fun e w' => ∃ va vn, e = .returned (.agg #[.int .i64 2, .int .i64 0, va, vn]) ∧ Built w' w.heap.size va vn (tidyAcc sPrefix) (tidyNext sPrefix) ∧ Below w.heap.size w w' := by
  obtain ⟨W1, hW1⟩ : ∃ W1, W1 = (w.alloc (.cells #[Value.int .i64 0, .int .i64 0, .slice none 0 0, .slice none 0 0] 27)).alloc (.cells #[.bool true, .bool false] 4) := ⟨_, rfl⟩
  have HR := Lib.hid (show Res0 w w.heap.size W1 by rw [hW1]; exact (Res0.new (Below.refl _ _)).alloc _)
  have HL := Lib.hid (show Lst W1 (w.heap.size + 1) 4 (.slice (some ⟨w.heap.size + 1, 0, none⟩) 2 2) ([true, false].map Value.bool) by
    rw [hW1]
    have := Lst.lit (w.alloc (.cells #[Value.int .i64 0, .int .i64 0, .slice none 0 0, .slice none 0 0] 27)) (w.heap.size + 1) 4 #[.bool true, .bool false] (by simp) (by decide)
    rw [size_alloc'] at this
    exact this)
  have HAU := Lib.hid (automaton 2 (by omega) (by omega) (.slice (some ⟨w.heap.size + 1, 0, none⟩) 2 2) [true, false] W1 W1.heap.size (lst_bools HL.out _ (Nat.le_refl _)) (Nat.le_refl _) (by decide) 51 (fun _ _ => rfl) #[] (tab tPrefix) (fun W hb s c hs hc => prefixRule s c hs hc W))
  go_enter Try.func21, Try.ntmps21
  go_wp2_with fail
  rw [← hW1]
  clear hW1
  refine HAU.out.mono ?_
  rintro e w2 ⟨vn, rfl, hbu, hb⟩
  have HR2 := Lib.hid (HR.out.step hb)
  have HB2 := Lib.hid (show Built w2 (w.heap.size + 1) (.slice (some ⟨w.heap.size + 1, 0, none⟩) 2 2) vn [true, false] (autN 2 2 (tab tPrefix)) from built_with (hbu.mono HR.out.lt) (HL.out.below hb))
  have HKN := Lib.hid (knownI (.agg #[.int .i64 2, .int .i64 0, .slice (some ⟨w.heap.size + 1, 0, none⟩) 2 2, vn]) rPrefix rPrefix_ok w2 w2.heap.size (HB2.out.reads _ (Nat.le_refl _) 2 0) (Nat.le_refl _))
  rw [tidyPrefix.1, tidyPrefix.2.1, tidyPrefix.2.2.1] at HKN
  obtain ⟨items2, -, hnx2, -⟩ := hbu.rows
  obtain ⟨a2, n2, c2, rfl, -⟩ := hnx2.shape'
  clear hbu hb HAU hnx2
  go_wp2_with fail
  refine HKN.out.mono ?_
  rintro e w3 ⟨va3, vn3, rfl, hbu, hb⟩
  have HR3 := Lib.hid (HR2.out.step hb)
  have HB3 := Lib.hid (show Built w3 (w.heap.size + 1) va3 vn3 (tidyAcc sPrefix) (tidyNext sPrefix) from hbu.mono HR2.out.lt)
  clear hbu hb HKN
  have hres := HR3.out.res
  obtain ⟨a7, n7, c7, rfl, -⟩ := HB3.out.acc.shape'
  obtain ⟨items7, -, hnx7, -⟩ := HB3.out.rows
  obtain ⟨b7, m7, d7, rfl, -⟩ := hnx7.shape'
  have r0 := cells_get hres 0
  have r1 := cells_get hres 1
  have r2 := cells_get hres 2
  have r3 := cells_get hres 3
  have f0 := cells_free hres 0
  have f1 := cells_free hres 1
  have f2 := cells_free hres 2
  have f3 := cells_free hres 3
  have hlS := HR3.out.lt
  have p0 := cells_set hres 0 (.int .i64 2)
  have p1 := cells_set p0 1 (.int .i64 0)
  have p2 := cells_set p1 2 (.slice a7 n7 c7)
  have p3 := cells_set p2 3 (.slice b7 m7 d7)
  simp at r0 r1 r2 r3 p3
  have g0 := cells_get p3 0
  have g1 := cells_get p3 1
  have g2 := cells_get p3 2
  have g3 := cells_get p3 3
  simp at g0 g1 g2 g3
  have HG := Lib.hid (And.intro g0 (And.intro g1 (And.intro g2 g3)))
  clear p0 p1 p2 p3 g0 g1 g2 g3 hres hnx7
  go_wp2_with fail
  obtain ⟨g0, g1, g2, g3⟩ := HG.out
  refine bodyPost_ret (v := .agg #[.int .i64 2, .int .i64 0, .slice a7 n7 c7, .slice b7 m7 d7]) (by simp [results, Try.results21, go_sem, g0, g1, g2, g3]) rfl ⟨.slice a7 n7 c7, .slice b7 m7 d7, rfl, ?_, ?_⟩
  · exact (((((HB3.out.setLow (a := ⟨w.heap.size, 0, none⟩) (Nat.lt_succ_self _) _).setLow (a := ⟨w.heap.size, 1, none⟩) (Nat.lt_succ_self _) _).setLow (a := ⟨w.heap.size, 2, none⟩) (Nat.lt_succ_self _) _).setLow (a := ⟨w.heap.size, 3, none⟩) (Nat.lt_succ_self _) _).mono (Nat.le_succ_of_le HR3.out.hR))
  · exact ((((HR3.out.base.setCell (p := ⟨w.heap.size, 0, none⟩) HR3.out.hR _).setCell (p := ⟨w.heap.size, 1, none⟩) HR3.out.hR _).setCell (p := ⟨w.heap.size, 2, none⟩) HR3.out.hR _).setCell (p := ⟨w.heap.size, 3, none⟩) HR3.out.hR _)

set_option maxHeartbeats 8000000 in
theorem implOrder (w : World) : Calls Try.prog 23 #[] w fun e w' => ∃ va vn, e = .returned (.agg #[.int .i64 2, .int .i64 0, va, vn]) ∧ Built w' w.heap.size va vn (tidyAcc sOrder) (tidyNext sOrder) ∧ Below w.heap.size w w' := by
  obtain ⟨W1, hW1⟩ : ∃ W1, W1 = (w.alloc (.cells #[Value.int .i64 0, .int .i64 0, .slice none 0 0, .slice none 0 0] 27)).alloc (.cells #[.bool false, .bool true, .bool false, .bool true, .bool false] 4) := ⟨_, rfl⟩
  have HR := Lib.hid (show Res0 w w.heap.size W1 by rw [hW1]; exact (Res0.new (Below.refl _ _)).alloc _)
  have HL := Lib.hid (show Lst W1 (w.heap.size + 1) 4 (.slice (some ⟨w.heap.size + 1, 0, none⟩) 5 5) ([false, true, false, true, false].map Value.bool) by
    rw [hW1]
    have := Lst.lit (w.alloc (.cells #[Value.int .i64 0, .int .i64 0, .slice none 0 0, .slice none 0 0] 27)) (w.heap.size + 1) 4 #[.bool false, .bool true, .bool false, .bool true, .bool false] (by simp) (by decide)
    rw [size_alloc'] at this
    exact this)
  have HAU := Lib.hid (automaton 2 (by omega) (by omega) (.slice (some ⟨w.heap.size + 1, 0, none⟩) 5 5) [false, true, false, true, false] W1 W1.heap.size (lst_bools HL.out _ (Nat.le_refl _)) (Nat.le_refl _) (by decide) 52 (fun _ _ => rfl) #[] (tab tOrder) (fun W hb s c hs hc => orderRule s c hs hc W))
  go_enter Try.func23, Try.ntmps23
  go_wp2_with fail
  rw [← hW1]
  clear hW1
  refine HAU.out.mono ?_
  rintro e w2 ⟨vn, rfl, hbu, hb⟩
  have HR2 := Lib.hid (HR.out.step hb)
  have HB2 := Lib.hid (show Built w2 (w.heap.size + 1) (.slice (some ⟨w.heap.size + 1, 0, none⟩) 5 5) vn [false, true, false, true, false] (autN 2 5 (tab tOrder)) from built_with (hbu.mono HR.out.lt) (HL.out.below hb))
  have HKN := Lib.hid (knownI (.agg #[.int .i64 2, .int .i64 0, .slice (some ⟨w.heap.size + 1, 0, none⟩) 5 5, vn]) rOrder rOrder_ok w2 w2.heap.size (HB2.out.reads _ (Nat.le_refl _) 2 0) (Nat.le_refl _))
  rw [tidyOrder.1, tidyOrder.2.1, tidyOrder.2.2.1] at HKN
  obtain ⟨items2, -, hnx2, -⟩ := hbu.rows
  obtain ⟨a2, n2, c2, rfl, -⟩ := hnx2.shape'
  clear hbu hb HAU hnx2
  go_wp2_with fail
  refine HKN.out.mono ?_
  rintro e w3 ⟨va3, vn3, rfl, hbu, hb⟩
  have HR3 := Lib.hid (HR2.out.step hb)
  have HB3 := Lib.hid (show Built w3 (w.heap.size + 1) va3 vn3 (tidyAcc sOrder) (tidyNext sOrder) from hbu.mono HR2.out.lt)
  clear hbu hb HKN
  have hres := HR3.out.res
  obtain ⟨a7, n7, c7, rfl, -⟩ := HB3.out.acc.shape'
  obtain ⟨items7, -, hnx7, -⟩ := HB3.out.rows
  obtain ⟨b7, m7, d7, rfl, -⟩ := hnx7.shape'
  have r0 := cells_get hres 0
  have r1 := cells_get hres 1
  have r2 := cells_get hres 2
  have r3 := cells_get hres 3
  have f0 := cells_free hres 0
  have f1 := cells_free hres 1
  have f2 := cells_free hres 2
  have f3 := cells_free hres 3
  have hlS := HR3.out.lt
  have p0 := cells_set hres 0 (.int .i64 2)
  have p1 := cells_set p0 1 (.int .i64 0)
  have p2 := cells_set p1 2 (.slice a7 n7 c7)
  have p3 := cells_set p2 3 (.slice b7 m7 d7)
  simp at r0 r1 r2 r3 p3
  have g0 := cells_get p3 0
  have g1 := cells_get p3 1
  have g2 := cells_get p3 2
  have g3 := cells_get p3 3
  simp at g0 g1 g2 g3
  have HG := Lib.hid (And.intro g0 (And.intro g1 (And.intro g2 g3)))
  clear p0 p1 p2 p3 g0 g1 g2 g3 hres hnx7
  go_wp2_with fail
  obtain ⟨g0, g1, g2, g3⟩ := HG.out
  refine bodyPost_ret (v := .agg #[.int .i64 2, .int .i64 0, .slice a7 n7 c7, .slice b7 m7 d7]) (by simp [results, Try.results23, go_sem, g0, g1, g2, g3]) rfl ⟨.slice a7 n7 c7, .slice b7 m7 d7, rfl, ?_, ?_⟩
  · exact (((((HB3.out.setLow (a := ⟨w.heap.size, 0, none⟩) (Nat.lt_succ_self _) _).setLow (a := ⟨w.heap.size, 1, none⟩) (Nat.lt_succ_self _) _).setLow (a := ⟨w.heap.size, 2, none⟩) (Nat.lt_succ_self _) _).setLow (a := ⟨w.heap.size, 3, none⟩) (Nat.lt_succ_self _) _).mono (Nat.le_succ_of_le HR3.out.hR))
  · exact ((((HR3.out.base.setCell (p := ⟨w.heap.size, 0, none⟩) HR3.out.hR _).setCell (p := ⟨w.heap.size, 1, none⟩) HR3.out.hR _).setCell (p := ⟨w.heap.size, 2, none⟩) HR3.out.hR _).setCell (p := ⟨w.heap.size, 3, none⟩) HR3.out.hR _)

set_option maxHeartbeats 8000000 in
theorem implSucc (w : World) : Calls Try.prog 25 #[] w fun e w' => ∃ va vn, e = .returned (.agg #[.int .i64 2, .int .i64 0, va, vn]) ∧ Built w' w.heap.size va vn (tidyAcc sSucc) (tidyNext sSucc) ∧ Below w.heap.size w w' := by
  obtain ⟨W1, hW1⟩ : ∃ W1, W1 = (w.alloc (.cells #[Value.int .i64 0, .int .i64 0, .slice none 0 0, .slice none 0 0] 27)).alloc (.cells #[.bool false, .bool false, .bool true, .bool false, .bool true, .bool false] 4) := ⟨_, rfl⟩
  have HR := Lib.hid (show Res0 w w.heap.size W1 by rw [hW1]; exact (Res0.new (Below.refl _ _)).alloc _)
  have HL := Lib.hid (show Lst W1 (w.heap.size + 1) 4 (.slice (some ⟨w.heap.size + 1, 0, none⟩) 6 6) ([false, false, true, false, true, false].map Value.bool) by
    rw [hW1]
    have := Lst.lit (w.alloc (.cells #[Value.int .i64 0, .int .i64 0, .slice none 0 0, .slice none 0 0] 27)) (w.heap.size + 1) 4 #[.bool false, .bool false, .bool true, .bool false, .bool true, .bool false] (by simp) (by decide)
    rw [size_alloc'] at this
    exact this)
  have HAU := Lib.hid (automaton 2 (by omega) (by omega) (.slice (some ⟨w.heap.size + 1, 0, none⟩) 6 6) [false, false, true, false, true, false] W1 W1.heap.size (lst_bools HL.out _ (Nat.le_refl _)) (Nat.le_refl _) (by decide) 53 (fun _ _ => rfl) #[] (tab tSucc) (fun W hb s c hs hc => succRule s c hs hc W))
  go_enter Try.func25, Try.ntmps25
  go_wp2_with fail
  rw [← hW1]
  clear hW1
  refine HAU.out.mono ?_
  rintro e w2 ⟨vn, rfl, hbu, hb⟩
  have HR2 := Lib.hid (HR.out.step hb)
  have HB2 := Lib.hid (show Built w2 (w.heap.size + 1) (.slice (some ⟨w.heap.size + 1, 0, none⟩) 6 6) vn [false, false, true, false, true, false] (autN 2 6 (tab tSucc)) from built_with (hbu.mono HR.out.lt) (HL.out.below hb))
  have HKN := Lib.hid (knownI (.agg #[.int .i64 2, .int .i64 0, .slice (some ⟨w.heap.size + 1, 0, none⟩) 6 6, vn]) rSucc rSucc_ok w2 w2.heap.size (HB2.out.reads _ (Nat.le_refl _) 2 0) (Nat.le_refl _))
  rw [tidySucc.1, tidySucc.2.1, tidySucc.2.2.1] at HKN
  obtain ⟨items2, -, hnx2, -⟩ := hbu.rows
  obtain ⟨a2, n2, c2, rfl, -⟩ := hnx2.shape'
  clear hbu hb HAU hnx2
  go_wp2_with fail
  refine HKN.out.mono ?_
  rintro e w3 ⟨va3, vn3, rfl, hbu, hb⟩
  have HR3 := Lib.hid (HR2.out.step hb)
  have HB3 := Lib.hid (show Built w3 (w.heap.size + 1) va3 vn3 (tidyAcc sSucc) (tidyNext sSucc) from hbu.mono HR2.out.lt)
  clear hbu hb HKN
  have hres := HR3.out.res
  obtain ⟨a7, n7, c7, rfl, -⟩ := HB3.out.acc.shape'
  obtain ⟨items7, -, hnx7, -⟩ := HB3.out.rows
  obtain ⟨b7, m7, d7, rfl, -⟩ := hnx7.shape'
  have r0 := cells_get hres 0
  have r1 := cells_get hres 1
  have r2 := cells_get hres 2
  have r3 := cells_get hres 3
  have f0 := cells_free hres 0
  have f1 := cells_free hres 1
  have f2 := cells_free hres 2
  have f3 := cells_free hres 3
  have hlS := HR3.out.lt
  have p0 := cells_set hres 0 (.int .i64 2)
  have p1 := cells_set p0 1 (.int .i64 0)
  have p2 := cells_set p1 2 (.slice a7 n7 c7)
  have p3 := cells_set p2 3 (.slice b7 m7 d7)
  simp at r0 r1 r2 r3 p3
  have g0 := cells_get p3 0
  have g1 := cells_get p3 1
  have g2 := cells_get p3 2
  have g3 := cells_get p3 3
  simp at g0 g1 g2 g3
  have HG := Lib.hid (And.intro g0 (And.intro g1 (And.intro g2 g3)))
  clear p0 p1 p2 p3 g0 g1 g2 g3 hres hnx7
  go_wp2_with fail
  obtain ⟨g0, g1, g2, g3⟩ := HG.out
  refine bodyPost_ret (v := .agg #[.int .i64 2, .int .i64 0, .slice a7 n7 c7, .slice b7 m7 d7]) (by simp [results, Try.results25, go_sem, g0, g1, g2, g3]) rfl ⟨.slice a7 n7 c7, .slice b7 m7 d7, rfl, ?_, ?_⟩
  · exact (((((HB3.out.setLow (a := ⟨w.heap.size, 0, none⟩) (Nat.lt_succ_self _) _).setLow (a := ⟨w.heap.size, 1, none⟩) (Nat.lt_succ_self _) _).setLow (a := ⟨w.heap.size, 2, none⟩) (Nat.lt_succ_self _) _).setLow (a := ⟨w.heap.size, 3, none⟩) (Nat.lt_succ_self _) _).mono (Nat.le_succ_of_le HR3.out.hR))
  · exact ((((HR3.out.base.setCell (p := ⟨w.heap.size, 0, none⟩) HR3.out.hR _).setCell (p := ⟨w.heap.size, 1, none⟩) HR3.out.hR _).setCell (p := ⟨w.heap.size, 2, none⟩) HR3.out.hR _).setCell (p := ⟨w.heap.size, 3, none⟩) HR3.out.hR _)

set_option maxHeartbeats 8000000 in
theorem equalOnI (w : World) : Calls Try.prog 49 #[.int .i64 2, .int .i64 0, .int .i64 1] w fun e w' => ∃ va vn, e = .returned (.agg #[.int .i64 2, .int .i64 0, va, vn]) ∧ Built w' w.heap.size va vn [true, false] (autN 2 2 (tab tEqual)) ∧ Below w.heap.size w w' := by
  obtain ⟨W1, hW1⟩ : ∃ W1, W1 = ((((w.alloc (.cells #[.int .i64 0] 2)).alloc (.cells #[.int .i64 1] 2)).alloc (.cells #[Value.int .i64 0, .int .i64 0, .slice none 0 0, .slice none 0 0] 27)).alloc (.cells #[.bool true, .bool false] 4)) := ⟨_, rfl⟩
  have HR := Lib.hid (show Res0 w (w.heap.size + 1 + 1) W1 by
    rw [hW1]
    have h1 := Res0.new (w := w) (base_box (base_box (Below.refl _ w) (.cells #[.int .i64 0] 2)) (.cells #[.int .i64 1] 2))
    rw [size_alloc', size_alloc'] at h1
    exact h1.alloc _)
  have HC4 := Lib.hid (show W1.cell? ⟨w.heap.size, 0, none⟩ = some (.int .i64 0) from by
    rw [hW1]
    refine (Below.cell (B := (w.alloc (.cells #[.int .i64 0] 2)).heap.size) (w := w.alloc (.cells #[.int .i64 0] 2)) ?_ (p := ⟨w.heap.size, 0, none⟩) (by simp)).trans (World.cell?_alloc_mark ..)
    repeat (first | exact Below.refl _ _ | apply base_box))
  have HC5 := Lib.hid (show W1.cell? ⟨w.heap.size + 1, 0, none⟩ = some (.int .i64 1) from by
    have h0 : (w.alloc (.cells #[.int .i64 0] 2)).heap.size = w.heap.size + 1 := size_alloc' _ _
    rw [hW1, ← h0]
    refine (Below.cell (B := ((w.alloc (.cells #[.int .i64 0] 2)).alloc (.cells #[.int .i64 1] 2)).heap.size) (w := (w.alloc (.cells #[.int .i64 0] 2)).alloc (.cells #[.int .i64 1] 2)) ?_ (p := ⟨(w.alloc (.cells #[.int .i64 0] 2)).heap.size, 0, none⟩) (by simp)).trans (World.cell?_alloc_mark ..)
    repeat (first | exact Below.refl _ _ | apply base_box))
  have HSZ := Lib.hid (show w.heap.size + 1 + 1 + 1 ≤ W1.heap.size by rw [hW1]; simp)
  have HL := Lib.hid (show Lst W1 (w.heap.size + 1 + 1 + 1) 4 (.slice (some ⟨w.heap.size + 1 + 1 + 1, 0, none⟩) 2 2) ([true, false].map Value.bool) by
    rw [hW1]
    have := Lst.lit (((w.alloc (.cells #[.int .i64 0] 2)).alloc (.cells #[.int .i64 1] 2)).alloc (.cells #[Value.int .i64 0, .int .i64 0, .slice none 0 0, .slice none 0 0] 27)) (w.heap.size + 1 + 1 + 1) 4 #[.bool true, .bool false] (by simp) (by decide)
    rw [size_alloc', size_alloc', size_alloc'] at this
    exact this)
  have HAU := Lib.hid (automaton 2 (by omega) (by omega) (.slice (some ⟨w.heap.size + 1 + 1 + 1, 0, none⟩) 2 2) [true, false] W1 W1.heap.size (lst_bools HL.out _ (Nat.le_refl _)) (Nat.le_refl _) (by decide) 71 (fun _ _ => rfl) #[.pointer (some ⟨w.heap.size, 0, none⟩), .pointer (some ⟨w.heap.size + 1, 0, none⟩)] (tab tEqual) (fun W hb s c hs hc => equalRule s c hs hc W w.heap.size (w.heap.size + 1) ((hb.cell (p := ⟨w.heap.size, 0, none⟩) (by have := HSZ.out; show w.heap.size < W1.heap.size; omega)).trans HC4.out) ((hb.cell (p := ⟨w.heap.size + 1, 0, none⟩) (by have := HSZ.out; show w.heap.size + 1 < W1.heap.size; omega)).trans HC5.out) (by have := HSZ.out; have := hb.size; omega) (by have := HSZ.out; have := hb.size; omega)))
  have hmf : ∀ (fn : Fn) (first cap : Array Value) (w : World), (Instr.makeFunc fn first cap).run Try.prog w = .ok (.func fn first cap) w := fun _ _ _ _ => rfl
  go_enter Try.func49, Try.ntmps49
  go_wp2_with fail
  rw [← hW1]
  clear hW1
  refine HAU.out.mono ?_
  rintro e w2 ⟨vn, rfl, hbu, hb⟩
  have HR2 := Lib.hid (HR.out.step hb)
  have HB2 := Lib.hid (show Built w2 (w.heap.size + 1 + 1 + 1) (.slice (some ⟨w.heap.size + 1 + 1 + 1, 0, none⟩) 2 2) vn [true, false] (autN 2 2 (tab tEqual)) from built_with (hbu.mono HSZ.out) (HL.out.below hb))
  obtain ⟨items2, -, hnx2, -⟩ := hbu.rows
  obtain ⟨a2, n2, c2, rfl, -⟩ := hnx2.shape'
  clear hbu hb HAU hnx2
  have hres := HR2.out.res
  have r0 := cells_get hres 0
  have r1 := cells_get hres 1
  have r2 := cells_get hres 2
  have r3 := cells_get hres 3
  have f0 := cells_free hres 0
  have f1 := cells_free hres 1
  have f2 := cells_free hres 2
  have f3 := cells_free hres 3
  have hlS := HR2.out.lt
  have p0 := cells_set hres 0 (.int .i64 2)
  have p1 := cells_set p0 1 (.int .i64 0)
  have p2 := cells_set p1 2 (.slice (some ⟨w.heap.size + 1 + 1 + 1, 0, none⟩) 2 2)
  have p3 := cells_set p2 3 (.slice a2 n2 c2)
  simp at r0 r1 r2 r3 p3
  have g0 := cells_get p3 0
  have g1 := cells_get p3 1
  have g2 := cells_get p3 2
  have g3 := cells_get p3 3
  simp at g0 g1 g2 g3
  have HG := Lib.hid (And.intro g0 (And.intro g1 (And.intro g2 g3)))
  clear p0 p1 p2 p3 g0 g1 g2 g3 hres
  go_wp2_with fail
  obtain ⟨g0, g1, g2, g3⟩ := HG.out
  refine bodyPost_ret (v := .agg #[.int .i64 2, .int .i64 0, .slice (some ⟨w.heap.size + 1 + 1 + 1, 0, none⟩) 2 2, .slice a2 n2 c2]) (by simp [results, Try.results49, go_sem, g0, g1, g2, g3]) rfl ⟨.slice (some ⟨w.heap.size + 1 + 1 + 1, 0, none⟩) 2 2, .slice a2 n2 c2, rfl, ?_, ?_⟩
  · exact (((((HB2.out.setLow (a := ⟨w.heap.size + 1 + 1, 0, none⟩) (Nat.lt_succ_self _) _).setLow (a := ⟨w.heap.size + 1 + 1, 1, none⟩) (Nat.lt_succ_self _) _).setLow (a := ⟨w.heap.size + 1 + 1, 2, none⟩) (Nat.lt_succ_self _) _).setLow (a := ⟨w.heap.size + 1 + 1, 3, none⟩) (Nat.lt_succ_self _) _).mono (Nat.le_succ_of_le HR2.out.hR))
  · exact ((((HR2.out.base.setCell (p := ⟨w.heap.size + 1 + 1, 0, none⟩) HR2.out.hR _).setCell (p := ⟨w.heap.size + 1 + 1, 1, none⟩) HR2.out.hR _).setCell (p := ⟨w.heap.size + 1 + 1, 2, none⟩) HR2.out.hR _).setCell (p := ⟨w.heap.size + 1 + 1, 3, none⟩) HR2.out.hR _)

set_option maxHeartbeats 8000000 in
theorem byLengthsI (aa : Option Addr) (ca : Nat) (acc : List Bool) (w : World) (B : Nat) (ha : Bools w B (.slice aa 3 ca) acc) (hB : B ≤ w.heap.size) (h3 : acc.length = 3) : Calls Try.prog 55 #[.int .i64 2, .int .i64 0, .int .i64 1, .slice aa 3 ca] w fun e w' => ∃ vn, e = .returned (.agg #[.int .i64 2, .int .i64 0, .slice aa 3 ca, vn]) ∧ Built w' w.heap.size (.slice none 0 0) vn [] (autN 2 3 (tab tLen1)) ∧ Below w.heap.size w w' := by
  obtain ⟨W1, hW1⟩ : ∃ W1, W1 = (((w.alloc (.cells #[.int .i64 0] 2)).alloc (.cells #[.int .i64 1] 2)).alloc (.cells #[Value.int .i64 0, .int .i64 0, .slice none 0 0, .slice none 0 0] 27)) := ⟨_, rfl⟩
  have HR := Lib.hid (show Res0 w (w.heap.size + 1 + 1) W1 by
    rw [hW1]
    have h1 := Res0.new (w := w) (base_box (base_box (Below.refl _ w) (.cells #[.int .i64 0] 2)) (.cells #[.int .i64 1] 2))
    rw [size_alloc', size_alloc'] at h1
    exact h1)
  have HC4 := Lib.hid (show W1.cell? ⟨w.heap.size, 0, none⟩ = some (.int .i64 0) from by
    rw [hW1]
    refine (Below.cell (B := (w.alloc (.cells #[.int .i64 0] 2)).heap.size) (w := w.alloc (.cells #[.int .i64 0] 2)) ?_ (p := ⟨w.heap.size, 0, none⟩) (by simp)).trans (World.cell?_alloc_mark ..)
    repeat (first | exact Below.refl _ _ | apply base_box))
  have HC5 := Lib.hid (show W1.cell? ⟨w.heap.size + 1, 0, none⟩ = some (.int .i64 1) from by
    have h0 : (w.alloc (.cells #[.int .i64 0] 2)).heap.size = w.heap.size + 1 := size_alloc' _ _
    rw [hW1, ← h0]
    refine (Below.cell (B := ((w.alloc (.cells #[.int .i64 0] 2)).alloc (.cells #[.int .i64 1] 2)).heap.size) (w := (w.alloc (.cells #[.int .i64 0] 2)).alloc (.cells #[.int .i64 1] 2)) ?_ (p := ⟨(w.alloc (.cells #[.int .i64 0] 2)).heap.size, 0, none⟩) (by simp)).trans (World.cell?_alloc_mark ..)
    repeat (first | exact Below.refl _ _ | apply base_box))
  have HSZ := Lib.hid (show w.heap.size + 1 + 1 + 1 ≤ W1.heap.size by rw [hW1]; simp)
  have HAU := Lib.hid (automaton 2 (by omega) (by omega) (.slice aa 3 ca) acc W1 B (ha.below HR.out.base hB) (Nat.le_trans hB HR.out.base.size) (by omega) 73 (fun _ _ => rfl) #[.pointer (some ⟨w.heap.size, 0, none⟩), .pointer (some ⟨w.heap.size + 1, 0, none⟩)] (tab tLen1) (by rw [h3]; exact (fun W hb s c hs hc => lenRule s c hs hc W w.heap.size (w.heap.size + 1) ((hb.cell (p := ⟨w.heap.size, 0, none⟩) (by have := HSZ.out; show w.heap.size < W1.heap.size; omega)).trans HC4.out) ((hb.cell (p := ⟨w.heap.size + 1, 0, none⟩) (by have := HSZ.out; show w.heap.size + 1 < W1.heap.size; omega)).trans HC5.out) (by have := HSZ.out; have := hb.size; omega) (by have := HSZ.out; have := hb.size; omega))))
  rw [h3] at HAU
  have hmf : ∀ (fn : Fn) (first cap : Array Value) (w : World), (Instr.makeFunc fn first cap).run Try.prog w = .ok (.func fn first cap) w := fun _ _ _ _ => rfl
  clear ha h3
  go_enter Try.func55, Try.ntmps55
  go_wp2_with fail
  rw [← hW1]
  clear hW1
  refine HAU.out.mono ?_
  rintro e w2 ⟨vn, rfl, hbu, hb⟩
  have HR2 := Lib.hid (HR.out.step hb)
  have HB2 := Lib.hid (show Built w2 (w.heap.size + 1 + 1 + 1) (.slice none 0 0) vn [] (autN 2 3 (tab tLen1)) from hbu.mono HSZ.out)
  obtain ⟨items2, -, hnx2, -⟩ := hbu.rows
  obtain ⟨a2, n2, c2, rfl, -⟩ := hnx2.shape'
  clear hbu hb HAU hnx2
  have hres := HR2.out.res
  have r0 := cells_get hres 0
  have r1 := cells_get hres 1
  have r2 := cells_get hres 2
  have r3 := cells_get hres 3
  have f0 := cells_free hres 0
  have f1 := cells_free hres 1
  have f2 := cells_free hres 2
  have f3 := cells_free hres 3
  have hlS := HR2.out.lt
  have p0 := cells_set hres 0 (.int .i64 2)
  have p1 := cells_set p0 1 (.int .i64 0)
  have p2 := cells_set p1 2 (.slice aa 3 ca)
  have p3 := cells_set p2 3 (.slice a2 n2 c2)
  simp at r0 r1 r2 r3 p3
  have g0 := cells_get p3 0
  have g1 := cells_get p3 1
  have g2 := cells_get p3 2
  have g3 := cells_get p3 3
  simp at g0 g1 g2 g3
  have HG := Lib.hid (And.intro g0 (And.intro g1 (And.intro g2 g3)))
  clear p0 p1 p2 p3 g0 g1 g2 g3 hres
  go_wp2_with fail
  obtain ⟨g0, g1, g2, g3⟩ := HG.out
  refine bodyPost_ret (v := .agg #[.int .i64 2, .int .i64 0, .slice aa 3 ca, .slice a2 n2 c2]) (by simp [results, Try.results55, go_sem, g0, g1, g2, g3]) rfl ⟨.slice a2 n2 c2, rfl, ?_, ?_⟩
  · exact (((((HB2.out.setLow (a := ⟨w.heap.size + 1 + 1, 0, none⟩) (Nat.lt_succ_self _) _).setLow (a := ⟨w.heap.size + 1 + 1, 1, none⟩) (Nat.lt_succ_self _) _).setLow (a := ⟨w.heap.size + 1 + 1, 2, none⟩) (Nat.lt_succ_self _) _).setLow (a := ⟨w.heap.size + 1 + 1, 3, none⟩) (Nat.lt_succ_self _) _).mono (Nat.le_succ_of_le HR2.out.hR))
  · exact ((((HR2.out.base.setCell (p := ⟨w.heap.size + 1 + 1, 0, none⟩) HR2.out.hR _).setCell (p := ⟨w.heap.size + 1 + 1, 1, none⟩) HR2.out.hR _).setCell (p := ⟨w.heap.size + 1 + 1, 2, none⟩) HR2.out.hR _).setCell (p := ⟨w.heap.size + 1 + 1, 3, none⟩) HR2.out.hR _)

set_option maxHeartbeats 8000000 in
theorem implEqual (w : World) : Calls Try.prog 19 #[] w fun e w' => ∃ va vn, e = .returned (.agg #[.int .i64 2, .int .i64 0, va, vn]) ∧ Built w' w.heap.size va vn (tidyAcc sEqual) (tidyNext sEqual) ∧ Below w.heap.size w w' := by
  have HR := Lib.hid (Res0.new (Below.refl _ w))
  have HE := Lib.hid (equalOnI (w.alloc (.cells #[Value.int .i64 0, .int .i64 0, .slice none 0 0, .slice none 0 0] 27)))
  go_enter Try.func19, Try.ntmps19
  go_wp2_with fail
  refine HE.out.mono ?_
  rintro e w2 ⟨va, vn, rfl, hbu, hb⟩
  have HR2 := Lib.hid (HR.out.step hb)
  have HKN := Lib.hid (knownI (.agg #[.int .i64 2, .int .i64 0, va, vn]) rEqual rEqual_ok w2 w2.heap.size (hbu.reads _ (Nat.le_refl _) 2 0) (Nat.le_refl _))
  rw [tidyEqual.1, tidyEqual.2.1, tidyEqual.2.2.1] at HKN
  obtain ⟨a1, n1, c1, rfl, -⟩ := hbu.acc.shape'
  obtain ⟨items2, -, hnx2, -⟩ := hbu.rows
  obtain ⟨a2, n2, c2, rfl, -⟩ := hnx2.shape'
  clear hbu hb HE hnx2
  go_wp2_with fail
  refine HKN.out.mono ?_
  rintro e w3 ⟨va3, vn3, rfl, hbu, hb⟩
  have HR3 := Lib.hid (HR2.out.step hb)
  have HB3 := Lib.hid (show Built w3 (w.heap.size + 1) va3 vn3 (tidyAcc sEqual) (tidyNext sEqual) from hbu.mono HR2.out.lt)
  clear hbu hb HKN
  have hres := HR3.out.res
  obtain ⟨a7, n7, c7, rfl, -⟩ := HB3.out.acc.shape'
  obtain ⟨items7, -, hnx7, -⟩ := HB3.out.rows
  obtain ⟨b7, m7, d7, rfl, -⟩ := hnx7.shape'
  have r0 := cells_get hres 0
  have r1 := cells_get hres 1
  have r2 := cells_get hres 2
  have r3 := cells_get hres 3
  have f0 := cells_free hres 0
  have f1 := cells_free hres 1
  have f2 := cells_free hres 2
  have f3 := cells_free hres 3
  have hlS := HR3.out.lt
  have p0 := cells_set hres 0 (.int .i64 2)
  have p1 := cells_set p0 1 (.int .i64 0)
  have p2 := cells_set p1 2 (.slice a7 n7 c7)
  have p3 := cells_set p2 3 (.slice b7 m7 d7)
  simp at r0 r1 r2 r3 p3
  have g0 := cells_get p3 0
  have g1 := cells_get p3 1
  have g2 := cells_get p3 2
  have g3 := cells_get p3 3
  simp at g0 g1 g2 g3
  have HG := Lib.hid (And.intro g0 (And.intro g1 (And.intro g2 g3)))
  clear p0 p1 p2 p3 g0 g1 g2 g3 hres hnx7
  go_wp2_with fail
  obtain ⟨g0, g1, g2, g3⟩ := HG.out
  refine bodyPost_ret (v := .agg #[.int .i64 2, .int .i64 0, .slice a7 n7 c7, .slice b7 m7 d7]) (by simp [results, Try.results19, go_sem, g0, g1, g2, g3]) rfl ⟨.slice a7 n7 c7, .slice b7 m7 d7, rfl, ?_, ?_⟩
  · exact (((((HB3.out.setLow (a := ⟨w.heap.size, 0, none⟩) (Nat.lt_succ_self _) _).setLow (a := ⟨w.heap.size, 1, none⟩) (Nat.lt_succ_self _) _).setLow (a := ⟨w.heap.size, 2, none⟩) (Nat.lt_succ_self _) _).setLow (a := ⟨w.heap.size, 3, none⟩) (Nat.lt_succ_self _) _).mono (Nat.le_succ_of_le HR3.out.hR))
  · exact ((((HR3.out.base.setCell (p := ⟨w.heap.size, 0, none⟩) HR3.out.hR _).setCell (p := ⟨w.heap.size, 1, none⟩) HR3.out.hR _).setCell (p := ⟨w.heap.size, 2, none⟩) HR3.out.hR _).setCell (p := ⟨w.heap.size, 3, none⟩) HR3.out.hR _)

set_option maxHeartbeats 8000000 in
theorem implLen1 (w : World) : Calls Try.prog 27 #[.int .i64 1] w fun e w' => ∃ va vn, e = .returned (.tuple #[.agg #[.int .i64 2, .int .i64 0, va, vn], .int .i64 0]) ∧ Built w' w.heap.size va vn (tidyAcc sLen1) (tidyNext sLen1) ∧ Below w.heap.size w w' := by
  obtain ⟨W1, hW1⟩ : ∃ W1, W1 = (w.alloc (.cells #[Value.int .i64 0, .int .i64 0, .slice none 0 0, .slice none 0 0] 27)).alloc (.cells #[.bool true, .bool false, .bool false] 4) := ⟨_, rfl⟩
  have HR := Lib.hid (show Res0 w w.heap.size W1 by rw [hW1]; exact (Res0.new (Below.refl _ _)).alloc _)
  have HL := Lib.hid (show Lst W1 (w.heap.size + 1) 4 (.slice (some ⟨w.heap.size + 1, 0, none⟩) 3 3) ([true, false, false].map Value.bool) by
    rw [hW1]
    have := Lst.lit (w.alloc (.cells #[Value.int .i64 0, .int .i64 0, .slice none 0 0, .slice none 0 0] 27)) (w.heap.size + 1) 4 #[.bool true, .bool false, .bool false] (by simp) (by decide)
    rw [size_alloc'] at this
    exact this)
  have HE := Lib.hid (byLengthsI (some ⟨w.heap.size + 1, 0, none⟩) 3 [true, false, false] W1 W1.heap.size (lst_bools HL.out _ (Nat.le_refl _)) (Nat.le_refl _) rfl)
  go_enter Try.func27, Try.ntmps27
  go_wp2_with fail
  rw [← hW1]
  clear hW1
  refine HE.out.mono ?_
  rintro e w2 ⟨vn, rfl, hbu, hb⟩
  have HR2 := Lib.hid (HR.out.step hb)
  have HB2 := Lib.hid (show Built w2 (w.heap.size + 1) (.slice (some ⟨w.heap.size + 1, 0, none⟩) 3 3) vn [true, false, false] (autN 2 3 (tab tLen1)) from built_with (hbu.mono HR.out.lt) (HL.out.below hb))
  have HKN := Lib.hid (knownI (.agg #[.int .i64 2, .int .i64 0, .slice (some ⟨w.heap.size + 1, 0, none⟩) 3 3, vn]) rLen1 rLen1_ok w2 w2.heap.size (HB2.out.reads _ (Nat.le_refl _) 2 0) (Nat.le_refl _))
  rw [tidyLen1.1, tidyLen1.2.1, tidyLen1.2.2.1] at HKN
  obtain ⟨items2, -, hnx2, -⟩ := hbu.rows
  obtain ⟨a2, n2, c2, rfl, -⟩ := hnx2.shape'
  clear hbu hb HE hnx2
  go_wp2_with fail
  refine HKN.out.mono ?_
  rintro e w3 ⟨va3, vn3, rfl, hbu, hb⟩
  have HR3 := Lib.hid (HR2.out.step hb)
  have HB3 := Lib.hid (show Built w3 (w.heap.size + 1) va3 vn3 (tidyAcc sLen1) (tidyNext sLen1) from hbu.mono HR2.out.lt)
  clear hbu hb HKN
  have hres := HR3.out.res
  obtain ⟨a7, n7, c7, rfl, -⟩ := HB3.out.acc.shape'
  obtain ⟨items7, -, hnx7, -⟩ := HB3.out.rows
  obtain ⟨b7, m7, d7, rfl, -⟩ := hnx7.shape'
  have r0 := cells_get hres 0
  have r1 := cells_get hres 1
  have r2 := cells_get hres 2
  have r3 := cells_get hres 3
  have f0 := cells_free hres 0
  have f1 := cells_free hres 1
  have f2 := cells_free hres 2
  have f3 := cells_free hres 3
  have hlS := HR3.out.lt
  have p0 := cells_set hres 0 (.int .i64 2)
  have p1 := cells_set p0 1 (.int .i64 0)
  have p2 := cells_set p1 2 (.slice a7 n7 c7)
  have p3 := cells_set p2 3 (.slice b7 m7 d7)
  simp at r0 r1 r2 r3 p3
  have g0 := cells_get p3 0
  have g1 := cells_get p3 1
  have g2 := cells_get p3 2
  have g3 := cells_get p3 3
  simp at g0 g1 g2 g3
  have HG := Lib.hid (And.intro g0 (And.intro g1 (And.intro g2 g3)))
  clear p0 p1 p2 p3 g0 g1 g2 g3 hres hnx7
  go_wp2_with fail
  obtain ⟨g0, g1, g2, g3⟩ := HG.out
  refine bodyPost_ret (v := .tuple #[.agg #[.int .i64 2, .int .i64 0, .slice a7 n7 c7, .slice b7 m7 d7], .int .i64 0]) (by simp [results, Try.results27, go_sem, g0, g1, g2, g3]) rfl ⟨.slice a7 n7 c7, .slice b7 m7 d7, rfl, ?_, ?_⟩
  · exact (((((HB3.out.setLow (a := ⟨w.heap.size, 0, none⟩) (Nat.lt_succ_self _) _).setLow (a := ⟨w.heap.size, 1, none⟩) (Nat.lt_succ_self _) _).setLow (a := ⟨w.heap.size, 2, none⟩) (Nat.lt_succ_self _) _).setLow (a := ⟨w.heap.size, 3, none⟩) (Nat.lt_succ_self _) _).mono (Nat.le_succ_of_le HR3.out.hR))
  · exact ((((HR3.out.base.setCell (p := ⟨w.heap.size, 0, none⟩) HR3.out.hR _).setCell (p := ⟨w.heap.size, 1, none⟩) HR3.out.hR _).setCell (p := ⟨w.heap.size, 2, none⟩) HR3.out.hR _).setCell (p := ⟨w.heap.size, 3, none⟩) HR3.out.hR _)

set_option maxHeartbeats 8000000 in
theorem implLen2 (w : World) : Calls Try.prog 27 #[.int .i64 2] w fun e w' => ∃ va vn, e = .returned (.tuple #[.agg #[.int .i64 2, .int .i64 0, va, vn], .int .i64 0]) ∧ Built w' w.heap.size va vn (tidyAcc sLen2) (tidyNext sLen2) ∧ Below w.heap.size w w' := by
  obtain ⟨W1, hW1⟩ : ∃ W1, W1 = (w.alloc (.cells #[Value.int .i64 0, .int .i64 0, .slice none 0 0, .slice none 0 0] 27)).alloc (.cells #[.bool false, .bool true, .bool false] 4) := ⟨_, rfl⟩
  have HR := Lib.hid (show Res0 w w.heap.size W1 by rw [hW1]; exact (Res0.new (Below.refl _ _)).alloc _)
  have HL := Lib.hid (show Lst W1 (w.heap.size + 1) 4 (.slice (some ⟨w.heap.size + 1, 0, none⟩) 3 3) ([false, true, false].map Value.bool) by
    rw [hW1]
    have := Lst.lit (w.alloc (.cells #[Value.int .i64 0, .int .i64 0, .slice none 0 0, .slice none 0 0] 27)) (w.heap.size + 1) 4 #[.bool false, .bool true, .bool false] (by simp) (by decide)
    rw [size_alloc'] at this
    exact this)
  have HE := Lib.hid (byLengthsI (some ⟨w.heap.size + 1, 0, none⟩) 3 [false, true, false] W1 W1.heap.size (lst_bools HL.out _ (Nat.le_refl _)) (Nat.le_refl _) rfl)
  go_enter Try.func27, Try.ntmps27
  go_wp2_with fail
  rw [← hW1]
  clear hW1
  refine HE.out.mono ?_
  rintro e w2 ⟨vn, rfl, hbu, hb⟩
  have HR2 := Lib.hid (HR.out.step hb)
  have HB2 := Lib.hid (show Built w2 (w.heap.size + 1) (.slice (some ⟨w.heap.size + 1, 0, none⟩) 3 3) vn [false, true, false] (autN 2 3 (tab tLen1)) from built_with (hbu.mono HR.out.lt) (HL.out.below hb))
  have HKN := Lib.hid (knownI (.agg #[.int .i64 2, .int .i64 0, .slice (some ⟨w.heap.size + 1, 0, none⟩) 3 3, vn]) rLen2 rLen2_ok w2 w2.heap.size (HB2.out.reads _ (Nat.le_refl _) 2 0) (Nat.le_refl _))
  rw [tidyLen2.1, tidyLen2.2.1, tidyLen2.2.2.1] at HKN
  obtain ⟨items2, -, hnx2, -⟩ := hbu.rows
  obtain ⟨a2, n2, c2, rfl, -⟩ := hnx2.shape'
  clear hbu hb HE hnx2
  go_wp2_with fail
  refine HKN.out.mono ?_
  rintro e w3 ⟨va3, vn3, rfl, hbu, hb⟩
  have HR3 := Lib.hid (HR2.out.step hb)
  have HB3 := Lib.hid (show Built w3 (w.heap.size + 1) va3 vn3 (tidyAcc sLen2) (tidyNext sLen2) from hbu.mono HR2.out.lt)
  clear hbu hb HKN
  have hres := HR3.out.res
  obtain ⟨a7, n7, c7, rfl, -⟩ := HB3.out.acc.shape'
  obtain ⟨items7, -, hnx7, -⟩ := HB3.out.rows
  obtain ⟨b7, m7, d7, rfl, -⟩ := hnx7.shape'
  have r0 := cells_get hres 0
  have r1 := cells_get hres 1
  have r2 := cells_get hres 2
  have r3 := cells_get hres 3
  have f0 := cells_free hres 0
  have f1 := cells_free hres 1
  have f2 := cells_free hres 2
  have f3 := cells_free hres 3
  have hlS := HR3.out.lt
  have p0 := cells_set hres 0 (.int .i64 2)
  have p1 := cells_set p0 1 (.int .i64 0)
  have p2 := cells_set p1 2 (.slice a7 n7 c7)
  have p3 := cells_set p2 3 (.slice b7 m7 d7)
  simp at r0 r1 r2 r3 p3
  have g0 := cells_get p3 0
  have g1 := cells_get p3 1
  have g2 := cells_get p3 2
  have g3 := cells_get p3 3
  simp at g0 g1 g2 g3
  have HG := Lib.hid (And.intro g0 (And.intro g1 (And.intro g2 g3)))
  clear p0 p1 p2 p3 g0 g1 g2 g3 hres hnx7
  go_wp2_with fail
  obtain ⟨g0, g1, g2, g3⟩ := HG.out
  refine bodyPost_ret (v := .tuple #[.agg #[.int .i64 2, .int .i64 0, .slice a7 n7 c7, .slice b7 m7 d7], .int .i64 0]) (by simp [results, Try.results27, go_sem, g0, g1, g2, g3]) rfl ⟨.slice a7 n7 c7, .slice b7 m7 d7, rfl, ?_, ?_⟩
  · exact (((((HB3.out.setLow (a := ⟨w.heap.size, 0, none⟩) (Nat.lt_succ_self _) _).setLow (a := ⟨w.heap.size, 1, none⟩) (Nat.lt_succ_self _) _).setLow (a := ⟨w.heap.size, 2, none⟩) (Nat.lt_succ_self _) _).setLow (a := ⟨w.heap.size, 3, none⟩) (Nat.lt_succ_self _) _).mono (Nat.le_succ_of_le HR3.out.hR))
  · exact ((((HR3.out.base.setCell (p := ⟨w.heap.size, 0, none⟩) HR3.out.hR _).setCell (p := ⟨w.heap.size, 1, none⟩) HR3.out.hR _).setCell (p := ⟨w.heap.size, 2, none⟩) HR3.out.hR _).setCell (p := ⟨w.heap.size, 3, none⟩) HR3.out.hR _)

set_option maxHeartbeats 8000000 in
theorem implLen3 (w : World) : Calls Try.prog 27 #[.int .i64 3] w fun e w' => ∃ va vn, e = .returned (.tuple #[.agg #[.int .i64 2, .int .i64 0, va, vn], .int .i64 0]) ∧ Built w' w.heap.size va vn (tidyAcc sLen3) (tidyNext sLen3) ∧ Below w.heap.size w w' := by
  obtain ⟨W1, hW1⟩ : ∃ W1, W1 = (w.alloc (.cells #[Value.int .i64 0, .int .i64 0, .slice none 0 0, .slice none 0 0] 27)).alloc (.cells #[.bool true, .bool true, .bool false] 4) := ⟨_, rfl⟩
  have HR := Lib.hid (show Res0 w w.heap.size W1 by rw [hW1]; exact (Res0.new (Below.refl _ _)).alloc _)
  have HL := Lib.hid (show Lst W1 (w.heap.size + 1) 4 (.slice (some ⟨w.heap.size + 1, 0, none⟩) 3 3) ([true, true, false].map Value.bool) by
    rw [hW1]
    have := Lst.lit (w.alloc (.cells #[Value.int .i64 0, .int .i64 0, .slice none 0 0, .slice none 0 0] 27)) (w.heap.size + 1) 4 #[.bool true, .bool true, .bool false] (by simp) (by decide)
    rw [size_alloc'] at this
    exact this)
  have HE := Lib.hid (byLengthsI (some ⟨w.heap.size + 1, 0, none⟩) 3 [true, true, false] W1 W1.heap.size (lst_bools HL.out _ (Nat.le_refl _)) (Nat.le_refl _) rfl)
  go_enter Try.func27, Try.ntmps27
  go_wp2_with fail
  rw [← hW1]
  clear hW1
  refine HE.out.mono ?_
  rintro e w2 ⟨vn, rfl, hbu, hb⟩
  have HR2 := Lib.hid (HR.out.step hb)
  have HB2 := Lib.hid (show Built w2 (w.heap.size + 1) (.slice (some ⟨w.heap.size + 1, 0, none⟩) 3 3) vn [true, true, false] (autN 2 3 (tab tLen1)) from built_with (hbu.mono HR.out.lt) (HL.out.below hb))
  have HKN := Lib.hid (knownI (.agg #[.int .i64 2, .int .i64 0, .slice (some ⟨w.heap.size + 1, 0, none⟩) 3 3, vn]) rLen3 rLen3_ok w2 w2.heap.size (HB2.out.reads _ (Nat.le_refl _) 2 0) (Nat.le_refl _))
  rw [tidyLen3.1, tidyLen3.2.1, tidyLen3.2.2.1] at HKN
  obtain ⟨items2, -, hnx2, -⟩ := hbu.rows
  obtain ⟨a2, n2, c2, rfl, -⟩ := hnx2.shape'
  clear hbu hb HE hnx2
  go_wp2_with fail
  refine HKN.out.mono ?_
  rintro e w3 ⟨va3, vn3, rfl, hbu, hb⟩
  have HR3 := Lib.hid (HR2.out.step hb)
  have HB3 := Lib.hid (show Built w3 (w.heap.size + 1) va3 vn3 (tidyAcc sLen3) (tidyNext sLen3) from hbu.mono HR2.out.lt)
  clear hbu hb HKN
  have hres := HR3.out.res
  obtain ⟨a7, n7, c7, rfl, -⟩ := HB3.out.acc.shape'
  obtain ⟨items7, -, hnx7, -⟩ := HB3.out.rows
  obtain ⟨b7, m7, d7, rfl, -⟩ := hnx7.shape'
  have r0 := cells_get hres 0
  have r1 := cells_get hres 1
  have r2 := cells_get hres 2
  have r3 := cells_get hres 3
  have f0 := cells_free hres 0
  have f1 := cells_free hres 1
  have f2 := cells_free hres 2
  have f3 := cells_free hres 3
  have hlS := HR3.out.lt
  have p0 := cells_set hres 0 (.int .i64 2)
  have p1 := cells_set p0 1 (.int .i64 0)
  have p2 := cells_set p1 2 (.slice a7 n7 c7)
  have p3 := cells_set p2 3 (.slice b7 m7 d7)
  simp at r0 r1 r2 r3 p3
  have g0 := cells_get p3 0
  have g1 := cells_get p3 1
  have g2 := cells_get p3 2
  have g3 := cells_get p3 3
  simp at g0 g1 g2 g3
  have HG := Lib.hid (And.intro g0 (And.intro g1 (And.intro g2 g3)))
  clear p0 p1 p2 p3 g0 g1 g2 g3 hres hnx7
  go_wp2_with fail
  obtain ⟨g0, g1, g2, g3⟩ := HG.out
  refine bodyPost_ret (v := .tuple #[.agg #[.int .i64 2, .int .i64 0, .slice a7 n7 c7, .slice b7 m7 d7], .int .i64 0]) (by simp [results, Try.results27, go_sem, g0, g1, g2, g3]) rfl ⟨.slice a7 n7 c7, .slice b7 m7 d7, rfl, ?_, ?_⟩
  · exact (((((HB3.out.setLow (a := ⟨w.heap.size, 0, none⟩) (Nat.lt_succ_self _) _).setLow (a := ⟨w.heap.size, 1, none⟩) (Nat.lt_succ_self _) _).setLow (a := ⟨w.heap.size, 2, none⟩) (Nat.lt_succ_self _) _).setLow (a := ⟨w.heap.size, 3, none⟩) (Nat.lt_succ_self _) _).mono (Nat.le_succ_of_le HR3.out.hR))
  · exact ((((HR3.out.base.setCell (p := ⟨w.heap.size, 0, none⟩) HR3.out.hR _).setCell (p := ⟨w.heap.size, 1, none⟩) HR3.out.hR _).setCell (p := ⟨w.heap.size, 2, none⟩) HR3.out.hR _).setCell (p := ⟨w.heap.size, 3, none⟩) HR3.out.hR _)

theorem inB_no (x lo hi : Int) (h : x < lo ∨ hi < x) : inB x lo hi = false := by
  unfold inB
  rw [decide_eq_false_iff_not]; omega
set_option maxHeartbeats 8000000 in
theorem implLenBad (n : Int) (h : n < 1 ∨ 3 < n) (w : World) : Calls Try.prog 27 #[.int .i64 n] w fun e w' => e = .returned (.tuple #[.agg #[.int .i64 0, .int .i64 0, .slice none 0 0, .slice none 0 0], .int .i64 2]) ∧ Below w.heap.size w w' := by
  rcases h with h | h
  · go_enter Try.func27, Try.ntmps27
    go_wp2_with fail
    exact bodyPost_ret (v := .tuple #[.agg #[.int .i64 0, .int .i64 0, .slice none 0 0, .slice none 0 0], .int .i64 2]) (by simp [results, Try.results27, go_sem]) rfl ⟨rfl, (Below.refl _ _).alloc (Nat.le_refl _) _⟩
  · have h0 : ¬ n < 1 := by omega
    have h1 : decide (n ≤ 3) = false := by simpa using h
    go_enter Try.func27, Try.ntmps27
    go_wp2_with fail
    exact bodyPost_ret (v := .tuple #[.agg #[.int .i64 0, .int .i64 0, .slice none 0 0, .slice none 0 0], .int .i64 2]) (by simp [results, Try.results27, go_sem]) rfl ⟨rfl, (Below.refl _ _).alloc (Nat.le_refl _) _⟩
set_option maxHeartbeats 8000000 in
theorem implAllBad (n : Int) (h : n < 1 ∨ 3 < n) (w : World) : Calls Try.prog 29 #[.int .i64 n] w fun e w' => e = .returned (.tuple #[.agg #[.int .i64 0, .int .i64 0, .slice none 0 0, .slice none 0 0], .int .i64 2]) ∧ Below w.heap.size w w' := by
  have HV := Lib.hid (fun W => by
    have h1 := validTapes n W
    have h2 : decide (1 ≤ n ∧ n ≤ 3) = false := by rw [decide_eq_false_iff_not]; omega
    rw [h2] at h1
    exact h1)
  go_enter Try.func29, Try.ntmps29
  go_wp2_with (go_at_call 57; refine (HV.out _).mono ?_; rintro e w' ⟨rfl, rfl⟩)
  exact bodyPost_ret (v := .tuple #[.agg #[.int .i64 0, .int .i64 0, .slice none 0 0, .slice none 0 0], .int .i64 2]) (by simp [results, Try.results29, go_sem]) rfl ⟨rfl, (Below.refl _ _).alloc (Nat.le_refl _) _⟩
def lAll (k : Nat) : L := L.mk k 0 [true] [List.replicate (wide k) 0]
set_option maxHeartbeats 8000000 in
theorem implAll (k : Nat) (h1 : 1 ≤ k) (h3 : k ≤ 3) (w : World) : Calls Try.prog 29 #[.int .i64 k] w fun e w' => ∃ va vn, e = .returned (.tuple #[.agg #[.int .i64 k, .int .i64 0, va, vn], .int .i64 0]) ∧ Built w' w.heap.size va vn (tidyAcc (lAll k)) (tidyNext (lAll k)) ∧ Below w.heap.size w w' := by
  have HV := Lib.hid (fun W => by
    have e1 := validTapes (k : Int) W
    have e2 : decide (1 ≤ (k : Int) ∧ (k : Int) ≤ 3) = true := by rw [decide_eq_true_iff]; omega
    rw [e2] at e1
    exact e1)
  obtain ⟨W1, hW1⟩ : ∃ W1, W1 = (w.alloc (.cells #[Value.int .i64 0, .int .i64 0, .slice none 0 0, .slice none 0 0] 27)).alloc (.cells #[.bool true] 4) := ⟨_, rfl⟩
  have HR := Lib.hid (show Res0 w w.heap.size W1 by rw [hW1]; exact (Res0.new (Below.refl _ _)).alloc _)
  have HL := Lib.hid (show Lst W1 (w.heap.size + 1) 4 (.slice (some ⟨w.heap.size + 1, 0, none⟩) 1 1) ([true].map Value.bool) by
    rw [hW1]
    have := Lst.lit (w.alloc (.cells #[Value.int .i64 0, .int .i64 0, .slice none 0 0, .slice none 0 0] 27)) (w.heap.size + 1) 4 #[.bool true] (by simp) (by decide)
    rw [size_alloc'] at this
    exact this)
  have HAU := Lib.hid (automaton k h1 h3 (.slice (some ⟨w.heap.size + 1, 0, none⟩) 1 1) [true] W1 W1.heap.size (lst_bools HL.out _ (Nat.le_refl _)) (Nat.le_refl _) (by decide) 58 (fun _ _ => rfl) #[] (fun _ _ => 0) (fun W hb s c hs hc => by
    have h0 : s = 0 := by simpa using hs
    subst h0
    exact allRule k c W))
  have HKE := Lib.hid (fun v W B h hB => knownI v (rAll k) (rAll_ok k h1 h3) W B h hB)
  rw [(tidyAll k h1 h3).1, (tidyAll k h1 h3).2.1, (tidyAll k h1 h3).2.2.1] at HKE
  clear h1 h3
  go_enter Try.func29, Try.ntmps29
  go_wp2_with (go_at_call 57; refine (HV.out _).mono ?_; rintro e w' ⟨rfl, rfl⟩)
  rw [← hW1]
  clear hW1
  refine HAU.out.mono ?_
  rintro e w2 ⟨vn, rfl, hbu, hb⟩
  have HR2 := Lib.hid (HR.out.step hb)
  have HB2 := Lib.hid (show Built w2 (w.heap.size + 1) (.slice (some ⟨w.heap.size + 1, 0, none⟩) 1 1) vn [true] (autN k 1 fun _ _ => 0) from built_with (hbu.mono HR.out.lt) (HL.out.below hb))
  have HKN := Lib.hid (HKE.out (.agg #[.int .i64 k, .int .i64 0, .slice (some ⟨w.heap.size + 1, 0, none⟩) 1 1, vn]) w2 w2.heap.size (HB2.out.reads _ (Nat.le_refl _) k 0) (Nat.le_refl _))
  obtain ⟨items2, -, hnx2, -⟩ := hbu.rows
  obtain ⟨a2, n2, c2, rfl, -⟩ := hnx2.shape'
  clear hbu hb HAU hnx2 HKE
  go_wp2_with fail
  refine HKN.out.mono ?_
  rintro e w3 ⟨va3, vn3, rfl, hbu, hb⟩
  have HR3 := Lib.hid (HR2.out.step hb)
  have HB3 := Lib.hid (show Built w3 (w.heap.size + 1) va3 vn3 (tidyAcc (lAll k)) (tidyNext (lAll k)) from hbu.mono HR2.out.lt)
  clear hbu hb HKN
  have hres := HR3.out.res
  obtain ⟨a7, n7, c7, rfl, -⟩ := HB3.out.acc.shape'
  obtain ⟨items7, -, hnx7, -⟩ := HB3.out.rows
  obtain ⟨b7, m7, d7, rfl, -⟩ := hnx7.shape'
  have r0 := cells_get hres 0
  have r1 := cells_get hres 1
  have r2 := cells_get hres 2
  have r3 := cells_get hres 3
  have f0 := cells_free hres 0
  have f1 := cells_free hres 1
  have f2 := cells_free hres 2
  have f3 := cells_free hres 3
  have hlS := HR3.out.lt
  have p0 := cells_set hres 0 (.int .i64 k)
  have p1 := cells_set p0 1 (.int .i64 0)
  have p2 := cells_set p1 2 (.slice a7 n7 c7)
  have p3 := cells_set p2 3 (.slice b7 m7 d7)
  simp at r0 r1 r2 r3 p3
  have g0 := cells_get p3 0
  have g1 := cells_get p3 1
  have g2 := cells_get p3 2
  have g3 := cells_get p3 3
  simp at g0 g1 g2 g3
  have HG := Lib.hid (And.intro g0 (And.intro g1 (And.intro g2 g3)))
  clear p0 p1 p2 p3 g0 g1 g2 g3 hres hnx7
  go_wp2_with fail
  obtain ⟨g0, g1, g2, g3⟩ := HG.out
  refine bodyPost_ret (v := .tuple #[.agg #[.int .i64 k, .int .i64 0, .slice a7 n7 c7, .slice b7 m7 d7], .int .i64 0]) (by simp [results, Try.results29, go_sem, g0, g1, g2, g3]) rfl ⟨.slice a7 n7 c7, .slice b7 m7 d7, rfl, ?_, ?_⟩
  · exact (((((HB3.out.setLow (a := ⟨w.heap.size, 0, none⟩) (Nat.lt_succ_self _) _).setLow (a := ⟨w.heap.size, 1, none⟩) (Nat.lt_succ_self _) _).setLow (a := ⟨w.heap.size, 2, none⟩) (Nat.lt_succ_self _) _).setLow (a := ⟨w.heap.size, 3, none⟩) (Nat.lt_succ_self _) _).mono (Nat.le_succ_of_le HR3.out.hR))
  · exact ((((HR3.out.base.setCell (p := ⟨w.heap.size, 0, none⟩) HR3.out.hR _).setCell (p := ⟨w.heap.size, 1, none⟩) HR3.out.hR _).setCell (p := ⟨w.heap.size, 2, none⟩) HR3.out.hR _).setCell (p := ⟨w.heap.size, 3, none⟩) HR3.out.hR _)

end Go.Proofs.Ytpdplfgljjkjbaa.ClosedRels
