/- What the model's functions for the known relations hand back.
   Conditions: stated at each theorem. -/
import Derived.Test.YtpdplfgljjkjbaaClosedRels
import Derived.Test.YtpdplfgljjkjbaaClosedImpl
namespace Go.Proofs.Ytpdplfgljjkjbaa.ClosedSpecs
set_option linter.unusedVariables false
set_option linter.unusedSimpArgs false
set_option maxRecDepth 100000
open Go.RowKit Mem Copy Rel Valid Heap Push Bld ColMath Columns Numbers ToL TidyAuto TidyRight SpecRight SpecTidyRel ImplRight Automaton Known Sim ResKit Closed ClosedImpl
open ClosedRels

/-- Rows of numbers, each laid in a block of its own. -/
def layRows (t : TypeId) : World → List (List Int) → World
  | W, [] => W
  | W, r :: ms => layRows t (W.alloc (.cells (r.map (Value.int .i64)).toArray t)) ms
theorem layRows_size (t : TypeId) (ms : List (List Int)) : ∀ W : World, (layRows t W ms).heap.size = W.heap.size + ms.length := by
  induction ms with
  | nil => intro W; rfl
  | cons r ms ih => intro W; unfold layRows; rw [ih, size_alloc', List.length_cons]; omega
theorem layRows_below (t : TypeId) (ms : List (List Int)) : ∀ W : World, Below W.heap.size W (layRows t W ms) := by
  induction ms with
  | nil => intro W; exact Below.refl _ _
  | cons r ms ih => intro W; unfold layRows; exact base_step ((Below.refl _ _).alloc (Nat.le_refl _) _) (ih _)
theorem layRows_get (t : TypeId) (ms : List (List Int)) : ∀ (W : World) (i : Nat), i < ms.length → (layRows t W ms).heap[W.heap.size + i]? = some (.cells ((ms.getD i []).map (Value.int .i64)).toArray t (0, 0)) := by
  induction ms with
  | nil => intro W i h; exact absurd h (Nat.not_lt_zero i)
  | cons r ms ih =>
    intro W i h
    unfold layRows
    cases i with
    | zero =>
      rw [Nat.add_zero, (layRows_below t ms _).block _ (by rw [size_alloc']; omega)]
      exact heap_alloc_new _ _
    | succ i =>
      have := ih (W.alloc (.cells (r.map (Value.int .i64)).toArray t)) i (by simpa using h)
      rw [size_alloc'] at this
      rw [show W.heap.size + (i + 1) = W.heap.size + 1 + i by omega]
      exact this
theorem rows_lit (W : World) (ms : List (List Int)) (N : Nat) (hN : W.heap.size = N) (t t' : TypeId) (outer : Array Value) (ho : outer = ((List.range ms.length).map fun i => Value.slice (some ⟨N + i, 0, none⟩) 3 3).toArray) (h3 : ∀ i, i < ms.length → (ms.getD i []).length = 3) (hm : ms.length ≤ 1000) (C : Nat) (hC : ((layRows t W ms).alloc (.cells outer t')).heap.size ≤ C) :
    IntRows ((layRows t W ms).alloc (.cells outer t')) C (.slice (some ⟨N + ms.length, 0, none⟩) ms.length ms.length) ms := by
  have hsz := layRows_size t ms W
  rw [hN] at hsz
  rw [size_alloc'] at hC
  refine ⟨fun i => Value.slice (some ⟨N + i, 0, none⟩) 3 3, ⟨_, N + ms.length, 0, _, rfl, by unfold maxLen; omega, fun _ => ⟨rfl, by omega⟩, fun i hi => ?_⟩, fun i hi => ?_⟩
  · rw [← hsz, World.cell?_alloc_mark, ho]
    simp [hi]
  · have hg := layRows_get t ms W i hi
    rw [hN] at hg
    have h0 := h3 i hi
    refine ⟨_, N + i, 0, 3, by rw [h0], by unfold maxLen; omega, fun _ => ⟨rfl, by omega⟩, fun j hj => ?_⟩
    have hb : ((layRows t W ms).alloc (.cells outer t')).heap[N + i]? = some (.cells ((ms.getD i []).map (Value.int .i64)).toArray t (0, 0)) := by
      rw [Below.heap_alloc _ _ _ (by omega)]; exact hg
    rw [cells_get hb]
    clear hb hg
    revert hj h0
    generalize ms.getD i [] = r
    intro h0 hj
    simp [List.getD, hj]

set_option maxHeartbeats 8000000 in
theorem specEqual (w : World) : Calls Try.prog 18 #[] w fun e w' => ∃ va vn, e = .returned (.agg #[.int .i64 2, .int .i64 0, va, vn]) ∧ Built w' w.heap.size va vn (tidyAcc sEqual) (tidyNext sEqual) ∧ Below w.heap.size w w' := by
  obtain ⟨W1, hW1⟩ : ∃ W1, W1 = ((((w.alloc (.cells #[Value.int .i64 0, .int .i64 0, .slice none 0 0, .slice none 0 0] 27)).alloc (.cells #[.bool true] 4)).alloc (.cells #[.int .i64 0, .int .i64 0, .int .i64 0] 2)).alloc (.cells #[.int .i64 0, .int .i64 4, .int .i64 0] 2)).alloc (.cells #[.slice (some ⟨w.heap.size + 1 + 1, 0, none⟩) 3 3, .slice (some ⟨w.heap.size + 1 + 1 + 1, 0, none⟩) 3 3] 49) := ⟨_, rfl⟩
  have hWL : W1 = (layRows 2 ((w.alloc (.cells #[Value.int .i64 0, .int .i64 0, .slice none 0 0, .slice none 0 0] 27)).alloc (.cells #[.bool true] 4)) mEqual).alloc (.cells #[.slice (some ⟨w.heap.size + 1 + 1, 0, none⟩) 3 3, .slice (some ⟨w.heap.size + 1 + 1 + 1, 0, none⟩) 3 3] 49) := by rw [hW1]; rfl
  have hb0 : Below ((w.alloc (.cells #[Value.int .i64 0, .int .i64 0, .slice none 0 0, .slice none 0 0] 27)).alloc (.cells #[.bool true] 4)).heap.size ((w.alloc (.cells #[Value.int .i64 0, .int .i64 0, .slice none 0 0, .slice none 0 0] 27)).alloc (.cells #[.bool true] 4)) W1 := by rw [hWL]; exact base_box (layRows_below _ _ _) _
  have hsz0 : ((w.alloc (.cells #[Value.int .i64 0, .int .i64 0, .slice none 0 0, .slice none 0 0] 27)).alloc (.cells #[.bool true] 4)).heap.size = w.heap.size + 1 + 1 := by rw [size_alloc', size_alloc']
  have HR := Lib.hid (show Res0 w w.heap.size W1 from ((Res0.new (Below.refl _ _)).alloc _).step hb0)
  have HL := Lib.hid (show Bools W1 W1.heap.size (.slice (some ⟨w.heap.size + 1, 0, none⟩) 1 1) [true] from by
    have := Lst.lit (w.alloc (.cells #[Value.int .i64 0, .int .i64 0, .slice none 0 0, .slice none 0 0] 27)) (w.heap.size + 1) 4 #[.bool true] (by simp) (by decide)
    rw [size_alloc'] at this
    exact lst_bools (xs := [true]) (Lst.below this hb0) _ (Nat.le_refl _))
  have HM := Lib.hid (show IntRows W1 W1.heap.size (.slice (some ⟨w.heap.size + 1 + 1 + 1 + 1, 0, none⟩) 2 2) mEqual from by
    rw [hWL]
    exact rows_lit ((w.alloc (.cells #[Value.int .i64 0, .int .i64 0, .slice none 0 0, .slice none 0 0] 27)).alloc (.cells #[.bool true] 4)) mEqual (w.heap.size + 1 + 1) hsz0 2 49 #[.slice (some ⟨w.heap.size + 1 + 1, 0, none⟩) 3 3, .slice (some ⟨w.heap.size + 1 + 1 + 1, 0, none⟩) 3 3] rfl (by decide) (by decide) _ (Nat.le_refl _))
  have HKN := Lib.hid (known (.slice (some ⟨w.heap.size + 1, 0, none⟩) 1 1) (.slice (some ⟨w.heap.size + 1 + 1 + 1 + 1, 0, none⟩) 2 2) [true] mEqual sEqual sEqual_ok sEqual_rel (by decide) (by decide) (by decide) (by decide) W1 W1.heap.size HL.out HM.out (Nat.le_refl _))
  clear hWL hb0 hsz0
  go_enter Try.func18, Try.ntmps18
  go_wp2_with fail
  rw [← hW1]
  clear hW1
  refine HKN.out.mono ?_
  rintro e w3 ⟨va3, vn3, rfl, hbu, hb⟩
  have HR3 := Lib.hid (HR.out.step hb)
  have HB3 := Lib.hid (show Built w3 (w.heap.size + 1) va3 vn3 (tidyAcc sEqual) (tidyNext sEqual) from hbu.mono HR.out.lt)
  clear hbu hb HKN
  have hres := HR3.out.res
  obtain ⟨a7, n7, c7, rfl, -⟩ := HB3.out.acc.shape'
  obtain ⟨items7, -, hnx7, -⟩ := HB3.out.rows
  obtain ⟨b7, m7, d7, rfl, -⟩ := hnx7.shape'
  have r0 := cells_get hres 0
  have r1 := cells_get hres 1
  have r2 := cells_get hres 2
  have r3 := cells_get hres 3
  have f0 := cells_free hres 0
  have f1 := cells_free hres 1
  have f2 := cells_free hres 2
  have f3 := cells_free hres 3
  have hlS := HR3.out.lt
  have p0 := cells_set hres 0 (.int .i64 2)
  have p1 := cells_set p0 1 (.int .i64 0)
  have p2 := cells_set p1 2 (.slice a7 n7 c7)
  have p3 := cells_set p2 3 (.slice b7 m7 d7)
  simp at r0 r1 r2 r3 p3
  have g0 := cells_get p3 0
  have g1 := cells_get p3 1
  have g2 := cells_get p3 2
  have g3 := cells_get p3 3
  simp at g0 g1 g2 g3
  have HG := Lib.hid (And.intro g0 (And.intro g1 (And.intro g2 g3)))
  clear p0 p1 p2 p3 g0 g1 g2 g3 hres hnx7
  go_wp2_with fail
  obtain ⟨g0, g1, g2, g3⟩ := HG.out
  refine bodyPost_ret (v := .agg #[.int .i64 2, .int .i64 0, .slice a7 n7 c7, .slice b7 m7 d7]) (by simp [results, Try.results18, go_sem, g0, g1, g2, g3]) rfl ⟨.slice a7 n7 c7, .slice b7 m7 d7, rfl, ?_, ?_⟩
  · exact (((((HB3.out.setLow (a := ⟨w.heap.size, 0, none⟩) (Nat.lt_succ_self _) _).setLow (a := ⟨w.heap.size, 1, none⟩) (Nat.lt_succ_self _) _).setLow (a := ⟨w.heap.size, 2, none⟩) (Nat.lt_succ_self _) _).setLow (a := ⟨w.heap.size, 3, none⟩) (Nat.lt_succ_self _) _).mono (Nat.le_succ_of_le HR3.out.hR))
  · exact ((((HR3.out.base.setCell (p := ⟨w.heap.size, 0, none⟩) HR3.out.hR _).setCell (p := ⟨w.heap.size, 1, none⟩) HR3.out.hR _).setCell (p := ⟨w.heap.size, 2, none⟩) HR3.out.hR _).setCell (p := ⟨w.heap.size, 3, none⟩) HR3.out.hR _)

set_option maxHeartbeats 8000000 in
theorem specPrefix (w : World) : Calls Try.prog 20 #[] w fun e w' => ∃ va vn, e = .returned (.agg #[.int .i64 2, .int .i64 0, va, vn]) ∧ Built w' w.heap.size va vn (tidyAcc sPrefix) (tidyNext sPrefix) ∧ Below w.heap.size w w' := by
  obtain ⟨W1, hW1⟩ : ∃ W1, W1 = ((((((((w.alloc (.cells #[Value.int .i64 0, .int .i64 0, .slice none 0 0, .slice none 0 0] 27)).alloc (.cells #[.bool true, .bool true] 4)).alloc (.cells #[.int .i64 0, .int .i64 0, .int .i64 0] 2)).alloc (.cells #[.int .i64 0, .int .i64 4, .int .i64 0] 2)).alloc (.cells #[.int .i64 0, .int .i64 2, .int .i64 1] 2)).alloc (.cells #[.int .i64 0, .int .i64 5, .int .i64 1] 2)).alloc (.cells #[.int .i64 1, .int .i64 2, .int .i64 1] 2)).alloc (.cells #[.int .i64 1, .int .i64 5, .int .i64 1] 2)).alloc (.cells #[.slice (some ⟨w.heap.size + 1 + 1, 0, none⟩) 3 3, .slice (some ⟨w.heap.size + 1 + 1 + 1, 0, none⟩) 3 3, .slice (some ⟨w.heap.size + 1 + 1 + 1 + 1, 0, none⟩) 3 3, .slice (some ⟨w.heap.size + 1 + 1 + 1 + 1 + 1, 0, none⟩) 3 3, .slice (some ⟨w.heap.size + 1 + 1 + 1 + 1 + 1 + 1, 0, none⟩) 3 3, .slice (some ⟨w.heap.size + 1 + 1 + 1 + 1 + 1 + 1 + 1, 0, none⟩) 3 3] 49) := ⟨_, rfl⟩
  have hWL : W1 = (layRows 2 ((w.alloc (.cells #[Value.int .i64 0, .int .i64 0, .slice none 0 0, .slice none 0 0] 27)).alloc (.cells #[.bool true, .bool true] 4)) mPrefix).alloc (.cells #[.slice (some ⟨w.heap.size + 1 + 1, 0, none⟩) 3 3, .slice (some ⟨w.heap.size + 1 + 1 + 1, 0, none⟩) 3 3, .slice (some ⟨w.heap.size + 1 + 1 + 1 + 1, 0, none⟩) 3 3, .slice (some ⟨w.heap.size + 1 + 1 + 1 + 1 + 1, 0, none⟩) 3 3, .slice (some ⟨w.heap.size + 1 + 1 + 1 + 1 + 1 + 1, 0, none⟩) 3 3, .slice (some ⟨w.heap.size + 1 + 1 + 1 + 1 + 1 + 1 + 1, 0, none⟩) 3 3] 49) := by rw [hW1]; rfl
  have hb0 : Below ((w.alloc (.cells #[Value.int .i64 0, .int .i64 0, .slice none 0 0, .slice none 0 0] 27)).alloc (.cells #[.bool true, .bool true] 4)).heap.size ((w.alloc (.cells #[Value.int .i64 0, .int .i64 0, .slice none 0 0, .slice none 0 0] 27)).alloc (.cells #[.bool true, .bool true] 4)) W1 := by rw [hWL]; exact base_box (layRows_below _ _ _) _
  have hsz0 : ((w.alloc (.cells #[Value.int .i64 0, .int .i64 0, .slice none 0 0, .slice none 0 0] 27)).alloc (.cells #[.bool true, .bool true] 4)).heap.size = w.heap.size + 1 + 1 := by rw [size_alloc', size_alloc']
  have HR := Lib.hid (show Res0 w w.heap.size W1 from ((Res0.new (Below.refl _ _)).alloc _).step hb0)
  have HL := Lib.hid (show Bools W1 W1.heap.size (.slice (some ⟨w.heap.size + 1, 0, none⟩) 2 2) [true, true] from by
    have := Lst.lit (w.alloc (.cells #[Value.int .i64 0, .int .i64 0, .slice none 0 0, .slice none 0 0] 27)) (w.heap.size + 1) 4 #[.bool true, .bool true] (by simp) (by decide)
    rw [size_alloc'] at this
    exact lst_bools (xs := [true, true]) (Lst.below this hb0) _ (Nat.le_refl _))
  have HM := Lib.hid (show IntRows W1 W1.heap.size (.slice (some ⟨w.heap.size + 1 + 1 + 1 + 1 + 1 + 1 + 1 + 1, 0, none⟩) 6 6) mPrefix from by
    rw [hWL]
    exact rows_lit ((w.alloc (.cells #[Value.int .i64 0, .int .i64 0, .slice none 0 0, .slice none 0 0] 27)).alloc (.cells #[.bool true, .bool true] 4)) mPrefix (w.heap.size + 1 + 1) hsz0 2 49 #[.slice (some ⟨w.heap.size + 1 + 1, 0, none⟩) 3 3, .slice (some ⟨w.heap.size + 1 + 1 + 1, 0, none⟩) 3 3, .slice (some ⟨w.heap.size + 1 + 1 + 1 + 1, 0, none⟩) 3 3, .slice (some ⟨w.heap.size + 1 + 1 + 1 + 1 + 1, 0, none⟩) 3 3, .slice (some ⟨w.heap.size + 1 + 1 + 1 + 1 + 1 + 1, 0, none⟩) 3 3, .slice (some ⟨w.heap.size + 1 + 1 + 1 + 1 + 1 + 1 + 1, 0, none⟩) 3 3] rfl (by decide) (by decide) _ (Nat.le_refl _))
  have HKN := Lib.hid (known (.slice (some ⟨w.heap.size + 1, 0, none⟩) 2 2) (.slice (some ⟨w.heap.size + 1 + 1 + 1 + 1 + 1 + 1 + 1 + 1, 0, none⟩) 6 6) [true, true] mPrefix sPrefix sPrefix_ok sPrefix_rel (by decide) (by decide) (by decide) (by decide) W1 W1.heap.size HL.out HM.out (Nat.le_refl _))
  clear hWL hb0 hsz0
  go_enter Try.func20, Try.ntmps20
  go_wp2_with fail
  rw [← hW1]
  clear hW1
  refine HKN.out.mono ?_
  rintro e w3 ⟨va3, vn3, rfl, hbu, hb⟩
  have HR3 := Lib.hid (HR.out.step hb)
  have HB3 := Lib.hid (show Built w3 (w.heap.size + 1) va3 vn3 (tidyAcc sPrefix) (tidyNext sPrefix) from hbu.mono HR.out.lt)
  clear hbu hb HKN
  have hres := HR3.out.res
  obtain ⟨a7, n7, c7, rfl, -⟩ := HB3.out.acc.shape'
  obtain ⟨items7, -, hnx7, -⟩ := HB3.out.rows
  obtain ⟨b7, m7, d7, rfl, -⟩ := hnx7.shape'
  have r0 := cells_get hres 0
  have r1 := cells_get hres 1
  have r2 := cells_get hres 2
  have r3 := cells_get hres 3
  have f0 := cells_free hres 0
  have f1 := cells_free hres 1
  have f2 := cells_free hres 2
  have f3 := cells_free hres 3
  have hlS := HR3.out.lt
  have p0 := cells_set hres 0 (.int .i64 2)
  have p1 := cells_set p0 1 (.int .i64 0)
  have p2 := cells_set p1 2 (.slice a7 n7 c7)
  have p3 := cells_set p2 3 (.slice b7 m7 d7)
  simp at r0 r1 r2 r3 p3
  have g0 := cells_get p3 0
  have g1 := cells_get p3 1
  have g2 := cells_get p3 2
  have g3 := cells_get p3 3
  simp at g0 g1 g2 g3
  have HG := Lib.hid (And.intro g0 (And.intro g1 (And.intro g2 g3)))
  clear p0 p1 p2 p3 g0 g1 g2 g3 hres hnx7
  go_wp2_with fail
  obtain ⟨g0, g1, g2, g3⟩ := HG.out
  refine bodyPost_ret (v := .agg #[.int .i64 2, .int .i64 0, .slice a7 n7 c7, .slice b7 m7 d7]) (by simp [results, Try.results20, go_sem, g0, g1, g2, g3]) rfl ⟨.slice a7 n7 c7, .slice b7 m7 d7, rfl, ?_, ?_⟩
  · exact (((((HB3.out.setLow (a := ⟨w.heap.size, 0, none⟩) (Nat.lt_succ_self _) _).setLow (a := ⟨w.heap.size, 1, none⟩) (Nat.lt_succ_self _) _).setLow (a := ⟨w.heap.size, 2, none⟩) (Nat.lt_succ_self _) _).setLow (a := ⟨w.heap.size, 3, none⟩) (Nat.lt_succ_self _) _).mono (Nat.le_succ_of_le HR3.out.hR))
  · exact ((((HR3.out.base.setCell (p := ⟨w.heap.size, 0, none⟩) HR3.out.hR _).setCell (p := ⟨w.heap.size, 1, none⟩) HR3.out.hR _).setCell (p := ⟨w.heap.size, 2, none⟩) HR3.out.hR _).setCell (p := ⟨w.heap.size, 3, none⟩) HR3.out.hR _)

set_option maxHeartbeats 8000000 in
theorem specSucc (w : World) : Calls Try.prog 24 #[] w fun e w' => ∃ va vn, e = .returned (.agg #[.int .i64 2, .int .i64 0, va, vn]) ∧ Built w' w.heap.size va vn (tidyAcc sSucc) (tidyNext sSucc) ∧ Below w.heap.size w w' := by
  obtain ⟨W1, hW1⟩ : ∃ W1, W1 = (((((((((((((w.alloc (.cells #[Value.int .i64 0, .int .i64 0, .slice none 0 0, .slice none 0 0] 27)).alloc (.cells #[.bool false, .bool false, .bool true, .bool false, .bool true] 4)).alloc (.cells #[.int .i64 0, .int .i64 0, .int .i64 1] 2)).alloc (.cells #[.int .i64 0, .int .i64 4, .int .i64 1] 2)).alloc (.cells #[.int .i64 0, .int .i64 3, .int .i64 2] 2)).alloc (.cells #[.int .i64 0, .int .i64 1, .int .i64 3] 2)).alloc (.cells #[.int .i64 0, .int .i64 2, .int .i64 4] 2)).alloc (.cells #[.int .i64 1, .int .i64 0, .int .i64 1] 2)).alloc (.cells #[.int .i64 1, .int .i64 4, .int .i64 1] 2)).alloc (.cells #[.int .i64 1, .int .i64 3, .int .i64 2] 2)).alloc (.cells #[.int .i64 2, .int .i64 1, .int .i64 2] 2)).alloc (.cells #[.int .i64 3, .int .i64 1, .int .i64 3] 2)).alloc (.cells #[.int .i64 3, .int .i64 2, .int .i64 4] 2)).alloc (.cells #[.slice (some ⟨w.heap.size + 1 + 1, 0, none⟩) 3 3, .slice (some ⟨w.heap.size + 1 + 1 + 1, 0, none⟩) 3 3, .slice (some ⟨w.heap.size + 1 + 1 + 1 + 1, 0, none⟩) 3 3, .slice (some ⟨w.heap.size + 1 + 1 + 1 + 1 + 1, 0, none⟩) 3 3, .slice (some ⟨w.heap.size + 1 + 1 + 1 + 1 + 1 + 1, 0, none⟩) 3 3, .slice (some ⟨w.heap.size + 1 + 1 + 1 + 1 + 1 + 1 + 1, 0, none⟩) 3 3, .slice (some ⟨w.heap.size + 1 + 1 + 1 + 1 + 1 + 1 + 1 + 1, 0, none⟩) 3 3, .slice (some ⟨w.heap.size + 1 + 1 + 1 + 1 + 1 + 1 + 1 + 1 + 1, 0, none⟩) 3 3, .slice (some ⟨w.heap.size + 1 + 1 + 1 + 1 + 1 + 1 + 1 + 1 + 1 + 1, 0, none⟩) 3 3, .slice (some ⟨w.heap.size + 1 + 1 + 1 + 1 + 1 + 1 + 1 + 1 + 1 + 1 + 1, 0, none⟩) 3 3, .slice (some ⟨w.heap.size + 1 + 1 + 1 + 1 + 1 + 1 + 1 + 1 + 1 + 1 + 1 + 1, 0, none⟩) 3 3] 49) := ⟨_, rfl⟩
  have hWL : W1 = (layRows 2 ((w.alloc (.cells #[Value.int .i64 0, .int .i64 0, .slice none 0 0, .slice none 0 0] 27)).alloc (.cells #[.bool false, .bool false, .bool true, .bool false, .bool true] 4)) mSucc).alloc (.cells #[.slice (some ⟨w.heap.size + 1 + 1, 0, none⟩) 3 3, .slice (some ⟨w.heap.size + 1 + 1 + 1, 0, none⟩) 3 3, .slice (some ⟨w.heap.size + 1 + 1 + 1 + 1, 0, none⟩) 3 3, .slice (some ⟨w.heap.size + 1 + 1 + 1 + 1 + 1, 0, none⟩) 3 3, .slice (some ⟨w.heap.size + 1 + 1 + 1 + 1 + 1 + 1, 0, none⟩) 3 3, .slice (some ⟨w.heap.size + 1 + 1 + 1 + 1 + 1 + 1 + 1, 0, none⟩) 3 3, .slice (some ⟨w.heap.size + 1 + 1 + 1 + 1 + 1 + 1 + 1 + 1, 0, none⟩) 3 3, .slice (some ⟨w.heap.size + 1 + 1 + 1 + 1 + 1 + 1 + 1 + 1 + 1, 0, none⟩) 3 3, .slice (some ⟨w.heap.size + 1 + 1 + 1 + 1 + 1 + 1 + 1 + 1 + 1 + 1, 0, none⟩) 3 3, .slice (some ⟨w.heap.size + 1 + 1 + 1 + 1 + 1 + 1 + 1 + 1 + 1 + 1 + 1, 0, none⟩) 3 3, .slice (some ⟨w.heap.size + 1 + 1 + 1 + 1 + 1 + 1 + 1 + 1 + 1 + 1 + 1 + 1, 0, none⟩) 3 3] 49) := by rw [hW1]; rfl
  have hb0 : Below ((w.alloc (.cells #[Value.int .i64 0, .int .i64 0, .slice none 0 0, .slice none 0 0] 27)).alloc (.cells #[.bool false, .bool false, .bool true, .bool false, .bool true] 4)).heap.size ((w.alloc (.cells #[Value.int .i64 0, .int .i64 0, .slice none 0 0, .slice none 0 0] 27)).alloc (.cells #[.bool false, .bool false, .bool true, .bool false, .bool true] 4)) W1 := by rw [hWL]; exact base_box (layRows_below _ _ _) _
  have hsz0 : ((w.alloc (.cells #[Value.int .i64 0, .int .i64 0, .slice none 0 0, .slice none 0 0] 27)).alloc (.cells #[.bool false, .bool false, .bool true, .bool false, .bool true] 4)).heap.size = w.heap.size + 1 + 1 := by rw [size_alloc', size_alloc']
  have HR := Lib.hid (show Res0 w w.heap.size W1 from ((Res0.new (Below.refl _ _)).alloc _).step hb0)
  have HL := Lib.hid (show Bools W1 W1.heap.size (.slice (some ⟨w.heap.size + 1, 0, none⟩) 5 5) [false, false, true, false, true] from by
    have := Lst.lit (w.alloc (.cells #[Value.int .i64 0, .int .i64 0, .slice none 0 0, .slice none 0 0] 27)) (w.heap.size + 1) 4 #[.bool false, .bool false, .bool true, .bool false, .bool true] (by simp) (by decide)
    rw [size_alloc'] at this
    exact lst_bools (xs := [false, false, true, false, true]) (Lst.below this hb0) _ (Nat.le_refl _))
  have HM := Lib.hid (show IntRows W1 W1.heap.size (.slice (some ⟨w.heap.size + 1 + 1 + 1 + 1 + 1 + 1 + 1 + 1 + 1 + 1 + 1 + 1 + 1, 0, none⟩) 11 11) mSucc from by
    rw [hWL]
    exact rows_lit ((w.alloc (.cells #[Value.int .i64 0, .int .i64 0, .slice none 0 0, .slice none 0 0] 27)).alloc (.cells #[.bool false, .bool false, .bool true, .bool false, .bool true] 4)) mSucc (w.heap.size + 1 + 1) hsz0 2 49 #[.slice (some ⟨w.heap.size + 1 + 1, 0, none⟩) 3 3, .slice (some ⟨w.heap.size + 1 + 1 + 1, 0, none⟩) 3 3, .slice (some ⟨w.heap.size + 1 + 1 + 1 + 1, 0, none⟩) 3 3, .slice (some ⟨w.heap.size + 1 + 1 + 1 + 1 + 1, 0, none⟩) 3 3, .slice (some ⟨w.heap.size + 1 + 1 + 1 + 1 + 1 + 1, 0, none⟩) 3 3, .slice (some ⟨w.heap.size + 1 + 1 + 1 + 1 + 1 + 1 + 1, 0, none⟩) 3 3, .slice (some ⟨w.heap.size + 1 + 1 + 1 + 1 + 1 + 1 + 1 + 1, 0, none⟩) 3 3, .slice (some ⟨w.heap.size + 1 + 1 + 1 + 1 + 1 + 1 + 1 + 1 + 1, 0, none⟩) 3 3, .slice (some ⟨w.heap.size + 1 + 1 + 1 + 1 + 1 + 1 + 1 + 1 + 1 + 1, 0, none⟩) 3 3, .slice (some ⟨w.heap.size + 1 + 1 + 1 + 1 + 1 + 1 + 1 + 1 + 1 + 1 + 1, 0, none⟩) 3 3, .slice (some ⟨w.heap.size + 1 + 1 + 1 + 1 + 1 + 1 + 1 + 1 + 1 + 1 + 1 + 1, 0, none⟩) 3 3] rfl (by decide) (by decide) _ (Nat.le_refl _))
  have HKN := Lib.hid (known (.slice (some ⟨w.heap.size + 1, 0, none⟩) 5 5) (.slice (some ⟨w.heap.size + 1 + 1 + 1 + 1 + 1 + 1 + 1 + 1 + 1 + 1 + 1 + 1 + 1, 0, none⟩) 11 11) [false, false, true, false, true] mSucc sSucc sSucc_ok sSucc_rel (by decide) (by decide) (by decide) (by decide) W1 W1.heap.size HL.out HM.out (Nat.le_refl _))
  clear hWL hb0 hsz0
  go_enter Try.func24, Try.ntmps24
  go_wp2_with fail
  rw [← hW1]
  clear hW1
  refine HKN.out.mono ?_
  rintro e w3 ⟨va3, vn3, rfl, hbu, hb⟩
  have HR3 := Lib.hid (HR.out.step hb)
  have HB3 := Lib.hid (show Built w3 (w.heap.size + 1) va3 vn3 (tidyAcc sSucc) (tidyNext sSucc) from hbu.mono HR.out.lt)
  clear hbu hb HKN
  have hres := HR3.out.res
  obtain ⟨a7, n7, c7, rfl, -⟩ := HB3.out.acc.shape'
  obtain ⟨items7, -, hnx7, -⟩ := HB3.out.rows
  obtain ⟨b7, m7, d7, rfl, -⟩ := hnx7.shape'
  have r0 := cells_get hres 0
  have r1 := cells_get hres 1
  have r2 := cells_get hres 2
  have r3 := cells_get hres 3
  have f0 := cells_free hres 0
  have f1 := cells_free hres 1
  have f2 := cells_free hres 2
  have f3 := cells_free hres 3
  have hlS := HR3.out.lt
  have p0 := cells_set hres 0 (.int .i64 2)
  have p1 := cells_set p0 1 (.int .i64 0)
  have p2 := cells_set p1 2 (.slice a7 n7 c7)
  have p3 := cells_set p2 3 (.slice b7 m7 d7)
  simp at r0 r1 r2 r3 p3
  have g0 := cells_get p3 0
  have g1 := cells_get p3 1
  have g2 := cells_get p3 2
  have g3 := cells_get p3 3
  simp at g0 g1 g2 g3
  have HG := Lib.hid (And.intro g0 (And.intro g1 (And.intro g2 g3)))
  clear p0 p1 p2 p3 g0 g1 g2 g3 hres hnx7
  go_wp2_with fail
  obtain ⟨g0, g1, g2, g3⟩ := HG.out
  refine bodyPost_ret (v := .agg #[.int .i64 2, .int .i64 0, .slice a7 n7 c7, .slice b7 m7 d7]) (by simp [results, Try.results24, go_sem, g0, g1, g2, g3]) rfl ⟨.slice a7 n7 c7, .slice b7 m7 d7, rfl, ?_, ?_⟩
  · exact (((((HB3.out.setLow (a := ⟨w.heap.size, 0, none⟩) (Nat.lt_succ_self _) _).setLow (a := ⟨w.heap.size, 1, none⟩) (Nat.lt_succ_self _) _).setLow (a := ⟨w.heap.size, 2, none⟩) (Nat.lt_succ_self _) _).setLow (a := ⟨w.heap.size, 3, none⟩) (Nat.lt_succ_self _) _).mono (Nat.le_succ_of_le HR3.out.hR))
  · exact ((((HR3.out.base.setCell (p := ⟨w.heap.size, 0, none⟩) HR3.out.hR _).setCell (p := ⟨w.heap.size, 1, none⟩) HR3.out.hR _).setCell (p := ⟨w.heap.size, 2, none⟩) HR3.out.hR _).setCell (p := ⟨w.heap.size, 3, none⟩) HR3.out.hR _)

set_option maxHeartbeats 8000000 in
theorem specLen1 (w : World) : Calls Try.prog 26 #[.int .i64 1] w fun e w' => ∃ va vn, e = .returned (.tuple #[.agg #[.int .i64 2, .int .i64 0, va, vn], .int .i64 0]) ∧ Built w' w.heap.size va vn (tidyAcc sLen1) (tidyNext sLen1) ∧ Below w.heap.size w w' := by
  obtain ⟨W1, hW1⟩ : ∃ W1, W1 = ((((((((((w.alloc (.cells #[Value.int .i64 0, .int .i64 0, .slice none 0 0, .slice none 0 0] 27)).alloc (.cells #[.bool true, .bool false] 4)).alloc (.cells #[.int .i64 0, .int .i64 0, .int .i64 0] 2)).alloc (.cells #[.int .i64 0, .int .i64 1, .int .i64 0] 2)).alloc (.cells #[.int .i64 0, .int .i64 3, .int .i64 0] 2)).alloc (.cells #[.int .i64 0, .int .i64 4, .int .i64 0] 2)).alloc (.cells #[.int .i64 0, .int .i64 2, .int .i64 1] 2)).alloc (.cells #[.int .i64 0, .int .i64 5, .int .i64 1] 2)).alloc (.cells #[.int .i64 1, .int .i64 2, .int .i64 1] 2)).alloc (.cells #[.int .i64 1, .int .i64 5, .int .i64 1] 2)).alloc (.cells #[.slice (some ⟨w.heap.size + 1 + 1, 0, none⟩) 3 3, .slice (some ⟨w.heap.size + 1 + 1 + 1, 0, none⟩) 3 3, .slice (some ⟨w.heap.size + 1 + 1 + 1 + 1, 0, none⟩) 3 3, .slice (some ⟨w.heap.size + 1 + 1 + 1 + 1 + 1, 0, none⟩) 3 3, .slice (some ⟨w.heap.size + 1 + 1 + 1 + 1 + 1 + 1, 0, none⟩) 3 3, .slice (some ⟨w.heap.size + 1 + 1 + 1 + 1 + 1 + 1 + 1, 0, none⟩) 3 3, .slice (some ⟨w.heap.size + 1 + 1 + 1 + 1 + 1 + 1 + 1 + 1, 0, none⟩) 3 3, .slice (some ⟨w.heap.size + 1 + 1 + 1 + 1 + 1 + 1 + 1 + 1 + 1, 0, none⟩) 3 3] 49) := ⟨_, rfl⟩
  have hWL : W1 = (layRows 2 ((w.alloc (.cells #[Value.int .i64 0, .int .i64 0, .slice none 0 0, .slice none 0 0] 27)).alloc (.cells #[.bool true, .bool false] 4)) mLen1).alloc (.cells #[.slice (some ⟨w.heap.size + 1 + 1, 0, none⟩) 3 3, .slice (some ⟨w.heap.size + 1 + 1 + 1, 0, none⟩) 3 3, .slice (some ⟨w.heap.size + 1 + 1 + 1 + 1, 0, none⟩) 3 3, .slice (some ⟨w.heap.size + 1 + 1 + 1 + 1 + 1, 0, none⟩) 3 3, .slice (some ⟨w.heap.size + 1 + 1 + 1 + 1 + 1 + 1, 0, none⟩) 3 3, .slice (some ⟨w.heap.size + 1 + 1 + 1 + 1 + 1 + 1 + 1, 0, none⟩) 3 3, .slice (some ⟨w.heap.size + 1 + 1 + 1 + 1 + 1 + 1 + 1 + 1, 0, none⟩) 3 3, .slice (some ⟨w.heap.size + 1 + 1 + 1 + 1 + 1 + 1 + 1 + 1 + 1, 0, none⟩) 3 3] 49) := by rw [hW1]; rfl
  have hb0 : Below ((w.alloc (.cells #[Value.int .i64 0, .int .i64 0, .slice none 0 0, .slice none 0 0] 27)).alloc (.cells #[.bool true, .bool false] 4)).heap.size ((w.alloc (.cells #[Value.int .i64 0, .int .i64 0, .slice none 0 0, .slice none 0 0] 27)).alloc (.cells #[.bool true, .bool false] 4)) W1 := by rw [hWL]; exact base_box (layRows_below _ _ _) _
  have hsz0 : ((w.alloc (.cells #[Value.int .i64 0, .int .i64 0, .slice none 0 0, .slice none 0 0] 27)).alloc (.cells #[.bool true, .bool false] 4)).heap.size = w.heap.size + 1 + 1 := by rw [size_alloc', size_alloc']
  have HR := Lib.hid (show Res0 w w.heap.size W1 from ((Res0.new (Below.refl _ _)).alloc _).step hb0)
  have HL := Lib.hid (show Bools W1 W1.heap.size (.slice (some ⟨w.heap.size + 1, 0, none⟩) 2 2) [true, false] from by
    have := Lst.lit (w.alloc (.cells #[Value.int .i64 0, .int .i64 0, .slice none 0 0, .slice none 0 0] 27)) (w.heap.size + 1) 4 #[.bool true, .bool false] (by simp) (by decide)
    rw [size_alloc'] at this
    exact lst_bools (xs := [true, false]) (Lst.below this hb0) _ (Nat.le_refl _))
  have HM := Lib.hid (show IntRows W1 W1.heap.size (.slice (some ⟨w.heap.size + 1 + 1 + 1 + 1 + 1 + 1 + 1 + 1 + 1 + 1, 0, none⟩) 8 8) mLen1 from by
    rw [hWL]
    exact rows_lit ((w.alloc (.cells #[Value.int .i64 0, .int .i64 0, .slice none 0 0, .slice none 0 0] 27)).alloc (.cells #[.bool true, .bool false] 4)) mLen1 (w.heap.size + 1 + 1) hsz0 2 49 #[.slice (some ⟨w.heap.size + 1 + 1, 0, none⟩) 3 3, .slice (some ⟨w.heap.size + 1 + 1 + 1, 0, none⟩) 3 3, .slice (some ⟨w.heap.size + 1 + 1 + 1 + 1, 0, none⟩) 3 3, .slice (some ⟨w.heap.size + 1 + 1 + 1 + 1 + 1, 0, none⟩) 3 3, .slice (some ⟨w.heap.size + 1 + 1 + 1 + 1 + 1 + 1, 0, none⟩) 3 3, .slice (some ⟨w.heap.size + 1 + 1 + 1 + 1 + 1 + 1 + 1, 0, none⟩) 3 3, .slice (some ⟨w.heap.size + 1 + 1 + 1 + 1 + 1 + 1 + 1 + 1, 0, none⟩) 3 3, .slice (some ⟨w.heap.size + 1 + 1 + 1 + 1 + 1 + 1 + 1 + 1 + 1, 0, none⟩) 3 3] rfl (by decide) (by decide) _ (Nat.le_refl _))
  have HKN := Lib.hid (known (.slice (some ⟨w.heap.size + 1, 0, none⟩) 2 2) (.slice (some ⟨w.heap.size + 1 + 1 + 1 + 1 + 1 + 1 + 1 + 1 + 1 + 1, 0, none⟩) 8 8) [true, false] mLen1 sLen1 sLen1_ok sLen1_rel (by decide) (by decide) (by decide) (by decide) W1 W1.heap.size HL.out HM.out (Nat.le_refl _))
  clear hWL hb0 hsz0
  have HIN := Lib.hid (fun W => show Calls Try.prog 54 #[.int .i64 1, .int .i64 1, .int .i64 3] W fun e w' => e = .returned (.bool true) ∧ W = w' from inRange 1 1 3 W)
  go_enter Try.func26, Try.ntmps26
  go_wp2_with (go_at_call 54; refine (HIN.out _).mono ?_; rintro e w' ⟨rfl, rfl⟩)
  rw [← hW1]
  clear hW1
  refine HKN.out.mono ?_
  rintro e w3 ⟨va3, vn3, rfl, hbu, hb⟩
  have HR3 := Lib.hid (HR.out.step hb)
  have HB3 := Lib.hid (show Built w3 (w.heap.size + 1) va3 vn3 (tidyAcc sLen1) (tidyNext sLen1) from hbu.mono HR.out.lt)
  clear hbu hb HKN
  have hres := HR3.out.res
  obtain ⟨a7, n7, c7, rfl, -⟩ := HB3.out.acc.shape'
  obtain ⟨items7, -, hnx7, -⟩ := HB3.out.rows
  obtain ⟨b7, m7, d7, rfl, -⟩ := hnx7.shape'
  have r0 := cells_get hres 0
  have r1 := cells_get hres 1
  have r2 := cells_get hres 2
  have r3 := cells_get hres 3
  have f0 := cells_free hres 0
  have f1 := cells_free hres 1
  have f2 := cells_free hres 2
  have f3 := cells_free hres 3
  have hlS := HR3.out.lt
  have p0 := cells_set hres 0 (.int .i64 2)
  have p1 := cells_set p0 1 (.int .i64 0)
  have p2 := cells_set p1 2 (.slice a7 n7 c7)
  have p3 := cells_set p2 3 (.slice b7 m7 d7)
  simp at r0 r1 r2 r3 p3
  have g0 := cells_get p3 0
  have g1 := cells_get p3 1
  have g2 := cells_get p3 2
  have g3 := cells_get p3 3
  simp at g0 g1 g2 g3
  have HG := Lib.hid (And.intro g0 (And.intro g1 (And.intro g2 g3)))
  clear p0 p1 p2 p3 g0 g1 g2 g3 hres hnx7
  go_wp2_with fail
  obtain ⟨g0, g1, g2, g3⟩ := HG.out
  refine bodyPost_ret (v := .tuple #[.agg #[.int .i64 2, .int .i64 0, .slice a7 n7 c7, .slice b7 m7 d7], .int .i64 0]) (by simp [results, Try.results26, go_sem, g0, g1, g2, g3]) rfl ⟨.slice a7 n7 c7, .slice b7 m7 d7, rfl, ?_, ?_⟩
  · exact (((((HB3.out.setLow (a := ⟨w.heap.size, 0, none⟩) (Nat.lt_succ_self _) _).setLow (a := ⟨w.heap.size, 1, none⟩) (Nat.lt_succ_self _) _).setLow (a := ⟨w.heap.size, 2, none⟩) (Nat.lt_succ_self _) _).setLow (a := ⟨w.heap.size, 3, none⟩) (Nat.lt_succ_self _) _).mono (Nat.le_succ_of_le HR3.out.hR))
  · exact ((((HR3.out.base.setCell (p := ⟨w.heap.size, 0, none⟩) HR3.out.hR _).setCell (p := ⟨w.heap.size, 1, none⟩) HR3.out.hR _).setCell (p := ⟨w.heap.size, 2, none⟩) HR3.out.hR _).setCell (p := ⟨w.heap.size, 3, none⟩) HR3.out.hR _)

set_option maxHeartbeats 8000000 in
theorem specLen2 (w : World) : Calls Try.prog 26 #[.int .i64 2] w fun e w' => ∃ va vn, e = .returned (.tuple #[.agg #[.int .i64 2, .int .i64 0, va, vn], .int .i64 0]) ∧ Built w' w.heap.size va vn (tidyAcc sLen2) (tidyNext sLen2) ∧ Below w.heap.size w w' := by
  obtain ⟨W1, hW1⟩ : ∃ W1, W1 = ((((((((((w.alloc (.cells #[Value.int .i64 0, .int .i64 0, .slice none 0 0, .slice none 0 0] 27)).alloc (.cells #[.bool false, .bool true] 4)).alloc (.cells #[.int .i64 0, .int .i64 0, .int .i64 0] 2)).alloc (.cells #[.int .i64 0, .int .i64 1, .int .i64 0] 2)).alloc (.cells #[.int .i64 0, .int .i64 3, .int .i64 0] 2)).alloc (.cells #[.int .i64 0, .int .i64 4, .int .i64 0] 2)).alloc (.cells #[.int .i64 0, .int .i64 2, .int .i64 1] 2)).alloc (.cells #[.int .i64 0, .int .i64 5, .int .i64 1] 2)).alloc (.cells #[.int .i64 1, .int .i64 2, .int .i64 1] 2)).alloc (.cells #[.int .i64 1, .int .i64 5, .int .i64 1] 2)).alloc (.cells #[.slice (some ⟨w.heap.size + 1 + 1, 0, none⟩) 3 3, .slice (some ⟨w.heap.size + 1 + 1 + 1, 0, none⟩) 3 3, .slice (some ⟨w.heap.size + 1 + 1 + 1 + 1, 0, none⟩) 3 3, .slice (some ⟨w.heap.size + 1 + 1 + 1 + 1 + 1, 0, none⟩) 3 3, .slice (some ⟨w.heap.size + 1 + 1 + 1 + 1 + 1 + 1, 0, none⟩) 3 3, .slice (some ⟨w.heap.size + 1 + 1 + 1 + 1 + 1 + 1 + 1, 0, none⟩) 3 3, .slice (some ⟨w.heap.size + 1 + 1 + 1 + 1 + 1 + 1 + 1 + 1, 0, none⟩) 3 3, .slice (some ⟨w.heap.size + 1 + 1 + 1 + 1 + 1 + 1 + 1 + 1 + 1, 0, none⟩) 3 3] 49) := ⟨_, rfl⟩
  have hWL : W1 = (layRows 2 ((w.alloc (.cells #[Value.int .i64 0, .int .i64 0, .slice none 0 0, .slice none 0 0] 27)).alloc (.cells #[.bool false, .bool true] 4)) mLen1).alloc (.cells #[.slice (some ⟨w.heap.size + 1 + 1, 0, none⟩) 3 3, .slice (some ⟨w.heap.size + 1 + 1 + 1, 0, none⟩) 3 3, .slice (some ⟨w.heap.size + 1 + 1 + 1 + 1, 0, none⟩) 3 3, .slice (some ⟨w.heap.size + 1 + 1 + 1 + 1 + 1, 0, none⟩) 3 3, .slice (some ⟨w.heap.size + 1 + 1 + 1 + 1 + 1 + 1, 0, none⟩) 3 3, .slice (some ⟨w.heap.size + 1 + 1 + 1 + 1 + 1 + 1 + 1, 0, none⟩) 3 3, .slice (some ⟨w.heap.size + 1 + 1 + 1 + 1 + 1 + 1 + 1 + 1, 0, none⟩) 3 3, .slice (some ⟨w.heap.size + 1 + 1 + 1 + 1 + 1 + 1 + 1 + 1 + 1, 0, none⟩) 3 3] 49) := by rw [hW1]; rfl
  have hb0 : Below ((w.alloc (.cells #[Value.int .i64 0, .int .i64 0, .slice none 0 0, .slice none 0 0] 27)).alloc (.cells #[.bool false, .bool true] 4)).heap.size ((w.alloc (.cells #[Value.int .i64 0, .int .i64 0, .slice none 0 0, .slice none 0 0] 27)).alloc (.cells #[.bool false, .bool true] 4)) W1 := by rw [hWL]; exact base_box (layRows_below _ _ _) _
  have hsz0 : ((w.alloc (.cells #[Value.int .i64 0, .int .i64 0, .slice none 0 0, .slice none 0 0] 27)).alloc (.cells #[.bool false, .bool true] 4)).heap.size = w.heap.size + 1 + 1 := by rw [size_alloc', size_alloc']
  have HR := Lib.hid (show Res0 w w.heap.size W1 from ((Res0.new (Below.refl _ _)).alloc _).step hb0)
  have HL := Lib.hid (show Bools W1 W1.heap.size (.slice (some ⟨w.heap.size + 1, 0, none⟩) 2 2) [false, true] from by
    have := Lst.lit (w.alloc (.cells #[Value.int .i64 0, .int .i64 0, .slice none 0 0, .slice none 0 0] 27)) (w.heap.size + 1) 4 #[.bool false, .bool true] (by simp) (by decide)
    rw [size_alloc'] at this
    exact lst_bools (xs := [false, true]) (Lst.below this hb0) _ (Nat.le_refl _))
  have HM := Lib.hid (show IntRows W1 W1.heap.size (.slice (some ⟨w.heap.size + 1 + 1 + 1 + 1 + 1 + 1 + 1 + 1 + 1 + 1, 0, none⟩) 8 8) mLen1 from by
    rw [hWL]
    exact rows_lit ((w.alloc (.cells #[Value.int .i64 0, .int .i64 0, .slice none 0 0, .slice none 0 0] 27)).alloc (.cells #[.bool false, .bool true] 4)) mLen1 (w.heap.size + 1 + 1) hsz0 2 49 #[.slice (some ⟨w.heap.size + 1 + 1, 0, none⟩) 3 3, .slice (some ⟨w.heap.size + 1 + 1 + 1, 0, none⟩) 3 3, .slice (some ⟨w.heap.size + 1 + 1 + 1 + 1, 0, none⟩) 3 3, .slice (some ⟨w.heap.size + 1 + 1 + 1 + 1 + 1, 0, none⟩) 3 3, .slice (some ⟨w.heap.size + 1 + 1 + 1 + 1 + 1 + 1, 0, none⟩) 3 3, .slice (some ⟨w.heap.size + 1 + 1 + 1 + 1 + 1 + 1 + 1, 0, none⟩) 3 3, .slice (some ⟨w.heap.size + 1 + 1 + 1 + 1 + 1 + 1 + 1 + 1, 0, none⟩) 3 3, .slice (some ⟨w.heap.size + 1 + 1 + 1 + 1 + 1 + 1 + 1 + 1 + 1, 0, none⟩) 3 3] rfl (by decide) (by decide) _ (Nat.le_refl _))
  have HKN := Lib.hid (known (.slice (some ⟨w.heap.size + 1, 0, none⟩) 2 2) (.slice (some ⟨w.heap.size + 1 + 1 + 1 + 1 + 1 + 1 + 1 + 1 + 1 + 1, 0, none⟩) 8 8) [false, true] mLen1 sLen2 sLen2_ok sLen2_rel (by decide) (by decide) (by decide) (by decide) W1 W1.heap.size HL.out HM.out (Nat.le_refl _))
  clear hWL hb0 hsz0
  have HIN := Lib.hid (fun W => show Calls Try.prog 54 #[.int .i64 2, .int .i64 1, .int .i64 3] W fun e w' => e = .returned (.bool true) ∧ W = w' from inRange 2 1 3 W)
  go_enter Try.func26, Try.ntmps26
  go_wp2_with (go_at_call 54; refine (HIN.out _).mono ?_; rintro e w' ⟨rfl, rfl⟩)
  rw [← hW1]
  clear hW1
  refine HKN.out.mono ?_
  rintro e w3 ⟨va3, vn3, rfl, hbu, hb⟩
  have HR3 := Lib.hid (HR.out.step hb)
  have HB3 := Lib.hid (show Built w3 (w.heap.size + 1) va3 vn3 (tidyAcc sLen2) (tidyNext sLen2) from hbu.mono HR.out.lt)
  clear hbu hb HKN
  have hres := HR3.out.res
  obtain ⟨a7, n7, c7, rfl, -⟩ := HB3.out.acc.shape'
  obtain ⟨items7, -, hnx7, -⟩ := HB3.out.rows
  obtain ⟨b7, m7, d7, rfl, -⟩ := hnx7.shape'
  have r0 := cells_get hres 0
  have r1 := cells_get hres 1
  have r2 := cells_get hres 2
  have r3 := cells_get hres 3
  have f0 := cells_free hres 0
  have f1 := cells_free hres 1
  have f2 := cells_free hres 2
  have f3 := cells_free hres 3
  have hlS := HR3.out.lt
  have p0 := cells_set hres 0 (.int .i64 2)
  have p1 := cells_set p0 1 (.int .i64 0)
  have p2 := cells_set p1 2 (.slice a7 n7 c7)
  have p3 := cells_set p2 3 (.slice b7 m7 d7)
  simp at r0 r1 r2 r3 p3
  have g0 := cells_get p3 0
  have g1 := cells_get p3 1
  have g2 := cells_get p3 2
  have g3 := cells_get p3 3
  simp at g0 g1 g2 g3
  have HG := Lib.hid (And.intro g0 (And.intro g1 (And.intro g2 g3)))
  clear p0 p1 p2 p3 g0 g1 g2 g3 hres hnx7
  go_wp2_with fail
  obtain ⟨g0, g1, g2, g3⟩ := HG.out
  refine bodyPost_ret (v := .tuple #[.agg #[.int .i64 2, .int .i64 0, .slice a7 n7 c7, .slice b7 m7 d7], .int .i64 0]) (by simp [results, Try.results26, go_sem, g0, g1, g2, g3]) rfl ⟨.slice a7 n7 c7, .slice b7 m7 d7, rfl, ?_, ?_⟩
  · exact (((((HB3.out.setLow (a := ⟨w.heap.size, 0, none⟩) (Nat.lt_succ_self _) _).setLow (a := ⟨w.heap.size, 1, none⟩) (Nat.lt_succ_self _) _).setLow (a := ⟨w.heap.size, 2, none⟩) (Nat.lt_succ_self _) _).setLow (a := ⟨w.heap.size, 3, none⟩) (Nat.lt_succ_self _) _).mono (Nat.le_succ_of_le HR3.out.hR))
  · exact ((((HR3.out.base.setCell (p := ⟨w.heap.size, 0, none⟩) HR3.out.hR _).setCell (p := ⟨w.heap.size, 1, none⟩) HR3.out.hR _).setCell (p := ⟨w.heap.size, 2, none⟩) HR3.out.hR _).setCell (p := ⟨w.heap.size, 3, none⟩) HR3.out.hR _)

set_option maxHeartbeats 8000000 in
theorem specLen3 (w : World) : Calls Try.prog 26 #[.int .i64 3] w fun e w' => ∃ va vn, e = .returned (.tuple #[.agg #[.int .i64 2, .int .i64 0, va, vn], .int .i64 0]) ∧ Built w' w.heap.size va vn (tidyAcc sLen3) (tidyNext sLen3) ∧ Below w.heap.size w w' := by
  obtain ⟨W1, hW1⟩ : ∃ W1, W1 = ((((((((((w.alloc (.cells #[Value.int .i64 0, .int .i64 0, .slice none 0 0, .slice none 0 0] 27)).alloc (.cells #[.bool true, .bool true] 4)).alloc (.cells #[.int .i64 0, .int .i64 0, .int .i64 0] 2)).alloc (.cells #[.int .i64 0, .int .i64 1, .int .i64 0] 2)).alloc (.cells #[.int .i64 0, .int .i64 3, .int .i64 0] 2)).alloc (.cells #[.int .i64 0, .int .i64 4, .int .i64 0] 2)).alloc (.cells #[.int .i64 0, .int .i64 2, .int .i64 1] 2)).alloc (.cells #[.int .i64 0, .int .i64 5, .int .i64 1] 2)).alloc (.cells #[.int .i64 1, .int .i64 2, .int .i64 1] 2)).alloc (.cells #[.int .i64 1, .int .i64 5, .int .i64 1] 2)).alloc (.cells #[.slice (some ⟨w.heap.size + 1 + 1, 0, none⟩) 3 3, .slice (some ⟨w.heap.size + 1 + 1 + 1, 0, none⟩) 3 3, .slice (some ⟨w.heap.size + 1 + 1 + 1 + 1, 0, none⟩) 3 3, .slice (some ⟨w.heap.size + 1 + 1 + 1 + 1 + 1, 0, none⟩) 3 3, .slice (some ⟨w.heap.size + 1 + 1 + 1 + 1 + 1 + 1, 0, none⟩) 3 3, .slice (some ⟨w.heap.size + 1 + 1 + 1 + 1 + 1 + 1 + 1, 0, none⟩) 3 3, .slice (some ⟨w.heap.size + 1 + 1 + 1 + 1 + 1 + 1 + 1 + 1, 0, none⟩) 3 3, .slice (some ⟨w.heap.size + 1 + 1 + 1 + 1 + 1 + 1 + 1 + 1 + 1, 0, none⟩) 3 3] 49) := ⟨_, rfl⟩
  have hWL : W1 = (layRows 2 ((w.alloc (.cells #[Value.int .i64 0, .int .i64 0, .slice none 0 0, .slice none 0 0] 27)).alloc (.cells #[.bool true, .bool true] 4)) mLen1).alloc (.cells #[.slice (some ⟨w.heap.size + 1 + 1, 0, none⟩) 3 3, .slice (some ⟨w.heap.size + 1 + 1 + 1, 0, none⟩) 3 3, .slice (some ⟨w.heap.size + 1 + 1 + 1 + 1, 0, none⟩) 3 3, .slice (some ⟨w.heap.size + 1 + 1 + 1 + 1 + 1, 0, none⟩) 3 3, .slice (some ⟨w.heap.size + 1 + 1 + 1 + 1 + 1 + 1, 0, none⟩) 3 3, .slice (some ⟨w.heap.size + 1 + 1 + 1 + 1 + 1 + 1 + 1, 0, none⟩) 3 3, .slice (some ⟨w.heap.size + 1 + 1 + 1 + 1 + 1 + 1 + 1 + 1, 0, none⟩) 3 3, .slice (some ⟨w.heap.size + 1 + 1 + 1 + 1 + 1 + 1 + 1 + 1 + 1, 0, none⟩) 3 3] 49) := by rw [hW1]; rfl
  have hb0 : Below ((w.alloc (.cells #[Value.int .i64 0, .int .i64 0, .slice none 0 0, .slice none 0 0] 27)).alloc (.cells #[.bool true, .bool true] 4)).heap.size ((w.alloc (.cells #[Value.int .i64 0, .int .i64 0, .slice none 0 0, .slice none 0 0] 27)).alloc (.cells #[.bool true, .bool true] 4)) W1 := by rw [hWL]; exact base_box (layRows_below _ _ _) _
  have hsz0 : ((w.alloc (.cells #[Value.int .i64 0, .int .i64 0, .slice none 0 0, .slice none 0 0] 27)).alloc (.cells #[.bool true, .bool true] 4)).heap.size = w.heap.size + 1 + 1 := by rw [size_alloc', size_alloc']
  have HR := Lib.hid (show Res0 w w.heap.size W1 from ((Res0.new (Below.refl _ _)).alloc _).step hb0)
  have HL := Lib.hid (show Bools W1 W1.heap.size (.slice (some ⟨w.heap.size + 1, 0, none⟩) 2 2) [true, true] from by
    have := Lst.lit (w.alloc (.cells #[Value.int .i64 0, .int .i64 0, .slice none 0 0, .slice none 0 0] 27)) (w.heap.size + 1) 4 #[.bool true, .bool true] (by simp) (by decide)
    rw [size_alloc'] at this
    exact lst_bools (xs := [true, true]) (Lst.below this hb0) _ (Nat.le_refl _))
  have HM := Lib.hid (show IntRows W1 W1.heap.size (.slice (some ⟨w.heap.size + 1 + 1 + 1 + 1 + 1 + 1 + 1 + 1 + 1 + 1, 0, none⟩) 8 8) mLen1 from by
    rw [hWL]
    exact rows_lit ((w.alloc (.cells #[Value.int .i64 0, .int .i64 0, .slice none 0 0, .slice none 0 0] 27)).alloc (.cells #[.bool true, .bool true] 4)) mLen1 (w.heap.size + 1 + 1) hsz0 2 49 #[.slice (some ⟨w.heap.size + 1 + 1, 0, none⟩) 3 3, .slice (some ⟨w.heap.size + 1 + 1 + 1, 0, none⟩) 3 3, .slice (some ⟨w.heap.size + 1 + 1 + 1 + 1, 0, none⟩) 3 3, .slice (some ⟨w.heap.size + 1 + 1 + 1 + 1 + 1, 0, none⟩) 3 3, .slice (some ⟨w.heap.size + 1 + 1 + 1 + 1 + 1 + 1, 0, none⟩) 3 3, .slice (some ⟨w.heap.size + 1 + 1 + 1 + 1 + 1 + 1 + 1, 0, none⟩) 3 3, .slice (some ⟨w.heap.size + 1 + 1 + 1 + 1 + 1 + 1 + 1 + 1, 0, none⟩) 3 3, .slice (some ⟨w.heap.size + 1 + 1 + 1 + 1 + 1 + 1 + 1 + 1 + 1, 0, none⟩) 3 3] rfl (by decide) (by decide) _ (Nat.le_refl _))
  have HKN := Lib.hid (known (.slice (some ⟨w.heap.size + 1, 0, none⟩) 2 2) (.slice (some ⟨w.heap.size + 1 + 1 + 1 + 1 + 1 + 1 + 1 + 1 + 1 + 1, 0, none⟩) 8 8) [true, true] mLen1 sLen3 sLen3_ok sLen3_rel (by decide) (by decide) (by decide) (by decide) W1 W1.heap.size HL.out HM.out (Nat.le_refl _))
  clear hWL hb0 hsz0
  have HIN := Lib.hid (fun W => show Calls Try.prog 54 #[.int .i64 3, .int .i64 1, .int .i64 3] W fun e w' => e = .returned (.bool true) ∧ W = w' from inRange 3 1 3 W)
  go_enter Try.func26, Try.ntmps26
  go_wp2_with (go_at_call 54; refine (HIN.out _).mono ?_; rintro e w' ⟨rfl, rfl⟩)
  rw [← hW1]
  clear hW1
  refine HKN.out.mono ?_
  rintro e w3 ⟨va3, vn3, rfl, hbu, hb⟩
  have HR3 := Lib.hid (HR.out.step hb)
  have HB3 := Lib.hid (show Built w3 (w.heap.size + 1) va3 vn3 (tidyAcc sLen3) (tidyNext sLen3) from hbu.mono HR.out.lt)
  clear hbu hb HKN
  have hres := HR3.out.res
  obtain ⟨a7, n7, c7, rfl, -⟩ := HB3.out.acc.shape'
  obtain ⟨items7, -, hnx7, -⟩ := HB3.out.rows
  obtain ⟨b7, m7, d7, rfl, -⟩ := hnx7.shape'
  have r0 := cells_get hres 0
  have r1 := cells_get hres 1
  have r2 := cells_get hres 2
  have r3 := cells_get hres 3
  have f0 := cells_free hres 0
  have f1 := cells_free hres 1
  have f2 := cells_free hres 2
  have f3 := cells_free hres 3
  have hlS := HR3.out.lt
  have p0 := cells_set hres 0 (.int .i64 2)
  have p1 := cells_set p0 1 (.int .i64 0)
  have p2 := cells_set p1 2 (.slice a7 n7 c7)
  have p3 := cells_set p2 3 (.slice b7 m7 d7)
  simp at r0 r1 r2 r3 p3
  have g0 := cells_get p3 0
  have g1 := cells_get p3 1
  have g2 := cells_get p3 2
  have g3 := cells_get p3 3
  simp at g0 g1 g2 g3
  have HG := Lib.hid (And.intro g0 (And.intro g1 (And.intro g2 g3)))
  clear p0 p1 p2 p3 g0 g1 g2 g3 hres hnx7
  go_wp2_with fail
  obtain ⟨g0, g1, g2, g3⟩ := HG.out
  refine bodyPost_ret (v := .tuple #[.agg #[.int .i64 2, .int .i64 0, .slice a7 n7 c7, .slice b7 m7 d7], .int .i64 0]) (by simp [results, Try.results26, go_sem, g0, g1, g2, g3]) rfl ⟨.slice a7 n7 c7, .slice b7 m7 d7, rfl, ?_, ?_⟩
  · exact (((((HB3.out.setLow (a := ⟨w.heap.size, 0, none⟩) (Nat.lt_succ_self _) _).setLow (a := ⟨w.heap.size, 1, none⟩) (Nat.lt_succ_self _) _).setLow (a := ⟨w.heap.size, 2, none⟩) (Nat.lt_succ_self _) _).setLow (a := ⟨w.heap.size, 3, none⟩) (Nat.lt_succ_self _) _).mono (Nat.le_succ_of_le HR3.out.hR))
  · exact ((((HR3.out.base.setCell (p := ⟨w.heap.size, 0, none⟩) HR3.out.hR _).setCell (p := ⟨w.heap.size, 1, none⟩) HR3.out.hR _).setCell (p := ⟨w.heap.size, 2, none⟩) HR3.out.hR _).setCell (p := ⟨w.heap.size, 3, none⟩) HR3.out.hR _)

end Go.Proofs.Ytpdplfgljjkjbaa.ClosedSpecs
/- What the model's functions for the known relations hand back: all tuples; numbers that are none.
   Conditions: stated at each theorem. -/
namespace Go.Proofs.Ytpdplfgljjkjbaa.ClosedSpecs2
set_option linter.unusedVariables false
set_option linter.unusedSimpArgs false
set_option maxRecDepth 100000
open Go.RowKit Mem Copy Rel Valid Heap Push Bld ColMath Columns Numbers ToL TidyAuto TidyRight SpecRight SpecTidyRel ImplRight Automaton Known Sim ResKit Closed ClosedImpl
open SpecTidied ClosedRels

set_option maxHeartbeats 8000000 in
theorem specLenBad (n : Int) (h : n < 1 ∨ 3 < n) (w : World) : Calls Try.prog 26 #[.int .i64 n] w fun e w' => e = .returned (.tuple #[.agg #[.int .i64 0, .int .i64 0, .slice none 0 0, .slice none 0 0], .int .i64 2]) ∧ Below w.heap.size w w' := by
  have HV := Lib.hid (fun W => by
    have h1 := inRange n 1 3 W
    rw [inB_no n 1 3 h] at h1
    exact h1)
  go_enter Try.func26, Try.ntmps26
  go_wp2_with (go_at_call 54; refine (HV.out _).mono ?_; rintro e w' ⟨rfl, rfl⟩)
  exact bodyPost_ret (v := .tuple #[.agg #[.int .i64 0, .int .i64 0, .slice none 0 0, .slice none 0 0], .int .i64 2]) (by simp [results, Try.results26, go_sem]) rfl ⟨rfl, (Below.refl _ _).alloc (Nat.le_refl _) _⟩

set_option maxHeartbeats 8000000 in
theorem specAllBad (n : Int) (h : n < 1 ∨ 3 < n) (w : World) : Calls Try.prog 28 #[.int .i64 n] w fun e w' => e = .returned (.tuple #[.agg #[.int .i64 0, .int .i64 0, .slice none 0 0, .slice none 0 0], .int .i64 2]) ∧ Below w.heap.size w w' := by
  have HV := Lib.hid (fun W => by
    have h1 := inRange n 1 3 W
    rw [inB_no n 1 3 h] at h1
    exact h1)
  go_enter Try.func28, Try.ntmps28
  go_wp2_with (go_at_call 54; refine (HV.out _).mono ?_; rintro e w' ⟨rfl, rfl⟩)
  exact bodyPost_ret (v := .tuple #[.agg #[.int .i64 0, .int .i64 0, .slice none 0 0, .slice none 0 0], .int .i64 2]) (by simp [results, Try.results28, go_sem]) rfl ⟨rfl, (Below.refl _ _).alloc (Nat.le_refl _) _⟩

theorem rAll_eq (k : Nat) : rAll k = ⟨k, 0, [true], [(List.range (wide k)).map fun _ => 0]⟩ := rfl
set_option maxHeartbeats 8000000 in
theorem specAll (k : Nat) (h1 : 1 ≤ k) (h3 : k ≤ 3) (w : World) : Calls Try.prog 28 #[.int .i64 k] w fun e w' => ∃ va vn, e = .returned (.tuple #[.agg #[.int .i64 k, .int .i64 0, va, vn], .int .i64 0]) ∧ Built w' w.heap.size va vn (tidyAcc (lAll k)) (tidyNext (lAll k)) ∧ Below w.heap.size w w' := by
  have HV := Lib.hid (fun W => by
    have e1 := inRange (k : Int) 1 3 W
    have e2 : inB (k : Int) 1 3 = true := by unfold inB; rw [decide_eq_true_iff]; omega
    rw [e2] at e1
    exact e1)
  have hcnt := wideAny (k : Int) (by omega) (by omega)
  have hwk : widthOf (k : Int) = ((wide k : Nat) : Int) := by
    have : k = 1 ∨ k = 2 ∨ k = 3 := by omega
    rcases this with rfl | rfl | rfl <;> rfl
  rw [hwk] at hcnt
  have hw26 : wide k ≤ 26 := by have := wide_cases h1 h3; omega
  have HRE := Lib.hid (show relOf (lAll k) = ⟨k, 0, [true], [(List.range (wide k)).map fun _ => 0]⟩ from (rAll_rel k h1 h3).trans (rAll_eq k))
  have HTD := Lib.hid (fun bp W h hbp => by
    have := SpecTidied.tidied (lAll k) (iAll_ok k h1 h3) bp W W.heap.size h (Nat.le_refl _) hbp (by show 1 ≤ 100000; omega)
    rw [show (lAll k).k = k from rfl] at this
    exact this)
  have HC := Lib.hid hcnt
  obtain ⟨m, hm⟩ : ∃ m, m = wide k := ⟨_, rfl⟩
  rw [← hm] at HC hw26 HRE
  clear hcnt hwk hm h1 h3
  have HL0 := Lib.hid (show Lst ((w.alloc (.cells #[Value.int .i64 0, .int .i64 0, .slice none 0 0, .slice none 0 0] 27)).alloc (.cells #[] 2)) (w.heap.size + 1) 2 (.slice (some ⟨w.heap.size + 1, 0, none⟩) 0 0) (tv 0 fun _ => 0) from by
    have := Lst.empty (w.alloc (.cells #[Value.int .i64 0, .int .i64 0, .slice none 0 0, .slice none 0 0] 27)) (w.heap.size + 1) 2 (by simp)
    rwa [size_alloc'] at this)
  have HK0 := Lib.hid (show Kp w ((w.alloc (.cells #[Value.int .i64 0, .int .i64 0, .slice none 0 0, .slice none 0 0] 27)).alloc (.cells #[] 2)) from (Below.refl _ _).alloc (by simp) _)
  go_enter Try.func28, Try.ntmps28
  go_wp2_with (go_at_call 54; refine (HV.out _).mono ?_; rintro e w' ⟨rfl, rfl⟩)
  go_loopw [4, 5] (fun s4 s5 wr => ∃ (c : Nat) (a : Option Addr) (cp : Nat), c ≤ m ∧ s5 = .int .i64 c ∧ s4 = .slice a c cp ∧ Lst wr (w.heap.size + 1) 2 (.slice a c cp) (tv c fun _ => 0) ∧ Kp w wr) (fun _ s5 _ => m - (intOf s5).toNat)
  case atStart => exact ⟨0, _, _, Nat.zero_le _, rfl, rfl, HL0.out, HK0.out⟩
  case round =>
    obtain ⟨c, a, cp, hc, rfl, rfl, hl, hk⟩ := hrel
    have HL := Lib.hid hl
    have HK := Lib.hid hk
    have HS := Lib.hid (Kp.size hk)
    clear hl hk HL0 HK0
    by_cases hlc : c < m
    · go_wp2_with (first
        | (go_at_call 56; refine (HC.out _).mono ?_; rintro e w' ⟨rfl, rfl⟩)
        | (at_builtin; refine wpList_push rfl _ _ 49 rfl 2 (.int .i64 0) 8 Try.underlying49 info2 (by decide) (by decide) (w.heap.size + 1) (.slice a c cp) _ (.int .i64 0) HL.out HS.out rfl (by rw [tv_length]; omega) rfl _ rfl rfl ?_; intro v5 w5 hp5; obtain ⟨a5, n5, cp5, rfl, HN5⟩ := hp5.lst.shape'; have HL5 := Lib.hid hp5.lst; have HK5 := Lib.hid (Below.grown HK.out hp5.grow HS.out (fun q hq => HL.out.ge hq)); clear hp5))
      go_roundw
      case rel =>
        have h5 : n5 = c + 1 := by rw [HN5.out, List.length_append, tv_length]; rfl
        subst h5
        have h1 := HL5.out
        rw [tv_snoc c (fun _ => 0)] at h1
        exact ⟨c + 1, _, _, hlc, by go_num, rfl, h1, HK5.out⟩
      case measure => simp [intOf]; omega
    · obtain rfl : c = m := by omega
      obtain ⟨X, hX⟩ : ∃ X, X = wr.heap.size := ⟨_, rfl⟩
      obtain ⟨W2, hW2⟩ : ∃ W2, W2 = (wr.alloc (.cells #[.bool true] 4)).alloc (.cells #[.slice a c cp] 49) := ⟨_, rfl⟩
      have hbW : Below wr.heap.size wr W2 := by rw [hW2]; exact base_box (base_box (Below.refl _ _) _) _
      have HBU : Built W2 (w.heap.size + 1) (.slice (some ⟨X, 0, none⟩) 1 1) (.slice (some ⟨X + 1, 0, none⟩) 1 1) [true] [(List.range c).map fun _ => 0] := by
        refine ⟨?_, [(.slice a c cp, tv c fun _ => 0)], Own.add (Own.nil _ _ _) (HL.out.below hbW) (fun p hp => by cases hp), ?_, ?_⟩
        · rw [hW2, hX]
          exact (Lst.one wr (w.heap.size + 1) 4 (.bool true) HS.out).below ((Below.refl _ _).alloc (Nat.le_refl _) _)
        · rw [hW2, hX]
          have := Lst.one (wr.alloc (.cells #[.bool true] 4)) (w.heap.size + 1) 49 (.slice a c cp) (by rw [size_alloc']; have := HS.out; omega)
          rw [size_alloc'] at this
          exact this
        · show [tv c _] = [List.map _ (List.map _ _)]
          unfold tv; rw [List.map_map]; rfl
      obtain ⟨va', vn', ev, hva, hvn⟩ := HBU.reads W2.heap.size (Nat.le_refl _) k 0
      simp at ev
      obtain ⟨rfl, rfl⟩ := ev
      have hp := RelPtr.boxed (r := ⟨k, 0, [true], [(List.range c).map fun _ => 0]⟩) hva hvn (Nat.le_refl _) 27
      have hsz2 : W2.heap.size = X + 1 + 1 := by rw [hW2, hX, size_alloc', size_alloc']
      rw [hsz2] at hp
      obtain ⟨W3, hW3⟩ : ∃ W3, W3 = W2.alloc (.cells #[.int .i64 k, .int .i64 0, .slice (some ⟨X, 0, none⟩) 1 1, .slice (some ⟨X + 1, 0, none⟩) 1 1] 27) := ⟨_, rfl⟩
      have hsz3 : W3.heap.size = X + 1 + 1 + 1 := by rw [hW3, size_alloc', hsz2]
      have hp3 : RelPtr W3 (X + 1 + 1) (X + 1 + 1) ⟨k, 0, [true], [(List.range c).map fun _ => 0]⟩ := by rw [hW3]; exact hp
      have HT := Lib.hid (HTD.out (X + 1 + 1) W3 (by
        rw [HRE.out]
        exact RelPtr.mono hp3 (by omega)) (by omega))
      have HK2 := Lib.hid (show Kp w W3 from by rw [hW3]; exact Below.alloc (Below.trans HK.out (hbW.mono HS.out)) (by rw [hsz2, hX]; have := HS.out; omega) _)
      have HHX := Lib.hid hX
      clear hX hbW HBU hva hvn hp hp3 hsz2 hsz3
      go_wp2_with (go_at_call 56; refine (HC.out _).mono ?_; rintro e w' ⟨rfl, rfl⟩)
      rw [← HHX.out, ← hW2, ← hW3]
      clear hW2 hW3
      refine HT.out.mono ?_
      rintro e w7 ⟨ra, rn, rfl, hbu, hb⟩
      have HK7 := Lib.hid (show Kp w w7 from Below.trans HK2.out (hb.mono (Kp.size HK2.out)))
      have HR7 := Lib.hid (show Res0 w w.heap.size w7 from ⟨Kp.base HK7.out, Kp.res HK7.out, Nat.le_refl _⟩)
      have HB7 := Lib.hid (show Built w7 (w.heap.size + 1) ra rn (tidyAcc (lAll k)) (tidyNext (lAll k)) from hbu.mono (Kp.size HK2.out))
      clear hbu hb HT HK7
      have hres := HR7.out.res
      obtain ⟨a7, n7, c7, rfl, -⟩ := HB7.out.acc.shape'
      obtain ⟨items7, -, hnx7, -⟩ := HB7.out.rows
      obtain ⟨b7, m7, d7, rfl, -⟩ := hnx7.shape'
      have r0 := cells_get hres 0
      have r1 := cells_get hres 1
      have r2 := cells_get hres 2
      have r3 := cells_get hres 3
      have f0 := cells_free hres 0
      have f1 := cells_free hres 1
      have f2 := cells_free hres 2
      have f3 := cells_free hres 3
      have hlS := HR7.out.lt
      have p0 := cells_set hres 0 (.int .i64 k)
      have p1 := cells_set p0 1 (.int .i64 0)
      have p2 := cells_set p1 2 (.slice a7 n7 c7)
      have p3 := cells_set p2 3 (.slice b7 m7 d7)
      simp at r0 r1 r2 r3 p3
      have g0 := cells_get p3 0
      have g1 := cells_get p3 1
      have g2 := cells_get p3 2
      have g3 := cells_get p3 3
      simp at g0 g1 g2 g3
      have HG := Lib.hid (And.intro g0 (And.intro g1 (And.intro g2 g3)))
      clear p0 p1 p2 p3 g0 g1 g2 g3 hres hnx7
      go_wp2_with fail
      obtain ⟨g0, g1, g2, g3⟩ := HG.out
      refine bodyPost_ret (v := .tuple #[.agg #[.int .i64 k, .int .i64 0, .slice a7 n7 c7, .slice b7 m7 d7], .int .i64 0]) (by simp [results, Try.results28, go_sem, g0, g1, g2, g3]) rfl ⟨.slice a7 n7 c7, .slice b7 m7 d7, rfl, ?_, ?_⟩
      · exact (((((HB7.out.setLow (a := ⟨w.heap.size, 0, none⟩) (Nat.lt_succ_self _) _).setLow (a := ⟨w.heap.size, 1, none⟩) (Nat.lt_succ_self _) _).setLow (a := ⟨w.heap.size, 2, none⟩) (Nat.lt_succ_self _) _).setLow (a := ⟨w.heap.size, 3, none⟩) (Nat.lt_succ_self _) _).mono (Nat.le_succ_of_le HR7.out.hR))
      · exact ((((HR7.out.base.setCell (p := ⟨w.heap.size, 0, none⟩) HR7.out.hR _).setCell (p := ⟨w.heap.size, 1, none⟩) HR7.out.hR _).setCell (p := ⟨w.heap.size, 2, none⟩) HR7.out.hR _).setCell (p := ⟨w.heap.size, 3, none⟩) HR7.out.hR _)

end Go.Proofs.Ytpdplfgljjkjbaa.ClosedSpecs2
/- What the model's function for the order of words hands back.
   Conditions: stated at each theorem. -/
namespace Go.Proofs.Ytpdplfgljjkjbaa.OrderSpec
set_option linter.unusedVariables false
set_option linter.unusedSimpArgs false
set_option maxRecDepth 100000
open Go.RowKit Mem Copy Rel Valid Heap Push Bld ColMath Columns Numbers ToL TidyAuto TidyRight SpecRight SpecTidyRel ImplRight Automaton Known Sim ResKit Closed ClosedImpl
open SpecTidied ClosedRels ClosedSpecs

def four (s : Int) : List (List Int) := [[s, 0, s], [s, 1, s], [s, 3, s], [s, 4, s]]
def blk (s : Nat) : List (List Int) := [[(s : Int), 2, 3], [(s : Int), 5, 3]] ++ (if s = 0 then [] else four s)
def msTo : Nat → List (List Int)
  | 0 => [[0, 0, 0], [0, 4, 0], [0, 3, 1], [0, 1, 2], [3, 2, 3], [3, 5, 3]]
  | s + 1 => msTo s ++ blk s
theorem msTo3 : msTo 3 = mOrder := by decide
theorem msTo_len (s : Nat) (h : s ≤ 3) : (msTo s).length ≤ 100 := by
  have : s = 0 ∨ s = 1 ∨ s = 2 ∨ s = 3 := by omega
  rcases this with rfl | rfl | rfl | rfl <;> decide
def iv2 (ms : List (List Int)) : List (List Value) := ms.map fun r => r.map (Value.int .i64)
theorem iv2_len (ms : List (List Int)) : (iv2 ms).length = ms.length := by simp [iv2]
theorem iv2_append (a b : List (List Int)) : iv2 (a ++ b) = iv2 a ++ iv2 b := by simp [iv2]
theorem own_lit {W : World} {B : Nat} {items : List (Value × List Value)} (h : Own W B 2 items) (c : Array Value) (hB : B ≤ W.heap.size) (hc : c.size ≤ 1000) : Own (W.alloc (.cells c 2)) B 2 (items ++ [(.slice (some ⟨W.heap.size, 0, none⟩) c.size c.size, c.toList)]) := by
  have h1 := h.addNew (w' := W.alloc (.cells c 2)) ((Below.refl _ _).alloc (Nat.le_refl _) _) (Lst.lit W B 2 c hB hc) (fun k hk => by cases hk; exact Nat.le_refl _)
  exact Own.perm h1 (List.perm_append_singleton _ _).symm
theorem own_pushs {W W' : World} {B : Nat} {vm v' : Value} {items news : List (Value × List Value)} (ho : Own W B 2 (items ++ news)) (hn : Lst W B 49 vm (items.map Prod.fst)) (hl : Lst W' B 49 v' (items.map Prod.fst ++ news.map Prod.fst)) (hg : W.grownBy W' vm.ownBlock) : Own W' B 2 (items ++ news) ∧ Lst W' B 49 v' ((items ++ news).map Prod.fst) :=
  ⟨ho.grown hg fun k hk p hm => hn.apart (ho.lst p hm) (by decide) k hk, by rw [List.map_append]; exact hl⟩

/-- The moves that have been put together. -/
structure Mo (w : World) (W : World) (vm : Value) (items : List (Value × List Value)) (ms : List (List Int)) : Prop where
  own : Own W (w.heap.size + 1) 2 items
  lst : Lst W (w.heap.size + 1) 49 vm (items.map Prod.fst)
  eq : items.map Prod.snd = iv2 ms
  kp : Kp w W
theorem Mo.len {w W : World} {vm : Value} {items : List (Value × List Value)} {ms : List (List Int)} (h : Mo w W vm items ms) : items.length = ms.length := by
  have := congrArg List.length h.eq
  rwa [List.length_map, iv2_len] at this
theorem Mo.rows {w W : World} {vm : Value} {items : List (Value × List Value)} {ms : List (List Int)} (h : Mo w W vm items ms) : Built W (w.heap.size + 1) (.slice none 0 0) vm [] ms := ⟨Lst.nil _ _ _, items, h.own, h.lst, h.eq⟩

set_option maxHeartbeats 8000000 in
theorem start (w W1 : World) (hW1 : W1 = (((((((w.alloc (.cells #[Value.int .i64 0, .int .i64 0, .slice none 0 0, .slice none 0 0] 27)).alloc (.cells #[.int .i64 0, .int .i64 0, .int .i64 0] 2)).alloc (.cells #[.int .i64 0, .int .i64 4, .int .i64 0] 2)).alloc (.cells #[.int .i64 0, .int .i64 3, .int .i64 1] 2)).alloc (.cells #[.int .i64 0, .int .i64 1, .int .i64 2] 2)).alloc (.cells #[.int .i64 3, .int .i64 2, .int .i64 3] 2)).alloc (.cells #[.int .i64 3, .int .i64 5, .int .i64 3] 2)).alloc (.cells #[.slice (some ⟨w.heap.size + 1, 0, none⟩) 3 3, .slice (some ⟨w.heap.size + 1 + 1, 0, none⟩) 3 3, .slice (some ⟨w.heap.size + 1 + 1 + 1, 0, none⟩) 3 3, .slice (some ⟨w.heap.size + 1 + 1 + 1 + 1, 0, none⟩) 3 3, .slice (some ⟨w.heap.size + 1 + 1 + 1 + 1 + 1, 0, none⟩) 3 3, .slice (some ⟨w.heap.size + 1 + 1 + 1 + 1 + 1 + 1, 0, none⟩) 3 3] 49)) : ∃ items, Mo w W1 (.slice (some ⟨w.heap.size + 1 + 1 + 1 + 1 + 1 + 1 + 1, 0, none⟩) 6 6) items (msTo 0) := by
  obtain ⟨W0, hW0⟩ : ∃ W0, W0 = w.alloc (.cells #[Value.int .i64 0, .int .i64 0, .slice none 0 0, .slice none 0 0] 27) := ⟨_, rfl⟩
  have h0 : W0.heap.size = w.heap.size + 1 := by rw [hW0, size_alloc']
  rw [← hW0] at hW1
  have k0 : Kp w W0 := by rw [hW0]; exact Below.refl _ _
  have o0 := Own.nil W0 (w.heap.size + 1) 2
  obtain ⟨X0, hX0⟩ : ∃ X, X = W0.alloc (.cells #[.int .i64 0, .int .i64 0, .int .i64 0] 2) := ⟨_, rfl⟩
  have o1 := own_lit o0 #[.int .i64 0, .int .i64 0, .int .i64 0] (by omega) (by decide)
  rw [← hX0] at o1 hW1
  have s0 : X0.heap.size = w.heap.size + 1 + 1 := by rw [hX0, size_alloc']; omega
  have k1 : Kp w X0 := by rw [hX0]; exact Below.alloc k0 (Kp.size k0) _
  obtain ⟨X1, hX1⟩ : ∃ X, X = X0.alloc (.cells #[.int .i64 0, .int .i64 4, .int .i64 0] 2) := ⟨_, rfl⟩
  have o2 := own_lit o1 #[.int .i64 0, .int .i64 4, .int .i64 0] (by omega) (by decide)
  rw [← hX1] at o2 hW1
  have s1 : X1.heap.size = w.heap.size + 1 + 1 + 1 := by rw [hX1, size_alloc']; omega
  have k2 : Kp w X1 := by rw [hX1]; exact Below.alloc k1 (Kp.size k1) _
  obtain ⟨X2, hX2⟩ : ∃ X, X = X1.alloc (.cells #[.int .i64 0, .int .i64 3, .int .i64 1] 2) := ⟨_, rfl⟩
  have o3 := own_lit o2 #[.int .i64 0, .int .i64 3, .int .i64 1] (by omega) (by decide)
  rw [← hX2] at o3 hW1
  have s2 : X2.heap.size = w.heap.size + 1 + 1 + 1 + 1 := by rw [hX2, size_alloc']; omega
  have k3 : Kp w X2 := by rw [hX2]; exact Below.alloc k2 (Kp.size k2) _
  obtain ⟨X3, hX3⟩ : ∃ X, X = X2.alloc (.cells #[.int .i64 0, .int .i64 1, .int .i64 2] 2) := ⟨_, rfl⟩
  have o4 := own_lit o3 #[.int .i64 0, .int .i64 1, .int .i64 2] (by omega) (by decide)
  rw [← hX3] at o4 hW1
  have s3 : X3.heap.size = w.heap.size + 1 + 1 + 1 + 1 + 1 := by rw [hX3, size_alloc']; omega
  have k4 : Kp w X3 := by rw [hX3]; exact Below.alloc k3 (Kp.size k3) _
  obtain ⟨X4, hX4⟩ : ∃ X, X = X3.alloc (.cells #[.int .i64 3, .int .i64 2, .int .i64 3] 2) := ⟨_, rfl⟩
  have o5 := own_lit o4 #[.int .i64 3, .int .i64 2, .int .i64 3] (by omega) (by decide)
  rw [← hX4] at o5 hW1
  have s4 : X4.heap.size = w.heap.size + 1 + 1 + 1 + 1 + 1 + 1 := by rw [hX4, size_alloc']; omega
  have k5 : Kp w X4 := by rw [hX4]; exact Below.alloc k4 (Kp.size k4) _
  obtain ⟨X5, hX5⟩ : ∃ X, X = X4.alloc (.cells #[.int .i64 3, .int .i64 5, .int .i64 3] 2) := ⟨_, rfl⟩
  have o6 := own_lit o5 #[.int .i64 3, .int .i64 5, .int .i64 3] (by omega) (by decide)
  rw [← hX5] at o6 hW1
  have s5 : X5.heap.size = w.heap.size + 1 + 1 + 1 + 1 + 1 + 1 + 1 := by rw [hX5, size_alloc']; omega
  have k6 : Kp w X5 := by rw [hX5]; exact Below.alloc k5 (Kp.size k5) _
  have hl := Lst.lit X5 (w.heap.size + 1) 49 #[.slice (some ⟨w.heap.size + 1, 0, none⟩) 3 3, .slice (some ⟨w.heap.size + 1 + 1, 0, none⟩) 3 3, .slice (some ⟨w.heap.size + 1 + 1 + 1, 0, none⟩) 3 3, .slice (some ⟨w.heap.size + 1 + 1 + 1 + 1, 0, none⟩) 3 3, .slice (some ⟨w.heap.size + 1 + 1 + 1 + 1 + 1, 0, none⟩) 3 3, .slice (some ⟨w.heap.size + 1 + 1 + 1 + 1 + 1 + 1, 0, none⟩) 3 3] (by omega) (by simp)
  rw [← hW1, s5] at hl
  have hb : Below X5.heap.size X5 W1 := by rw [hW1]; exact (Below.refl _ _).alloc (Nat.le_refl _) _
  have k7 : Kp w W1 := Below.trans k6 (hb.mono (Kp.size k6))
  rw [s4, s3, s2, s1, s0, h0] at o6
  exact ⟨_, o6.below hb, hl, rfl, k7⟩

set_option maxHeartbeats 8000000 in
theorem specOrder (w : World) : Calls Try.prog 22 #[] w fun e w' => ∃ va vn, e = .returned (.agg #[.int .i64 2, .int .i64 0, va, vn]) ∧ Built w' w.heap.size va vn (tidyAcc sOrder) (tidyNext sOrder) ∧ Below w.heap.size w w' := by
  obtain ⟨W1, hW1⟩ : ∃ W1, W1 = (((((((w.alloc (.cells #[Value.int .i64 0, .int .i64 0, .slice none 0 0, .slice none 0 0] 27)).alloc (.cells #[.int .i64 0, .int .i64 0, .int .i64 0] 2)).alloc (.cells #[.int .i64 0, .int .i64 4, .int .i64 0] 2)).alloc (.cells #[.int .i64 0, .int .i64 3, .int .i64 1] 2)).alloc (.cells #[.int .i64 0, .int .i64 1, .int .i64 2] 2)).alloc (.cells #[.int .i64 3, .int .i64 2, .int .i64 3] 2)).alloc (.cells #[.int .i64 3, .int .i64 5, .int .i64 3] 2)).alloc (.cells #[.slice (some ⟨w.heap.size + 1, 0, none⟩) 3 3, .slice (some ⟨w.heap.size + 1 + 1, 0, none⟩) 3 3, .slice (some ⟨w.heap.size + 1 + 1 + 1, 0, none⟩) 3 3, .slice (some ⟨w.heap.size + 1 + 1 + 1 + 1, 0, none⟩) 3 3, .slice (some ⟨w.heap.size + 1 + 1 + 1 + 1 + 1, 0, none⟩) 3 3, .slice (some ⟨w.heap.size + 1 + 1 + 1 + 1 + 1 + 1, 0, none⟩) 3 3] 49) := ⟨_, rfl⟩
  have HS0 := Lib.hid (start w W1 hW1)
  have HKN := Lib.hid (fun vm W h B ha => known (.slice (some ⟨B, 0, none⟩) 4 4) vm [false, true, false, true] mOrder sOrder sOrder_ok sOrder_rel (by decide) (by decide) (by decide) (by decide) W W.heap.size ha h (Nat.le_refl _))
  go_enter Try.func22, Try.ntmps22
  go_wp2_with fail
  rw [← hW1]
  clear hW1
  go_loopw [1, 2, 3] (fun s1 s2 _ wr => ∃ (s : Nat) (a : Option Addr) (n cap : Nat) (items : List (Value × List Value)), s ≤ 3 ∧ s2 = .int .i64 s ∧ s1 = .slice a n cap ∧ Mo w wr (.slice a n cap) items (msTo s)) (fun _ s2 _ _ => 3 - (intOf s2).toNat)
  case atStart =>
    obtain ⟨items, hm⟩ := HS0.out
    exact ⟨0, _, _, _, items, by omega, rfl, rfl, hm⟩
  case round =>
    obtain ⟨s, a, n, cap, items, hs, rfl, rfl, hm⟩ := hrel
    have HM := Lib.hid hm
    clear hm HS0
    by_cases hlt : s < 3
    · obtain ⟨X, hX⟩ : ∃ X, X = wr.heap.size := ⟨_, rfl⟩
      have HSZ := Lib.hid (show w.heap.size + 1 ≤ X by rw [hX]; exact Kp.size HM.out.kp)
      have o1 := own_lit HM.out.own #[.int .i64 s, .int .i64 2, .int .i64 3] (Kp.size HM.out.kp) (by simp)
      have o2 := own_lit o1 #[.int .i64 s, .int .i64 5, .int .i64 3] (by rw [size_alloc']; have := HSZ.out; omega) (by simp)
      rw [size_alloc', ← hX] at o2
      rw [List.append_assoc] at o2
      have HO := Lib.hid (o2.alloc (.cells #[.slice (some ⟨X, 0, none⟩) 3 3, .slice (some ⟨X + 1, 0, none⟩) 3 3] 49))
      obtain ⟨W3, hW3⟩ : ∃ W3, W3 = ((wr.alloc (.cells #[.int .i64 s, .int .i64 2, .int .i64 3] 2)).alloc (.cells #[.int .i64 s, .int .i64 5, .int .i64 3] 2)).alloc (.cells #[.slice (some ⟨X, 0, none⟩) 3 3, .slice (some ⟨X + 1, 0, none⟩) 3 3] 49) := ⟨_, rfl⟩
      rw [← hW3] at HO
      have hbW : Below wr.heap.size wr W3 := by rw [hW3]; exact base_box (base_box (base_box (Below.refl _ _) _) _) _
      have HL3 := Lib.hid (HM.out.lst.below hbW)
      have HK3 := Lib.hid (show Kp w W3 from Below.trans HM.out.kp (hbW.mono (Kp.size HM.out.kp)))
      have HS3 := Lib.hid (Kp.size HK3.out)
      have hX2 : ((wr.alloc (.cells #[.int .i64 s, .int .i64 2, .int .i64 3] 2)).alloc (.cells #[.int .i64 s, .int .i64 5, .int .i64 3] 2)).heap.size = X + 1 + 1 := by rw [size_alloc', size_alloc', hX]
      have HNEW := Lib.hid (show ∀ j u, [Value.slice (some ⟨X, 0, none⟩) 3 3, Value.slice (some ⟨X + 1, 0, none⟩) 3 3][j]? = some u → W3.cell? ((⟨X + 1 + 1, 0, none⟩ : Addr).add j) = some u from fun j u hj => by
        rw [hW3, ← hX2]
        have ea : (⟨((wr.alloc (.cells #[.int .i64 s, .int .i64 2, .int .i64 3] 2)).alloc (.cells #[.int .i64 s, .int .i64 5, .int .i64 3] 2)).heap.size, 0, none⟩ : Addr).add j = ⟨((wr.alloc (.cells #[.int .i64 s, .int .i64 2, .int .i64 3] 2)).alloc (.cells #[.int .i64 s, .int .i64 5, .int .i64 3] 2)).heap.size, j, none⟩ := by
          simp [Addr.add]
          try (intro h; omega)
        rw [ea, World.cell?_alloc_mark, ← hj]
        simp)
      have HLEN := Lib.hid (show (items.map Prod.fst).length + 2 ≤ 100000000 by have h1 := HM.out.len; have h2 := msTo_len s (by omega); rw [List.length_map]; omega)
      clear o1 o2 hbW hX2
      subst hW3
      subst hX
      go_wp2_with (at_builtin; refine wpList_pushs rfl _ _ 23 rfl 49 (.slice none 0 0) 24 Try.underlying23 info54 (by decide) (by decide) (w.heap.size + 1) (.slice a n cap) _ HL3.out HS3.out [.slice (some ⟨wr.heap.size, 0, none⟩) 3 3, .slice (some ⟨wr.heap.size + 1, 0, none⟩) 3 3] (fun u hu => by simp at hu; rcases hu with rfl | rfl <;> rfl) HLEN.out rfl ⟨wr.heap.size + 1 + 1, 0, none⟩ 2 2 rfl rfl HNEW.out ?_; intro v5 w5 hl5 hg5; obtain ⟨a5, n5, cp5, rfl, -⟩ := hl5.shape'; have HP5 := Lib.hid (own_pushs HO.out HL3.out hl5 hg5); have HK5 := Lib.hid (Below.grown HK3.out hg5 HS3.out (fun q hq => HL3.out.ge hq)); clear hl5 hg5)
      have HM5 := Lib.hid (show Mo w w5 (.slice a5 n5 cp5) (items ++ [(.slice (some ⟨wr.heap.size, 0, none⟩) 3 3, [.int .i64 s, .int .i64 2, .int .i64 3]), (.slice (some ⟨wr.heap.size + 1, 0, none⟩) 3 3, [.int .i64 s, .int .i64 5, .int .i64 3])]) (msTo s ++ [[(s : Int), 2, 3], [(s : Int), 5, 3]] ++ (four s).take 0) from
        ⟨HP5.out.1, HP5.out.2, by rw [List.map_append, HM.out.eq, iv2_append, iv2_append, List.take_zero]; show _ = _ ++ _ ++ []; rw [List.append_nil]; rfl, HK5.out⟩)
      clear HP5 HK5 HO HL3 HK3 HS3 HNEW HLEN HM
      obtain ⟨itn, hitn⟩ : ∃ itn, itn = items ++ [(Value.slice (some ⟨wr.heap.size, 0, none⟩) 3 3, [Value.int .i64 s, .int .i64 2, .int .i64 3]), (Value.slice (some ⟨wr.heap.size + 1, 0, none⟩) 3 3, [Value.int .i64 s, .int .i64 5, .int .i64 3])] := ⟨_, rfl⟩
      rw [← hitn] at HM5
      clear hitn HSZ
      go_loopw [1, 3] (fun s1 s3 wr' => ∃ (k : Nat) (a : Option Addr) (n cap : Nat) (items : List (Value × List Value)), k ≤ 4 ∧ s3 = .int .i64 k ∧ s1 = .slice a n cap ∧ (s = 0 → k = 0) ∧ Mo w wr' (.slice a n cap) items (msTo s ++ [[(s : Int), 2, 3], [(s : Int), 5, 3]] ++ (four s).take k)) (fun _ s3 _ => 4 - (intOf s3).toNat)
      case atStart => exact ⟨0, _, _, _, _, by omega, rfl, rfl, fun _ => rfl, HM5.out⟩
      case round =>
        obtain ⟨k, a, n, cap, items, hk, rfl, rfl, hk0, hm⟩ := hrel
        have HM2 := Lib.hid hm
        have HSZ := Lib.hid (Kp.size hm.kp)
        have HLEN := Lib.hid (show (items.map Prod.fst).length + 1 ≤ 100000000 by have h1 := hm.len; have h2 := msTo_len s (by omega); rw [List.length_append, List.length_append, List.length_take] at h1; simp at h1; rw [List.length_map]; omega)
        clear hm HM5
        by_cases h0 : s = 0
        · have hk0' := hk0 h0
          subst h0
          subst hk0'
          clear hk0
          go_wp2_with fail
          go_roundw
          case rel => exact ⟨1, _, _, _, items, by omega, by go_num, rfl, by have := HM2.out; rwa [show msTo 0 ++ [[((0 : Nat) : Int), 2, 3], [((0 : Nat) : Int), 5, 3]] ++ (four ((0 : Nat) : Int)).take 0 = msTo 1 from rfl] at this⟩
          case measure => simp [intOf]
        · have hp : (0 : Int) < (s : Int) := by omega
          clear hk0
          by_cases h4 : k = 4
          · subst h4
            go_wp2_with fail
            go_roundw
            case rel =>
              refine ⟨s + 1, _, _, _, items, hlt, by go_num, rfl, ?_⟩
              have := HM2.out
              rwa [show msTo s ++ [[(s : Int), 2, 3], [(s : Int), 5, 3]] ++ (four s).take 4 = msTo (s + 1) from by
                show _ = msTo s ++ blk s
                unfold blk
                rw [if_neg h0, List.append_assoc]
                rfl] at this
            case measure => simp [intOf]; omega
          · have : k = 0 ∨ k = 1 ∨ k = 2 ∨ k = 3 := by omega
            rcases this with rfl | rfl | rfl | rfl
            · have o1 := own_lit (HM2.out.own.alloc (.cells #[.int .i64 0, .int .i64 1, .int .i64 3, .int .i64 4] 2)) #[.int .i64 s, .int .i64 0, .int .i64 s] (by rw [size_alloc']; have := HSZ.out; omega) (by simp)
              rw [size_alloc'] at o1
              have HO := Lib.hid (o1.alloc (.cells #[.slice (some ⟨wr.heap.size + 1, 0, none⟩) 3 3] 49))
              have hbW : Below wr.heap.size wr (((wr.alloc (.cells #[.int .i64 0, .int .i64 1, .int .i64 3, .int .i64 4] 2)).alloc (.cells #[.int .i64 s, .int .i64 0, .int .i64 s] 2)).alloc (.cells #[.slice (some ⟨wr.heap.size + 1, 0, none⟩) 3 3] 49)) := base_box (base_box (base_box (Below.refl _ _) _) _) _
              have HL3 := Lib.hid (HM2.out.lst.below hbW)
              have HK3 := Lib.hid (show Kp w (((wr.alloc (.cells #[.int .i64 0, .int .i64 1, .int .i64 3, .int .i64 4] 2)).alloc (.cells #[.int .i64 s, .int .i64 0, .int .i64 s] 2)).alloc (.cells #[.slice (some ⟨wr.heap.size + 1, 0, none⟩) 3 3] 49)) from Below.trans HM2.out.kp (hbW.mono (Kp.size HM2.out.kp)))
              have HS3 := Lib.hid (Kp.size HK3.out)
              have hX2 : ((wr.alloc (.cells #[.int .i64 0, .int .i64 1, .int .i64 3, .int .i64 4] 2)).alloc (.cells #[.int .i64 s, .int .i64 0, .int .i64 s] 2)).heap.size = wr.heap.size + 1 + 1 := by rw [size_alloc', size_alloc']
              have HNEW := Lib.hid (show ∀ j u, [Value.slice (some ⟨wr.heap.size + 1, 0, none⟩) 3 3][j]? = some u → (((wr.alloc (.cells #[.int .i64 0, .int .i64 1, .int .i64 3, .int .i64 4] 2)).alloc (.cells #[.int .i64 s, .int .i64 0, .int .i64 s] 2)).alloc (.cells #[.slice (some ⟨wr.heap.size + 1, 0, none⟩) 3 3] 49)).cell? ((⟨wr.heap.size + 1 + 1, 0, none⟩ : Addr).add j) = some u from fun j u hj => by
                rw [← hX2]
                have ea : ∀ b : Nat, (⟨b, 0, none⟩ : Addr).add j = ⟨b, j, none⟩ := fun b => by
                  simp [Addr.add]
                  try (intro h; omega)
                rw [ea, World.cell?_alloc_mark, ← hj]
                simp)
              clear o1 hbW hX2
              go_wp2_with (at_builtin; refine wpList_pushs rfl _ _ 23 rfl 49 (.slice none 0 0) 24 Try.underlying23 info54 (by decide) (by decide) (w.heap.size + 1) (.slice a n cap) _ HL3.out HS3.out [.slice (some ⟨wr.heap.size + 1, 0, none⟩) 3 3] (fun u hu => by simp at hu; subst hu; rfl) HLEN.out rfl ⟨wr.heap.size + 1 + 1, 0, none⟩ 1 1 rfl rfl HNEW.out ?_; intro v5 w5 hl5 hg5; obtain ⟨a5, n5, cp5, rfl, -⟩ := hl5.shape'; have HP5 := Lib.hid (own_pushs HO.out HL3.out hl5 hg5); have HK5 := Lib.hid (Below.grown HK3.out hg5 HS3.out (fun q hq => HL3.out.ge hq)); clear hl5 hg5)
              go_roundw
              case rel =>
                refine ⟨1, _, _, _, _, by omega, by go_num, rfl, fun h => absurd h h0, HP5.out.1, HP5.out.2, ?_, HK5.out⟩
                rw [List.map_append, HM2.out.eq]
                unfold iv2 four
                simp
              case measure => simp [intOf]
            · have o1 := own_lit (HM2.out.own.alloc (.cells #[.int .i64 0, .int .i64 1, .int .i64 3, .int .i64 4] 2)) #[.int .i64 s, .int .i64 1, .int .i64 s] (by rw [size_alloc']; have := HSZ.out; omega) (by simp)
              rw [size_alloc'] at o1
              have HO := Lib.hid (o1.alloc (.cells #[.slice (some ⟨wr.heap.size + 1, 0, none⟩) 3 3] 49))
              have hbW : Below wr.heap.size wr (((wr.alloc (.cells #[.int .i64 0, .int .i64 1, .int .i64 3, .int .i64 4] 2)).alloc (.cells #[.int .i64 s, .int .i64 1, .int .i64 s] 2)).alloc (.cells #[.slice (some ⟨wr.heap.size + 1, 0, none⟩) 3 3] 49)) := base_box (base_box (base_box (Below.refl _ _) _) _) _
              have HL3 := Lib.hid (HM2.out.lst.below hbW)
              have HK3 := Lib.hid (show Kp w (((wr.alloc (.cells #[.int .i64 0, .int .i64 1, .int .i64 3, .int .i64 4] 2)).alloc (.cells #[.int .i64 s, .int .i64 1, .int .i64 s] 2)).alloc (.cells #[.slice (some ⟨wr.heap.size + 1, 0, none⟩) 3 3] 49)) from Below.trans HM2.out.kp (hbW.mono (Kp.size HM2.out.kp)))
              have HS3 := Lib.hid (Kp.size HK3.out)
              have hX2 : ((wr.alloc (.cells #[.int .i64 0, .int .i64 1, .int .i64 3, .int .i64 4] 2)).alloc (.cells #[.int .i64 s, .int .i64 1, .int .i64 s] 2)).heap.size = wr.heap.size + 1 + 1 := by rw [size_alloc', size_alloc']
              have HNEW := Lib.hid (show ∀ j u, [Value.slice (some ⟨wr.heap.size + 1, 0, none⟩) 3 3][j]? = some u → (((wr.alloc (.cells #[.int .i64 0, .int .i64 1, .int .i64 3, .int .i64 4] 2)).alloc (.cells #[.int .i64 s, .int .i64 1, .int .i64 s] 2)).alloc (.cells #[.slice (some ⟨wr.heap.size + 1, 0, none⟩) 3 3] 49)).cell? ((⟨wr.heap.size + 1 + 1, 0, none⟩ : Addr).add j) = some u from fun j u hj => by
                rw [← hX2]
                have ea : ∀ b : Nat, (⟨b, 0, none⟩ : Addr).add j = ⟨b, j, none⟩ := fun b => by
                  simp [Addr.add]
                  try (intro h; omega)
                rw [ea, World.cell?_alloc_mark, ← hj]
                simp)
              clear o1 hbW hX2
              go_wp2_with (at_builtin; refine wpList_pushs rfl _ _ 23 rfl 49 (.slice none 0 0) 24 Try.underlying23 info54 (by decide) (by decide) (w.heap.size + 1) (.slice a n cap) _ HL3.out HS3.out [.slice (some ⟨wr.heap.size + 1, 0, none⟩) 3 3] (fun u hu => by simp at hu; subst hu; rfl) HLEN.out rfl ⟨wr.heap.size + 1 + 1, 0, none⟩ 1 1 rfl rfl HNEW.out ?_; intro v5 w5 hl5 hg5; obtain ⟨a5, n5, cp5, rfl, -⟩ := hl5.shape'; have HP5 := Lib.hid (own_pushs HO.out HL3.out hl5 hg5); have HK5 := Lib.hid (Below.grown HK3.out hg5 HS3.out (fun q hq => HL3.out.ge hq)); clear hl5 hg5)
              go_roundw
              case rel =>
                refine ⟨2, _, _, _, _, by omega, by go_num, rfl, fun h => absurd h h0, HP5.out.1, HP5.out.2, ?_, HK5.out⟩
                rw [List.map_append, HM2.out.eq]
                unfold iv2 four
                simp
              case measure => simp [intOf]
            · have o1 := own_lit (HM2.out.own.alloc (.cells #[.int .i64 0, .int .i64 1, .int .i64 3, .int .i64 4] 2)) #[.int .i64 s, .int .i64 3, .int .i64 s] (by rw [size_alloc']; have := HSZ.out; omega) (by simp)
              rw [size_alloc'] at o1
              have HO := Lib.hid (o1.alloc (.cells #[.slice (some ⟨wr.heap.size + 1, 0, none⟩) 3 3] 49))
              have hbW : Below wr.heap.size wr (((wr.alloc (.cells #[.int .i64 0, .int .i64 1, .int .i64 3, .int .i64 4] 2)).alloc (.cells #[.int .i64 s, .int .i64 3, .int .i64 s] 2)).alloc (.cells #[.slice (some ⟨wr.heap.size + 1, 0, none⟩) 3 3] 49)) := base_box (base_box (base_box (Below.refl _ _) _) _) _
              have HL3 := Lib.hid (HM2.out.lst.below hbW)
              have HK3 := Lib.hid (show Kp w (((wr.alloc (.cells #[.int .i64 0, .int .i64 1, .int .i64 3, .int .i64 4] 2)).alloc (.cells #[.int .i64 s, .int .i64 3, .int .i64 s] 2)).alloc (.cells #[.slice (some ⟨wr.heap.size + 1, 0, none⟩) 3 3] 49)) from Below.trans HM2.out.kp (hbW.mono (Kp.size HM2.out.kp)))
              have HS3 := Lib.hid (Kp.size HK3.out)
              have hX2 : ((wr.alloc (.cells #[.int .i64 0, .int .i64 1, .int .i64 3, .int .i64 4] 2)).alloc (.cells #[.int .i64 s, .int .i64 3, .int .i64 s] 2)).heap.size = wr.heap.size + 1 + 1 := by rw [size_alloc', size_alloc']
              have HNEW := Lib.hid (show ∀ j u, [Value.slice (some ⟨wr.heap.size + 1, 0, none⟩) 3 3][j]? = some u → (((wr.alloc (.cells #[.int .i64 0, .int .i64 1, .int .i64 3, .int .i64 4] 2)).alloc (.cells #[.int .i64 s, .int .i64 3, .int .i64 s] 2)).alloc (.cells #[.slice (some ⟨wr.heap.size + 1, 0, none⟩) 3 3] 49)).cell? ((⟨wr.heap.size + 1 + 1, 0, none⟩ : Addr).add j) = some u from fun j u hj => by
                rw [← hX2]
                have ea : ∀ b : Nat, (⟨b, 0, none⟩ : Addr).add j = ⟨b, j, none⟩ := fun b => by
                  simp [Addr.add]
                  try (intro h; omega)
                rw [ea, World.cell?_alloc_mark, ← hj]
                simp)
              clear o1 hbW hX2
              go_wp2_with (at_builtin; refine wpList_pushs rfl _ _ 23 rfl 49 (.slice none 0 0) 24 Try.underlying23 info54 (by decide) (by decide) (w.heap.size + 1) (.slice a n cap) _ HL3.out HS3.out [.slice (some ⟨wr.heap.size + 1, 0, none⟩) 3 3] (fun u hu => by simp at hu; subst hu; rfl) HLEN.out rfl ⟨wr.heap.size + 1 + 1, 0, none⟩ 1 1 rfl rfl HNEW.out ?_; intro v5 w5 hl5 hg5; obtain ⟨a5, n5, cp5, rfl, -⟩ := hl5.shape'; have HP5 := Lib.hid (own_pushs HO.out HL3.out hl5 hg5); have HK5 := Lib.hid (Below.grown HK3.out hg5 HS3.out (fun q hq => HL3.out.ge hq)); clear hl5 hg5)
              go_roundw
              case rel =>
                refine ⟨3, _, _, _, _, by omega, by go_num, rfl, fun h => absurd h h0, HP5.out.1, HP5.out.2, ?_, HK5.out⟩
                rw [List.map_append, HM2.out.eq]
                unfold iv2 four
                simp
              case measure => simp [intOf]
            · have o1 := own_lit (HM2.out.own.alloc (.cells #[.int .i64 0, .int .i64 1, .int .i64 3, .int .i64 4] 2)) #[.int .i64 s, .int .i64 4, .int .i64 s] (by rw [size_alloc']; have := HSZ.out; omega) (by simp)
              rw [size_alloc'] at o1
              have HO := Lib.hid (o1.alloc (.cells #[.slice (some ⟨wr.heap.size + 1, 0, none⟩) 3 3] 49))
              have hbW : Below wr.heap.size wr (((wr.alloc (.cells #[.int .i64 0, .int .i64 1, .int .i64 3, .int .i64 4] 2)).alloc (.cells #[.int .i64 s, .int .i64 4, .int .i64 s] 2)).alloc (.cells #[.slice (some ⟨wr.heap.size + 1, 0, none⟩) 3 3] 49)) := base_box (base_box (base_box (Below.refl _ _) _) _) _
              have HL3 := Lib.hid (HM2.out.lst.below hbW)
              have HK3 := Lib.hid (show Kp w (((wr.alloc (.cells #[.int .i64 0, .int .i64 1, .int .i64 3, .int .i64 4] 2)).alloc (.cells #[.int .i64 s, .int .i64 4, .int .i64 s] 2)).alloc (.cells #[.slice (some ⟨wr.heap.size + 1, 0, none⟩) 3 3] 49)) from Below.trans HM2.out.kp (hbW.mono (Kp.size HM2.out.kp)))
              have HS3 := Lib.hid (Kp.size HK3.out)
              have hX2 : ((wr.alloc (.cells #[.int .i64 0, .int .i64 1, .int .i64 3, .int .i64 4] 2)).alloc (.cells #[.int .i64 s, .int .i64 4, .int .i64 s] 2)).heap.size = wr.heap.size + 1 + 1 := by rw [size_alloc', size_alloc']
              have HNEW := Lib.hid (show ∀ j u, [Value.slice (some ⟨wr.heap.size + 1, 0, none⟩) 3 3][j]? = some u → (((wr.alloc (.cells #[.int .i64 0, .int .i64 1, .int .i64 3, .int .i64 4] 2)).alloc (.cells #[.int .i64 s, .int .i64 4, .int .i64 s] 2)).alloc (.cells #[.slice (some ⟨wr.heap.size + 1, 0, none⟩) 3 3] 49)).cell? ((⟨wr.heap.size + 1 + 1, 0, none⟩ : Addr).add j) = some u from fun j u hj => by
                rw [← hX2]
                have ea : ∀ b : Nat, (⟨b, 0, none⟩ : Addr).add j = ⟨b, j, none⟩ := fun b => by
                  simp [Addr.add]
                  try (intro h; omega)
                rw [ea, World.cell?_alloc_mark, ← hj]
                simp)
              clear o1 hbW hX2
              go_wp2_with (at_builtin; refine wpList_pushs rfl _ _ 23 rfl 49 (.slice none 0 0) 24 Try.underlying23 info54 (by decide) (by decide) (w.heap.size + 1) (.slice a n cap) _ HL3.out HS3.out [.slice (some ⟨wr.heap.size + 1, 0, none⟩) 3 3] (fun u hu => by simp at hu; subst hu; rfl) HLEN.out rfl ⟨wr.heap.size + 1 + 1, 0, none⟩ 1 1 rfl rfl HNEW.out ?_; intro v5 w5 hl5 hg5; obtain ⟨a5, n5, cp5, rfl, -⟩ := hl5.shape'; have HP5 := Lib.hid (own_pushs HO.out HL3.out hl5 hg5); have HK5 := Lib.hid (Below.grown HK3.out hg5 HS3.out (fun q hq => HL3.out.ge hq)); clear hl5 hg5)
              go_roundw
              case rel =>
                refine ⟨4, _, _, _, _, by omega, by go_num, rfl, fun h => absurd h h0, HP5.out.1, HP5.out.2, ?_, HK5.out⟩
                rw [List.map_append, HM2.out.eq]
                unfold iv2 four
                simp
              case measure => simp [intOf]
    · obtain rfl : s = 3 := by omega
      obtain ⟨W4, hW4⟩ : ∃ W4, W4 = wr.alloc (.cells #[.bool false, .bool true, .bool false, .bool true] 4) := ⟨_, rfl⟩
      have hbW : Below wr.heap.size wr W4 := by rw [hW4]; exact base_box (Below.refl _ _) _
      have HK4 := Lib.hid (show Kp w W4 from Below.trans HM.out.kp (hbW.mono (Kp.size HM.out.kp)))
      have HR4 := Lib.hid (show Res0 w w.heap.size W4 from ⟨Kp.base HK4.out, Kp.res HK4.out, Nat.le_refl _⟩)
      have ha : Bools W4 W4.heap.size (.slice (some ⟨wr.heap.size, 0, none⟩) 4 4) [false, true, false, true] := by
        rw [hW4]
        exact lst_bools (xs := [false, true, false, true]) (Lst.lit wr (w.heap.size + 1) 4 #[.bool false, .bool true, .bool false, .bool true] (Kp.size HM.out.kp) (by decide)) _ (Nat.le_refl _)
      have hr : IntRows W4 W4.heap.size (.slice a n cap) mOrder := by
        have := built_rows (HM.out.rows.below hbW) W4.heap.size (Nat.le_refl _)
        rwa [msTo3] at this
      have HKK := Lib.hid (HKN.out (.slice a n cap) W4 hr wr.heap.size ha)
      clear hbW ha hr
      go_wp2_with fail
      rw [← hW4]
      clear hW4
      refine HKK.out.mono ?_
      rintro e w7 ⟨va3, vn3, rfl, hbu, hb⟩
      have HR7 := Lib.hid (HR4.out.step hb)
      have HB7 := Lib.hid (show Built w7 (w.heap.size + 1) va3 vn3 (tidyAcc sOrder) (tidyNext sOrder) from hbu.mono HR4.out.lt)
      clear hbu hb HKK
      have hres := HR7.out.res
      obtain ⟨a7, n7, c7, rfl, -⟩ := HB7.out.acc.shape'
      obtain ⟨items7, -, hnx7, -⟩ := HB7.out.rows
      obtain ⟨b7, m7, d7, rfl, -⟩ := hnx7.shape'
      have r0 := cells_get hres 0
      have r1 := cells_get hres 1
      have r2 := cells_get hres 2
      have r3 := cells_get hres 3
      have f0 := cells_free hres 0
      have f1 := cells_free hres 1
      have f2 := cells_free hres 2
      have f3 := cells_free hres 3
      have hlS := HR7.out.lt
      have p0 := cells_set hres 0 (.int .i64 2)
      have p1 := cells_set p0 1 (.int .i64 0)
      have p2 := cells_set p1 2 (.slice a7 n7 c7)
      have p3 := cells_set p2 3 (.slice b7 m7 d7)
      simp at r0 r1 r2 r3 p3
      have g0 := cells_get p3 0
      have g1 := cells_get p3 1
      have g2 := cells_get p3 2
      have g3 := cells_get p3 3
      simp at g0 g1 g2 g3
      have HG := Lib.hid (And.intro g0 (And.intro g1 (And.intro g2 g3)))
      clear p0 p1 p2 p3 g0 g1 g2 g3 hres hnx7
      go_wp2_with fail
      obtain ⟨g0, g1, g2, g3⟩ := HG.out
      refine bodyPost_ret (v := .agg #[.int .i64 2, .int .i64 0, .slice a7 n7 c7, .slice b7 m7 d7]) (by simp [results, Try.results22, go_sem, g0, g1, g2, g3]) rfl ⟨.slice a7 n7 c7, .slice b7 m7 d7, rfl, ?_, ?_⟩
      · exact (((((HB7.out.setLow (a := ⟨w.heap.size, 0, none⟩) (Nat.lt_succ_self _) _).setLow (a := ⟨w.heap.size, 1, none⟩) (Nat.lt_succ_self _) _).setLow (a := ⟨w.heap.size, 2, none⟩) (Nat.lt_succ_self _) _).setLow (a := ⟨w.heap.size, 3, none⟩) (Nat.lt_succ_self _) _).mono (Nat.le_succ_of_le HR7.out.hR))
      · exact ((((HR7.out.base.setCell (p := ⟨w.heap.size, 0, none⟩) HR7.out.hR _).setCell (p := ⟨w.heap.size, 1, none⟩) HR7.out.hR _).setCell (p := ⟨w.heap.size, 2, none⟩) HR7.out.hR _).setCell (p := ⟨w.heap.size, 3, none⟩) HR7.out.hR _)

end Go.Proofs.Ytpdplfgljjkjbaa.OrderSpec
/- The laws of the known relations of two tapes.
   Conditions: none. -/
namespace Go.Proofs.Ytpdplfgljjkjbaa.ClosedLaws
set_option linter.unusedVariables false
set_option linter.unusedSimpArgs false
set_option maxRecDepth 100000
open Go.RowKit Mem Copy Rel Valid Heap Push Bld ColMath Columns Numbers ToL TidyAuto TidyRight SpecRight SpecTidyRel ImplRight Automaton Known Sim ResKit Closed ClosedImpl
open OrderSpec ClosedSpecs2 MarkRow MarkBool MarkRows MarkRel MarkOf LawKit ClosedRels ClosedSpecs

set_option maxHeartbeats 8000000 in
theorem lawEqual (w : World) : Calls Try.prog 4 #[] w fun e w' => e = .returned (.bool true) ∧ Below w.heap.size w w' := by
  have hE : Keeps w.heap.size (fun _ => True) := fun _ _ _ _ => trivial
  have HE := Lib.hid hE
  have HS := Lib.hid (fun W => specEqual W)
  have HI := Lib.hid (fun W => implEqual W)
  have HTS := Lib.hid (tidyL_sum sEqual_ok lenEqual)
  have hnl := tidyNext_len sEqual
  have hal := lenEqual
  obtain ⟨A, hA⟩ : ∃ A, A = tidyAcc sEqual := ⟨_, rfl⟩
  obtain ⟨N, hN⟩ : ∃ N, N = tidyNext sEqual := ⟨_, rfl⟩
  rw [← hA, ← hN] at HS HI HTS hnl
  rw [← hA] at hal
  have HTN := Lib.hid (show N.length ≤ 5000 by omega)
  clear hA hN hnl hal hE
  obtain ⟨p, hp⟩ : ∃ p, p = 1 + A.length + sumTo (lenF N) N.length := ⟨_, rfl⟩
  have hp0 : p ≤ 5000 := by rw [hp]; exact HTS.out
  have hpp : ((p : Int) != (p : Int)) = false := by simp
  have HPP := Lib.hid hp
  clear hp
  go_enter Try.func4, Try.ntmps4
  go_wp2_with fail
  refine (HS.out _).mono ?_
  rintro e w1 ⟨wa, wn, rfl, hbu, hb⟩
  have W2 := Lib.hid (WK.new (K := 2) hbu 27)
  obtain ⟨a4, n4, c4, rfl, -⟩ := hbu.acc.shape'
  obtain ⟨items4, -, hnx, -⟩ := hbu.rows
  obtain ⟨b4, m4, d4, rfl, -⟩ := hnx.shape'
  have B2 := Lib.hid (base_box (base_step (Below.refl _ w) hb) (.cells #[.int .i64 2, .int .i64 0, .slice a4 n4 c4, .slice b4 m4 d4] 27))
  obtain ⟨P, hP⟩ : ∃ P, P = w1.heap.size := ⟨_, rfl⟩
  have HWP := Lib.hid (show w.heap.size ≤ P by rw [hP]; exact hb.size)
  have HI2 := HI.out (w1.alloc (.cells #[.int .i64 2, .int .i64 0, .slice a4 n4 c4, .slice b4 m4 d4] 27))
  rw [size_alloc', ← hP] at HI2
  have HI2 := Lib.hid HI2
  rw [← hP] at W2
  clear hbu hb hnx
  go_wp2_with fail
  rw [← hP]
  have HP1 := Lib.hid hP
  clear hP
  refine HI2.out.mono ?_
  rintro e w3 ⟨ga, gn, rfl, hbu, hb⟩
  have hb2 : Below (w1.alloc (.cells #[.int .i64 2, .int .i64 0, .slice a4 n4 c4, .slice b4 m4 d4] 27)).heap.size (w1.alloc (.cells #[.int .i64 2, .int .i64 0, .slice a4 n4 c4, .slice b4 m4 d4] 27)) w3 := by rw [size_alloc', ← HP1.out]; exact hb
  obtain ⟨V, hV⟩ := built_relF hbu
  have HNS := Lib.hid (not_size hV)
  have HLQ := Lib.hid (show P + 1 ≤ w3.heap.size by have := hb2.size; rw [size_alloc', ← HP1.out] at this; exact this)
  have S3 := Lib.hid (show St w w.heap.size (fun _ => True) P 2 (.slice a4 n4 c4) (.slice b4 m4 d4) A N (P + 1) ga gn V w3.heap.size (boolF A) (intF N) (w3.alloc (.cells #[.int .i64 2, .int .i64 0, ga, gn] 27)) from
    ⟨base_box (base_step B2.out hb2) _, trivial, (W2.out.step hb2).step ((Below.refl _ _).alloc (Nat.le_refl _) _), hV.below ((Below.refl _ _).alloc (Nat.le_refl _) _), Kept.new _ _ _ _ _ _, HNS.out, Nat.lt_succ_self _, HWP.out, Nat.le_refl _, HLQ.out⟩)
  have G3 := Lib.hid (hbu.below ((Below.refl _ _).alloc (Nat.le_refl _) (.cells #[.int .i64 2, .int .i64 0, ga, gn] 27)))
  have WB := W2.out.step hb2
  obtain ⟨⟨q0, q1, q2, q3⟩, hlq⟩ := WB.box
  obtain ⟨a8, n8, c8, rfl, -⟩ := hbu.acc.shape'
  obtain ⟨items8, -, hnx, -⟩ := hbu.rows
  obtain ⟨b8, m8, d8, rfl, -⟩ := hnx.shape'
  clear hb hb2 hbu hnx hV WB HI2 B2 W2 HNS HLQ HP1
  go_wp2_with fail
  obtain ⟨Q, hQ⟩ : ∃ Q, Q = w3.heap.size := ⟨_, rfl⟩
  rw [← hQ]
  rw [← hQ] at S3
  clear hQ
  refine (eqRelation _ _ ⟨2, 0, A, N⟩ ⟨2, 0, A, N⟩ _ _ (G3.out.reads _ (Nat.le_refl _) 2 0) S3.out.wk.read (Nat.le_refl _)).mono ?_
  rw [sameRel_self]
  rintro e w4 ⟨rfl, hb⟩
  have S4 := Lib.hid (S3.out.step HE.out hb)
  have HM2 := Lib.hid (markRel 2 0 _ _ _ _ _ V _ _ 1 (P + 1) _ S4.out.relf S4.out.lL (by have := HTN.out; omega) (by omega) (by have := HTS.out; omega) (fun h => by have := HTS.out; omega))
  rw [← HPP.out] at HM2
  clear hb q0 q1 q2 q3 hlq S3 G3
  obtain ⟨⟨g0, g1, g2, g3⟩, hlg⟩ := S4.out.gb
  go_wp2_with fail
  refine HM2.out.mono ?_
  rintro e w5 ⟨rfl, hrf, ho⟩
  have S5 := Lib.hid (S4.out.markG HE.out ho hrf)
  have HH := Lib.hid (fun W (h : St w w.heap.size (fun _ => True) P 2 (.slice a4 n4 c4) (.slice b4 m4 d4) A N (P + 1) (.slice a8 n8 c8) (.slice b8 m8 d8) V Q (fun i => .bool (markB (1 + i))) (fun i c => .int .i64 ((1 + A.length + sumTo (lenF N) i + c : Nat) : Int)) W) =>
    heldRel 2 0 _ _ A.length N.length V (lenF N) 1 (P + 1) W h.relf (by have := HTN.out; omega) (by omega) (by have := HTS.out; omega) (fun h => by have := HTS.out; omega))
  rw [← HPP.out] at HH
  clear ho hrf HM2 S4 g0 g1 g2 g3 hlg
  obtain ⟨⟨g0, g1, g2, g3⟩, hlg⟩ := S5.out.gb
  go_wp2_with fail
  refine (HH.out _ S5.out).mono ?_
  rintro e w6 ⟨rfl, hb⟩
  have S6 := Lib.hid (S5.out.step HE.out hb)
  clear hb S5 g0 g1 g2 g3 hlg
  go_wp2_with fail
  refine (HI.out _).mono ?_
  rintro e w7 ⟨ha, hn, rfl, hbu, hb⟩
  have H7 := Lib.hid (hbu.below ((Below.refl _ _).alloc (Nat.le_refl _) (.cells #[.int .i64 2, .int .i64 0, ha, hn] 27)))
  have S7 := S6.out.step HE.out hb
  have S8 := Lib.hid (S7.step HE.out ((Below.refl _ _).alloc (Nat.le_refl _) (.cells #[.int .i64 2, .int .i64 0, ha, hn] 27)))
  obtain ⟨⟨p0, p1, p2, p3⟩, hlp⟩ := S7.wk.box
  obtain ⟨a25, n25, c25, rfl, -⟩ := hbu.acc.shape'
  obtain ⟨items25, -, hnx, -⟩ := hbu.rows
  obtain ⟨b25, m25, d25, rfl, -⟩ := hnx.shape'
  clear hb hbu hnx S6 S7
  go_wp2_with fail
  refine (eqRelation _ _ ⟨2, 0, A, N⟩ ⟨2, 0, A, N⟩ _ _ (H7.out.reads _ (Nat.le_refl _) 2 0) S8.out.wk.read (Nat.le_refl _)).mono ?_
  rw [sameRel_self]
  rintro e w9 ⟨rfl, hb⟩
  have S9 := Lib.hid (S8.out.step HE.out hb)
  clear hb H7 S8 p0 p1 p2 p3 hlp
  obtain ⟨⟨g0, g1, g2, g3⟩, hlg⟩ := S9.out.gb
  go_wp2_with fail
  refine (HH.out _ S9.out).mono ?_
  rintro e w10 ⟨rfl, hb⟩
  have B10 := Lib.hid (base_step S9.out.base hb)
  go_wp2_with fail
  go_ret
  exact ⟨rfl, B10.out⟩

set_option maxHeartbeats 8000000 in
theorem lawPrefix (w : World) : Calls Try.prog 5 #[] w fun e w' => e = .returned (.bool true) ∧ Below w.heap.size w w' := by
  have hE : Keeps w.heap.size (fun _ => True) := fun _ _ _ _ => trivial
  have HE := Lib.hid hE
  have HS := Lib.hid (fun W => specPrefix W)
  have HI := Lib.hid (fun W => implPrefix W)
  have HTS := Lib.hid (tidyL_sum sPrefix_ok lenPrefix)
  have hnl := tidyNext_len sPrefix
  have hal := lenPrefix
  obtain ⟨A, hA⟩ : ∃ A, A = tidyAcc sPrefix := ⟨_, rfl⟩
  obtain ⟨N, hN⟩ : ∃ N, N = tidyNext sPrefix := ⟨_, rfl⟩
  rw [← hA, ← hN] at HS HI HTS hnl
  rw [← hA] at hal
  have HTN := Lib.hid (show N.length ≤ 5000 by omega)
  clear hA hN hnl hal hE
  obtain ⟨p, hp⟩ : ∃ p, p = 1 + A.length + sumTo (lenF N) N.length := ⟨_, rfl⟩
  have hp0 : p ≤ 5000 := by rw [hp]; exact HTS.out
  have hpp : ((p : Int) != (p : Int)) = false := by simp
  have HPP := Lib.hid hp
  clear hp
  go_enter Try.func5, Try.ntmps5
  go_wp2_with fail
  refine (HS.out _).mono ?_
  rintro e w1 ⟨wa, wn, rfl, hbu, hb⟩
  have W2 := Lib.hid (WK.new (K := 2) hbu 27)
  obtain ⟨a4, n4, c4, rfl, -⟩ := hbu.acc.shape'
  obtain ⟨items4, -, hnx, -⟩ := hbu.rows
  obtain ⟨b4, m4, d4, rfl, -⟩ := hnx.shape'
  have B2 := Lib.hid (base_box (base_step (Below.refl _ w) hb) (.cells #[.int .i64 2, .int .i64 0, .slice a4 n4 c4, .slice b4 m4 d4] 27))
  obtain ⟨P, hP⟩ : ∃ P, P = w1.heap.size := ⟨_, rfl⟩
  have HWP := Lib.hid (show w.heap.size ≤ P by rw [hP]; exact hb.size)
  have HI2 := HI.out (w1.alloc (.cells #[.int .i64 2, .int .i64 0, .slice a4 n4 c4, .slice b4 m4 d4] 27))
  rw [size_alloc', ← hP] at HI2
  have HI2 := Lib.hid HI2
  rw [← hP] at W2
  clear hbu hb hnx
  go_wp2_with fail
  rw [← hP]
  have HP1 := Lib.hid hP
  clear hP
  refine HI2.out.mono ?_
  rintro e w3 ⟨ga, gn, rfl, hbu, hb⟩
  have hb2 : Below (w1.alloc (.cells #[.int .i64 2, .int .i64 0, .slice a4 n4 c4, .slice b4 m4 d4] 27)).heap.size (w1.alloc (.cells #[.int .i64 2, .int .i64 0, .slice a4 n4 c4, .slice b4 m4 d4] 27)) w3 := by rw [size_alloc', ← HP1.out]; exact hb
  obtain ⟨V, hV⟩ := built_relF hbu
  have HNS := Lib.hid (not_size hV)
  have HLQ := Lib.hid (show P + 1 ≤ w3.heap.size by have := hb2.size; rw [size_alloc', ← HP1.out] at this; exact this)
  have S3 := Lib.hid (show St w w.heap.size (fun _ => True) P 2 (.slice a4 n4 c4) (.slice b4 m4 d4) A N (P + 1) ga gn V w3.heap.size (boolF A) (intF N) (w3.alloc (.cells #[.int .i64 2, .int .i64 0, ga, gn] 27)) from
    ⟨base_box (base_step B2.out hb2) _, trivial, (W2.out.step hb2).step ((Below.refl _ _).alloc (Nat.le_refl _) _), hV.below ((Below.refl _ _).alloc (Nat.le_refl _) _), Kept.new _ _ _ _ _ _, HNS.out, Nat.lt_succ_self _, HWP.out, Nat.le_refl _, HLQ.out⟩)
  have G3 := Lib.hid (hbu.below ((Below.refl _ _).alloc (Nat.le_refl _) (.cells #[.int .i64 2, .int .i64 0, ga, gn] 27)))
  have WB := W2.out.step hb2
  obtain ⟨⟨q0, q1, q2, q3⟩, hlq⟩ := WB.box
  obtain ⟨a8, n8, c8, rfl, -⟩ := hbu.acc.shape'
  obtain ⟨items8, -, hnx, -⟩ := hbu.rows
  obtain ⟨b8, m8, d8, rfl, -⟩ := hnx.shape'
  clear hb hb2 hbu hnx hV WB HI2 B2 W2 HNS HLQ HP1
  go_wp2_with fail
  obtain ⟨Q, hQ⟩ : ∃ Q, Q = w3.heap.size := ⟨_, rfl⟩
  rw [← hQ]
  rw [← hQ] at S3
  clear hQ
  refine (eqRelation _ _ ⟨2, 0, A, N⟩ ⟨2, 0, A, N⟩ _ _ (G3.out.reads _ (Nat.le_refl _) 2 0) S3.out.wk.read (Nat.le_refl _)).mono ?_
  rw [sameRel_self]
  rintro e w4 ⟨rfl, hb⟩
  have S4 := Lib.hid (S3.out.step HE.out hb)
  have HM2 := Lib.hid (markRel 2 0 _ _ _ _ _ V _ _ 1 (P + 1) _ S4.out.relf S4.out.lL (by have := HTN.out; omega) (by omega) (by have := HTS.out; omega) (fun h => by have := HTS.out; omega))
  rw [← HPP.out] at HM2
  clear hb q0 q1 q2 q3 hlq S3 G3
  obtain ⟨⟨g0, g1, g2, g3⟩, hlg⟩ := S4.out.gb
  go_wp2_with fail
  refine HM2.out.mono ?_
  rintro e w5 ⟨rfl, hrf, ho⟩
  have S5 := Lib.hid (S4.out.markG HE.out ho hrf)
  have HH := Lib.hid (fun W (h : St w w.heap.size (fun _ => True) P 2 (.slice a4 n4 c4) (.slice b4 m4 d4) A N (P + 1) (.slice a8 n8 c8) (.slice b8 m8 d8) V Q (fun i => .bool (markB (1 + i))) (fun i c => .int .i64 ((1 + A.length + sumTo (lenF N) i + c : Nat) : Int)) W) =>
    heldRel 2 0 _ _ A.length N.length V (lenF N) 1 (P + 1) W h.relf (by have := HTN.out; omega) (by omega) (by have := HTS.out; omega) (fun h => by have := HTS.out; omega))
  rw [← HPP.out] at HH
  clear ho hrf HM2 S4 g0 g1 g2 g3 hlg
  obtain ⟨⟨g0, g1, g2, g3⟩, hlg⟩ := S5.out.gb
  go_wp2_with fail
  refine (HH.out _ S5.out).mono ?_
  rintro e w6 ⟨rfl, hb⟩
  have S6 := Lib.hid (S5.out.step HE.out hb)
  clear hb S5 g0 g1 g2 g3 hlg
  go_wp2_with fail
  refine (HI.out _).mono ?_
  rintro e w7 ⟨ha, hn, rfl, hbu, hb⟩
  have H7 := Lib.hid (hbu.below ((Below.refl _ _).alloc (Nat.le_refl _) (.cells #[.int .i64 2, .int .i64 0, ha, hn] 27)))
  have S7 := S6.out.step HE.out hb
  have S8 := Lib.hid (S7.step HE.out ((Below.refl _ _).alloc (Nat.le_refl _) (.cells #[.int .i64 2, .int .i64 0, ha, hn] 27)))
  obtain ⟨⟨p0, p1, p2, p3⟩, hlp⟩ := S7.wk.box
  obtain ⟨a25, n25, c25, rfl, -⟩ := hbu.acc.shape'
  obtain ⟨items25, -, hnx, -⟩ := hbu.rows
  obtain ⟨b25, m25, d25, rfl, -⟩ := hnx.shape'
  clear hb hbu hnx S6 S7
  go_wp2_with fail
  refine (eqRelation _ _ ⟨2, 0, A, N⟩ ⟨2, 0, A, N⟩ _ _ (H7.out.reads _ (Nat.le_refl _) 2 0) S8.out.wk.read (Nat.le_refl _)).mono ?_
  rw [sameRel_self]
  rintro e w9 ⟨rfl, hb⟩
  have S9 := Lib.hid (S8.out.step HE.out hb)
  clear hb H7 S8 p0 p1 p2 p3 hlp
  obtain ⟨⟨g0, g1, g2, g3⟩, hlg⟩ := S9.out.gb
  go_wp2_with fail
  refine (HH.out _ S9.out).mono ?_
  rintro e w10 ⟨rfl, hb⟩
  have B10 := Lib.hid (base_step S9.out.base hb)
  go_wp2_with fail
  go_ret
  exact ⟨rfl, B10.out⟩

set_option maxHeartbeats 8000000 in
theorem lawSucc (w : World) : Calls Try.prog 7 #[] w fun e w' => e = .returned (.bool true) ∧ Below w.heap.size w w' := by
  have hE : Keeps w.heap.size (fun _ => True) := fun _ _ _ _ => trivial
  have HE := Lib.hid hE
  have HS := Lib.hid (fun W => specSucc W)
  have HI := Lib.hid (fun W => implSucc W)
  have HTS := Lib.hid (tidyL_sum sSucc_ok lenSucc)
  have hnl := tidyNext_len sSucc
  have hal := lenSucc
  obtain ⟨A, hA⟩ : ∃ A, A = tidyAcc sSucc := ⟨_, rfl⟩
  obtain ⟨N, hN⟩ : ∃ N, N = tidyNext sSucc := ⟨_, rfl⟩
  rw [← hA, ← hN] at HS HI HTS hnl
  rw [← hA] at hal
  have HTN := Lib.hid (show N.length ≤ 5000 by omega)
  clear hA hN hnl hal hE
  obtain ⟨p, hp⟩ : ∃ p, p = 1 + A.length + sumTo (lenF N) N.length := ⟨_, rfl⟩
  have hp0 : p ≤ 5000 := by rw [hp]; exact HTS.out
  have hpp : ((p : Int) != (p : Int)) = false := by simp
  have HPP := Lib.hid hp
  clear hp
  go_enter Try.func7, Try.ntmps7
  go_wp2_with fail
  refine (HS.out _).mono ?_
  rintro e w1 ⟨wa, wn, rfl, hbu, hb⟩
  have W2 := Lib.hid (WK.new (K := 2) hbu 27)
  obtain ⟨a4, n4, c4, rfl, -⟩ := hbu.acc.shape'
  obtain ⟨items4, -, hnx, -⟩ := hbu.rows
  obtain ⟨b4, m4, d4, rfl, -⟩ := hnx.shape'
  have B2 := Lib.hid (base_box (base_step (Below.refl _ w) hb) (.cells #[.int .i64 2, .int .i64 0, .slice a4 n4 c4, .slice b4 m4 d4] 27))
  obtain ⟨P, hP⟩ : ∃ P, P = w1.heap.size := ⟨_, rfl⟩
  have HWP := Lib.hid (show w.heap.size ≤ P by rw [hP]; exact hb.size)
  have HI2 := HI.out (w1.alloc (.cells #[.int .i64 2, .int .i64 0, .slice a4 n4 c4, .slice b4 m4 d4] 27))
  rw [size_alloc', ← hP] at HI2
  have HI2 := Lib.hid HI2
  rw [← hP] at W2
  clear hbu hb hnx
  go_wp2_with fail
  rw [← hP]
  have HP1 := Lib.hid hP
  clear hP
  refine HI2.out.mono ?_
  rintro e w3 ⟨ga, gn, rfl, hbu, hb⟩
  have hb2 : Below (w1.alloc (.cells #[.int .i64 2, .int .i64 0, .slice a4 n4 c4, .slice b4 m4 d4] 27)).heap.size (w1.alloc (.cells #[.int .i64 2, .int .i64 0, .slice a4 n4 c4, .slice b4 m4 d4] 27)) w3 := by rw [size_alloc', ← HP1.out]; exact hb
  obtain ⟨V, hV⟩ := built_relF hbu
  have HNS := Lib.hid (not_size hV)
  have HLQ := Lib.hid (show P + 1 ≤ w3.heap.size by have := hb2.size; rw [size_alloc', ← HP1.out] at this; exact this)
  have S3 := Lib.hid (show St w w.heap.size (fun _ => True) P 2 (.slice a4 n4 c4) (.slice b4 m4 d4) A N (P + 1) ga gn V w3.heap.size (boolF A) (intF N) (w3.alloc (.cells #[.int .i64 2, .int .i64 0, ga, gn] 27)) from
    ⟨base_box (base_step B2.out hb2) _, trivial, (W2.out.step hb2).step ((Below.refl _ _).alloc (Nat.le_refl _) _), hV.below ((Below.refl _ _).alloc (Nat.le_refl _) _), Kept.new _ _ _ _ _ _, HNS.out, Nat.lt_succ_self _, HWP.out, Nat.le_refl _, HLQ.out⟩)
  have G3 := Lib.hid (hbu.below ((Below.refl _ _).alloc (Nat.le_refl _) (.cells #[.int .i64 2, .int .i64 0, ga, gn] 27)))
  have WB := W2.out.step hb2
  obtain ⟨⟨q0, q1, q2, q3⟩, hlq⟩ := WB.box
  obtain ⟨a8, n8, c8, rfl, -⟩ := hbu.acc.shape'
  obtain ⟨items8, -, hnx, -⟩ := hbu.rows
  obtain ⟨b8, m8, d8, rfl, -⟩ := hnx.shape'
  clear hb hb2 hbu hnx hV WB HI2 B2 W2 HNS HLQ HP1
  go_wp2_with fail
  obtain ⟨Q, hQ⟩ : ∃ Q, Q = w3.heap.size := ⟨_, rfl⟩
  rw [← hQ]
  rw [← hQ] at S3
  clear hQ
  refine (eqRelation _ _ ⟨2, 0, A, N⟩ ⟨2, 0, A, N⟩ _ _ (G3.out.reads _ (Nat.le_refl _) 2 0) S3.out.wk.read (Nat.le_refl _)).mono ?_
  rw [sameRel_self]
  rintro e w4 ⟨rfl, hb⟩
  have S4 := Lib.hid (S3.out.step HE.out hb)
  have HM2 := Lib.hid (markRel 2 0 _ _ _ _ _ V _ _ 1 (P + 1) _ S4.out.relf S4.out.lL (by have := HTN.out; omega) (by omega) (by have := HTS.out; omega) (fun h => by have := HTS.out; omega))
  rw [← HPP.out] at HM2
  clear hb q0 q1 q2 q3 hlq S3 G3
  obtain ⟨⟨g0, g1, g2, g3⟩, hlg⟩ := S4.out.gb
  go_wp2_with fail
  refine HM2.out.mono ?_
  rintro e w5 ⟨rfl, hrf, ho⟩
  have S5 := Lib.hid (S4.out.markG HE.out ho hrf)
  have HH := Lib.hid (fun W (h : St w w.heap.size (fun _ => True) P 2 (.slice a4 n4 c4) (.slice b4 m4 d4) A N (P + 1) (.slice a8 n8 c8) (.slice b8 m8 d8) V Q (fun i => .bool (markB (1 + i))) (fun i c => .int .i64 ((1 + A.length + sumTo (lenF N) i + c : Nat) : Int)) W) =>
    heldRel 2 0 _ _ A.length N.length V (lenF N) 1 (P + 1) W h.relf (by have := HTN.out; omega) (by omega) (by have := HTS.out; omega) (fun h => by have := HTS.out; omega))
  rw [← HPP.out] at HH
  clear ho hrf HM2 S4 g0 g1 g2 g3 hlg
  obtain ⟨⟨g0, g1, g2, g3⟩, hlg⟩ := S5.out.gb
  go_wp2_with fail
  refine (HH.out _ S5.out).mono ?_
  rintro e w6 ⟨rfl, hb⟩
  have S6 := Lib.hid (S5.out.step HE.out hb)
  clear hb S5 g0 g1 g2 g3 hlg
  go_wp2_with fail
  refine (HI.out _).mono ?_
  rintro e w7 ⟨ha, hn, rfl, hbu, hb⟩
  have H7 := Lib.hid (hbu.below ((Below.refl _ _).alloc (Nat.le_refl _) (.cells #[.int .i64 2, .int .i64 0, ha, hn] 27)))
  have S7 := S6.out.step HE.out hb
  have S8 := Lib.hid (S7.step HE.out ((Below.refl _ _).alloc (Nat.le_refl _) (.cells #[.int .i64 2, .int .i64 0, ha, hn] 27)))
  obtain ⟨⟨p0, p1, p2, p3⟩, hlp⟩ := S7.wk.box
  obtain ⟨a25, n25, c25, rfl, -⟩ := hbu.acc.shape'
  obtain ⟨items25, -, hnx, -⟩ := hbu.rows
  obtain ⟨b25, m25, d25, rfl, -⟩ := hnx.shape'
  clear hb hbu hnx S6 S7
  go_wp2_with fail
  refine (eqRelation _ _ ⟨2, 0, A, N⟩ ⟨2, 0, A, N⟩ _ _ (H7.out.reads _ (Nat.le_refl _) 2 0) S8.out.wk.read (Nat.le_refl _)).mono ?_
  rw [sameRel_self]
  rintro e w9 ⟨rfl, hb⟩
  have S9 := Lib.hid (S8.out.step HE.out hb)
  clear hb H7 S8 p0 p1 p2 p3 hlp
  obtain ⟨⟨g0, g1, g2, g3⟩, hlg⟩ := S9.out.gb
  go_wp2_with fail
  refine (HH.out _ S9.out).mono ?_
  rintro e w10 ⟨rfl, hb⟩
  have B10 := Lib.hid (base_step S9.out.base hb)
  go_wp2_with fail
  go_ret
  exact ⟨rfl, B10.out⟩

set_option maxHeartbeats 8000000 in
theorem lawOrder (w : World) : Calls Try.prog 6 #[] w fun e w' => e = .returned (.bool true) ∧ Below w.heap.size w w' := by
  have hE : Keeps w.heap.size (fun _ => True) := fun _ _ _ _ => trivial
  have HE := Lib.hid hE
  have HS := Lib.hid (fun W => specOrder W)
  have HI := Lib.hid (fun W => implOrder W)
  have HTS := Lib.hid (tidyL_sum sOrder_ok lenOrder)
  have hnl := tidyNext_len sOrder
  have hal := lenOrder
  obtain ⟨A, hA⟩ : ∃ A, A = tidyAcc sOrder := ⟨_, rfl⟩
  obtain ⟨N, hN⟩ : ∃ N, N = tidyNext sOrder := ⟨_, rfl⟩
  rw [← hA, ← hN] at HS HI HTS hnl
  rw [← hA] at hal
  have HTN := Lib.hid (show N.length ≤ 5000 by omega)
  clear hA hN hnl hal hE
  obtain ⟨p, hp⟩ : ∃ p, p = 1 + A.length + sumTo (lenF N) N.length := ⟨_, rfl⟩
  have hp0 : p ≤ 5000 := by rw [hp]; exact HTS.out
  have hpp : ((p : Int) != (p : Int)) = false := by simp
  have HPP := Lib.hid hp
  clear hp
  go_enter Try.func6, Try.ntmps6
  go_wp2_with fail
  refine (HS.out _).mono ?_
  rintro e w1 ⟨wa, wn, rfl, hbu, hb⟩
  have W2 := Lib.hid (WK.new (K := 2) hbu 27)
  obtain ⟨a4, n4, c4, rfl, -⟩ := hbu.acc.shape'
  obtain ⟨items4, -, hnx, -⟩ := hbu.rows
  obtain ⟨b4, m4, d4, rfl, -⟩ := hnx.shape'
  have B2 := Lib.hid (base_box (base_step (Below.refl _ w) hb) (.cells #[.int .i64 2, .int .i64 0, .slice a4 n4 c4, .slice b4 m4 d4] 27))
  obtain ⟨P, hP⟩ : ∃ P, P = w1.heap.size := ⟨_, rfl⟩
  have HWP := Lib.hid (show w.heap.size ≤ P by rw [hP]; exact hb.size)
  have HI2 := HI.out (w1.alloc (.cells #[.int .i64 2, .int .i64 0, .slice a4 n4 c4, .slice b4 m4 d4] 27))
  rw [size_alloc', ← hP] at HI2
  have HI2 := Lib.hid HI2
  rw [← hP] at W2
  clear hbu hb hnx
  go_wp2_with fail
  rw [← hP]
  have HP1 := Lib.hid hP
  clear hP
  refine HI2.out.mono ?_
  rintro e w3 ⟨ga, gn, rfl, hbu, hb⟩
  have hb2 : Below (w1.alloc (.cells #[.int .i64 2, .int .i64 0, .slice a4 n4 c4, .slice b4 m4 d4] 27)).heap.size (w1.alloc (.cells #[.int .i64 2, .int .i64 0, .slice a4 n4 c4, .slice b4 m4 d4] 27)) w3 := by rw [size_alloc', ← HP1.out]; exact hb
  obtain ⟨V, hV⟩ := built_relF hbu
  have HNS := Lib.hid (not_size hV)
  have HLQ := Lib.hid (show P + 1 ≤ w3.heap.size by have := hb2.size; rw [size_alloc', ← HP1.out] at this; exact this)
  have S3 := Lib.hid (show St w w.heap.size (fun _ => True) P 2 (.slice a4 n4 c4) (.slice b4 m4 d4) A N (P + 1) ga gn V w3.heap.size (boolF A) (intF N) (w3.alloc (.cells #[.int .i64 2, .int .i64 0, ga, gn] 27)) from
    ⟨base_box (base_step B2.out hb2) _, trivial, (W2.out.step hb2).step ((Below.refl _ _).alloc (Nat.le_refl _) _), hV.below ((Below.refl _ _).alloc (Nat.le_refl _) _), Kept.new _ _ _ _ _ _, HNS.out, Nat.lt_succ_self _, HWP.out, Nat.le_refl _, HLQ.out⟩)
  have G3 := Lib.hid (hbu.below ((Below.refl _ _).alloc (Nat.le_refl _) (.cells #[.int .i64 2, .int .i64 0, ga, gn] 27)))
  have WB := W2.out.step hb2
  obtain ⟨⟨q0, q1, q2, q3⟩, hlq⟩ := WB.box
  obtain ⟨a8, n8, c8, rfl, -⟩ := hbu.acc.shape'
  obtain ⟨items8, -, hnx, -⟩ := hbu.rows
  obtain ⟨b8, m8, d8, rfl, -⟩ := hnx.shape'
  clear hb hb2 hbu hnx hV WB HI2 B2 W2 HNS HLQ HP1
  go_wp2_with fail
  obtain ⟨Q, hQ⟩ : ∃ Q, Q = w3.heap.size := ⟨_, rfl⟩
  rw [← hQ]
  rw [← hQ] at S3
  clear hQ
  refine (eqRelation _ _ ⟨2, 0, A, N⟩ ⟨2, 0, A, N⟩ _ _ (G3.out.reads _ (Nat.le_refl _) 2 0) S3.out.wk.read (Nat.le_refl _)).mono ?_
  rw [sameRel_self]
  rintro e w4 ⟨rfl, hb⟩
  have S4 := Lib.hid (S3.out.step HE.out hb)
  have HM2 := Lib.hid (markRel 2 0 _ _ _ _ _ V _ _ 1 (P + 1) _ S4.out.relf S4.out.lL (by have := HTN.out; omega) (by omega) (by have := HTS.out; omega) (fun h => by have := HTS.out; omega))
  rw [← HPP.out] at HM2
  clear hb q0 q1 q2 q3 hlq S3 G3
  obtain ⟨⟨g0, g1, g2, g3⟩, hlg⟩ := S4.out.gb
  go_wp2_with fail
  refine HM2.out.mono ?_
  rintro e w5 ⟨rfl, hrf, ho⟩
  have S5 := Lib.hid (S4.out.markG HE.out ho hrf)
  have HH := Lib.hid (fun W (h : St w w.heap.size (fun _ => True) P 2 (.slice a4 n4 c4) (.slice b4 m4 d4) A N (P + 1) (.slice a8 n8 c8) (.slice b8 m8 d8) V Q (fun i => .bool (markB (1 + i))) (fun i c => .int .i64 ((1 + A.length + sumTo (lenF N) i + c : Nat) : Int)) W) =>
    heldRel 2 0 _ _ A.length N.length V (lenF N) 1 (P + 1) W h.relf (by have := HTN.out; omega) (by omega) (by have := HTS.out; omega) (fun h => by have := HTS.out; omega))
  rw [← HPP.out] at HH
  clear ho hrf HM2 S4 g0 g1 g2 g3 hlg
  obtain ⟨⟨g0, g1, g2, g3⟩, hlg⟩ := S5.out.gb
  go_wp2_with fail
  refine (HH.out _ S5.out).mono ?_
  rintro e w6 ⟨rfl, hb⟩
  have S6 := Lib.hid (S5.out.step HE.out hb)
  clear hb S5 g0 g1 g2 g3 hlg
  go_wp2_with fail
  refine (HI.out _).mono ?_
  rintro e w7 ⟨ha, hn, rfl, hbu, hb⟩
  have H7 := Lib.hid (hbu.below ((Below.refl _ _).alloc (Nat.le_refl _) (.cells #[.int .i64 2, .int .i64 0, ha, hn] 27)))
  have S7 := S6.out.step HE.out hb
  have S8 := Lib.hid (S7.step HE.out ((Below.refl _ _).alloc (Nat.le_refl _) (.cells #[.int .i64 2, .int .i64 0, ha, hn] 27)))
  obtain ⟨⟨p0, p1, p2, p3⟩, hlp⟩ := S7.wk.box
  obtain ⟨a25, n25, c25, rfl, -⟩ := hbu.acc.shape'
  obtain ⟨items25, -, hnx, -⟩ := hbu.rows
  obtain ⟨b25, m25, d25, rfl, -⟩ := hnx.shape'
  clear hb hbu hnx S6 S7
  go_wp2_with fail
  refine (eqRelation _ _ ⟨2, 0, A, N⟩ ⟨2, 0, A, N⟩ _ _ (H7.out.reads _ (Nat.le_refl _) 2 0) S8.out.wk.read (Nat.le_refl _)).mono ?_
  rw [sameRel_self]
  rintro e w9 ⟨rfl, hb⟩
  have S9 := Lib.hid (S8.out.step HE.out hb)
  clear hb H7 S8 p0 p1 p2 p3 hlp
  obtain ⟨⟨g0, g1, g2, g3⟩, hlg⟩ := S9.out.gb
  go_wp2_with fail
  refine (HH.out _ S9.out).mono ?_
  rintro e w10 ⟨rfl, hb⟩
  have B10 := Lib.hid (base_step S9.out.base hb)
  go_wp2_with fail
  go_ret
  exact ⟨rfl, B10.out⟩

set_option maxHeartbeats 8000000 in
theorem lawTLen (n : Int) (K C : Int) (A : List Bool) (N : List (List Int)) (hS : ∀ W, Calls Try.prog 26 #[.int .i64 n] W fun e w' => ∃ va vn, e = .returned (.tuple #[.agg #[.int .i64 K, .int .i64 0, va, vn], .int .i64 C]) ∧ Built w' W.heap.size va vn A N ∧ Below W.heap.size W w')
    (hI : ∀ W, Calls Try.prog 27 #[.int .i64 n] W fun e w' => ∃ va vn, e = .returned (.tuple #[.agg #[.int .i64 K, .int .i64 0, va, vn], .int .i64 C]) ∧ Built w' W.heap.size va vn A N ∧ Below W.heap.size W w') (hT : 1 + A.length + sumTo (lenF N) N.length ≤ 5000) (hNl : N.length ≤ 5000) (w : World) :
    Calls Try.prog 8 #[.int .i64 n] w fun e w' => e = .returned (.bool true) ∧ Below w.heap.size w w' := by
  have HE := Lib.hid (show Keeps w.heap.size (fun _ => True) from fun _ _ _ _ => trivial)
  have HS := Lib.hid hS
  have HI := Lib.hid hI
  have HTS := Lib.hid hT
  have HTN := Lib.hid hNl
  have hcc : (C != C) = false := by simp
  clear hS hI hT hNl
  obtain ⟨p, hp⟩ : ∃ p, p = 1 + A.length + sumTo (lenF N) N.length := ⟨_, rfl⟩
  have hp0 : p ≤ 5000 := by rw [hp]; exact HTS.out
  have hpp : ((p : Int) != (p : Int)) = false := by simp
  have HPP := Lib.hid hp
  clear hp
  go_enter Try.func8, Try.ntmps8
  go_wp2_with fail
  refine (HS.out _).mono ?_
  rintro e w1 ⟨wa, wn, rfl, hbu, hb⟩
  have W2 := Lib.hid (WK.new (K := K) hbu 27)
  obtain ⟨a4, n4, c4, rfl, -⟩ := hbu.acc.shape'
  obtain ⟨items4, -, hnx, -⟩ := hbu.rows
  obtain ⟨b4, m4, d4, rfl, -⟩ := hnx.shape'
  have B2 := Lib.hid (base_box (base_step (Below.refl _ w) hb) (.cells #[.int .i64 K, .int .i64 0, .slice a4 n4 c4, .slice b4 m4 d4] 27))
  obtain ⟨P, hP⟩ : ∃ P, P = w1.heap.size := ⟨_, rfl⟩
  have HWP := Lib.hid (show w.heap.size ≤ P by rw [hP]; exact hb.size)
  have HI2 := HI.out (w1.alloc (.cells #[.int .i64 K, .int .i64 0, .slice a4 n4 c4, .slice b4 m4 d4] 27))
  rw [size_alloc', ← hP] at HI2
  have HI2 := Lib.hid HI2
  rw [← hP] at W2
  clear hbu hb hnx
  go_wp2_with fail
  rw [← hP]
  have HP1 := Lib.hid hP
  clear hP
  refine HI2.out.mono ?_
  rintro e w3 ⟨ga, gn, rfl, hbu, hb⟩
  have hb2 : Below (w1.alloc (.cells #[.int .i64 K, .int .i64 0, .slice a4 n4 c4, .slice b4 m4 d4] 27)).heap.size (w1.alloc (.cells #[.int .i64 K, .int .i64 0, .slice a4 n4 c4, .slice b4 m4 d4] 27)) w3 := by rw [size_alloc', ← HP1.out]; exact hb
  obtain ⟨V, hV⟩ := built_relF hbu
  have HNS := Lib.hid (not_size hV)
  have HLQ := Lib.hid (show P + 1 ≤ w3.heap.size by have := hb2.size; rw [size_alloc', ← HP1.out] at this; exact this)
  have S3 := Lib.hid (show St w w.heap.size (fun _ => True) P K (.slice a4 n4 c4) (.slice b4 m4 d4) A N (P + 1) ga gn V w3.heap.size (boolF A) (intF N) (w3.alloc (.cells #[.int .i64 K, .int .i64 0, ga, gn] 27)) from
    ⟨base_box (base_step B2.out hb2) _, trivial, (W2.out.step hb2).step ((Below.refl _ _).alloc (Nat.le_refl _) _), hV.below ((Below.refl _ _).alloc (Nat.le_refl _) _), Kept.new _ _ _ _ _ _, HNS.out, Nat.lt_succ_self _, HWP.out, Nat.le_refl _, HLQ.out⟩)
  have G3 := Lib.hid (hbu.below ((Below.refl _ _).alloc (Nat.le_refl _) (.cells #[.int .i64 K, .int .i64 0, ga, gn] 27)))
  have WB := W2.out.step hb2
  obtain ⟨⟨q0, q1, q2, q3⟩, hlq⟩ := WB.box
  obtain ⟨a8, n8, c8, rfl, -⟩ := hbu.acc.shape'
  obtain ⟨items8, -, hnx, -⟩ := hbu.rows
  obtain ⟨b8, m8, d8, rfl, -⟩ := hnx.shape'
  clear hb hb2 hbu hnx hV WB HI2 B2 W2 HNS HLQ HP1
  go_wp2_with fail
  obtain ⟨Q, hQ⟩ : ∃ Q, Q = w3.heap.size := ⟨_, rfl⟩
  rw [← hQ]
  rw [← hQ] at S3
  clear hQ
  refine (eqRelation _ _ ⟨K, 0, A, N⟩ ⟨K, 0, A, N⟩ _ _ (G3.out.reads _ (Nat.le_refl _) K 0) S3.out.wk.read (Nat.le_refl _)).mono ?_
  rw [sameRel_self]
  rintro e w4 ⟨rfl, hb⟩
  have S4 := Lib.hid (S3.out.step HE.out hb)
  have HM2 := Lib.hid (markRel K 0 _ _ _ _ _ V _ _ 1 (P + 1) _ S4.out.relf S4.out.lL (by have := HTN.out; omega) (by omega) (by have := HTS.out; omega) (fun h => by have := HTS.out; omega))
  rw [← HPP.out] at HM2
  clear hb q0 q1 q2 q3 hlq S3 G3
  obtain ⟨⟨g0, g1, g2, g3⟩, hlg⟩ := S4.out.gb
  go_wp2_with fail
  refine HM2.out.mono ?_
  rintro e w5 ⟨rfl, hrf, ho⟩
  have S5 := Lib.hid (S4.out.markG HE.out ho hrf)
  have HH := Lib.hid (fun W (h : St w w.heap.size (fun _ => True) P K (.slice a4 n4 c4) (.slice b4 m4 d4) A N (P + 1) (.slice a8 n8 c8) (.slice b8 m8 d8) V Q (fun i => .bool (markB (1 + i))) (fun i c => .int .i64 ((1 + A.length + sumTo (lenF N) i + c : Nat) : Int)) W) =>
    heldRel K 0 _ _ A.length N.length V (lenF N) 1 (P + 1) W h.relf (by have := HTN.out; omega) (by omega) (by have := HTS.out; omega) (fun h => by have := HTS.out; omega))
  rw [← HPP.out] at HH
  clear ho hrf HM2 S4 g0 g1 g2 g3 hlg
  obtain ⟨⟨g0, g1, g2, g3⟩, hlg⟩ := S5.out.gb
  go_wp2_with fail
  refine (HH.out _ S5.out).mono ?_
  rintro e w6 ⟨rfl, hb⟩
  have S6 := Lib.hid (S5.out.step HE.out hb)
  clear hb S5 g0 g1 g2 g3 hlg
  go_wp2_with fail
  refine (HI.out _).mono ?_
  rintro e w7 ⟨ha, hn, rfl, hbu, hb⟩
  have H7 := Lib.hid (hbu.below ((Below.refl _ _).alloc (Nat.le_refl _) (.cells #[.int .i64 K, .int .i64 0, ha, hn] 27)))
  have S7 := S6.out.step HE.out hb
  have S8 := Lib.hid (S7.step HE.out ((Below.refl _ _).alloc (Nat.le_refl _) (.cells #[.int .i64 K, .int .i64 0, ha, hn] 27)))
  obtain ⟨⟨p0, p1, p2, p3⟩, hlp⟩ := S7.wk.box
  obtain ⟨a25, n25, c25, rfl, -⟩ := hbu.acc.shape'
  obtain ⟨items25, -, hnx, -⟩ := hbu.rows
  obtain ⟨b25, m25, d25, rfl, -⟩ := hnx.shape'
  clear hb hbu hnx S6 S7
  go_wp2_with fail
  refine (eqRelation _ _ ⟨K, 0, A, N⟩ ⟨K, 0, A, N⟩ _ _ (H7.out.reads _ (Nat.le_refl _) K 0) S8.out.wk.read (Nat.le_refl _)).mono ?_
  rw [sameRel_self]
  rintro e w9 ⟨rfl, hb⟩
  have S9 := Lib.hid (S8.out.step HE.out hb)
  clear hb H7 S8 p0 p1 p2 p3 hlp
  obtain ⟨⟨g0, g1, g2, g3⟩, hlg⟩ := S9.out.gb
  go_wp2_with fail
  refine (HH.out _ S9.out).mono ?_
  rintro e w10 ⟨rfl, hb⟩
  have B10 := Lib.hid (base_step S9.out.base hb)
  go_wp2_with fail
  go_ret
  exact ⟨rfl, B10.out⟩

set_option maxHeartbeats 8000000 in
theorem lawTAll (n : Int) (K C : Int) (A : List Bool) (N : List (List Int)) (hS : ∀ W, Calls Try.prog 28 #[.int .i64 n] W fun e w' => ∃ va vn, e = .returned (.tuple #[.agg #[.int .i64 K, .int .i64 0, va, vn], .int .i64 C]) ∧ Built w' W.heap.size va vn A N ∧ Below W.heap.size W w')
    (hI : ∀ W, Calls Try.prog 29 #[.int .i64 n] W fun e w' => ∃ va vn, e = .returned (.tuple #[.agg #[.int .i64 K, .int .i64 0, va, vn], .int .i64 C]) ∧ Built w' W.heap.size va vn A N ∧ Below W.heap.size W w') (hT : 1 + A.length + sumTo (lenF N) N.length ≤ 5000) (hNl : N.length ≤ 5000) (w : World) :
    Calls Try.prog 9 #[.int .i64 n] w fun e w' => e = .returned (.bool true) ∧ Below w.heap.size w w' := by
  have HE := Lib.hid (show Keeps w.heap.size (fun _ => True) from fun _ _ _ _ => trivial)
  have HS := Lib.hid hS
  have HI := Lib.hid hI
  have HTS := Lib.hid hT
  have HTN := Lib.hid hNl
  have hcc : (C != C) = false := by simp
  clear hS hI hT hNl
  obtain ⟨p, hp⟩ : ∃ p, p = 1 + A.length + sumTo (lenF N) N.length := ⟨_, rfl⟩
  have hp0 : p ≤ 5000 := by rw [hp]; exact HTS.out
  have hpp : ((p : Int) != (p : Int)) = false := by simp
  have HPP := Lib.hid hp
  clear hp
  go_enter Try.func9, Try.ntmps9
  go_wp2_with fail
  refine (HS.out _).mono ?_
  rintro e w1 ⟨wa, wn, rfl, hbu, hb⟩
  have W2 := Lib.hid (WK.new (K := K) hbu 27)
  obtain ⟨a4, n4, c4, rfl, -⟩ := hbu.acc.shape'
  obtain ⟨items4, -, hnx, -⟩ := hbu.rows
  obtain ⟨b4, m4, d4, rfl, -⟩ := hnx.shape'
  have B2 := Lib.hid (base_box (base_step (Below.refl _ w) hb) (.cells #[.int .i64 K, .int .i64 0, .slice a4 n4 c4, .slice b4 m4 d4] 27))
  obtain ⟨P, hP⟩ : ∃ P, P = w1.heap.size := ⟨_, rfl⟩
  have HWP := Lib.hid (show w.heap.size ≤ P by rw [hP]; exact hb.size)
  have HI2 := HI.out (w1.alloc (.cells #[.int .i64 K, .int .i64 0, .slice a4 n4 c4, .slice b4 m4 d4] 27))
  rw [size_alloc', ← hP] at HI2
  have HI2 := Lib.hid HI2
  rw [← hP] at W2
  clear hbu hb hnx
  go_wp2_with fail
  rw [← hP]
  have HP1 := Lib.hid hP
  clear hP
  refine HI2.out.mono ?_
  rintro e w3 ⟨ga, gn, rfl, hbu, hb⟩
  have hb2 : Below (w1.alloc (.cells #[.int .i64 K, .int .i64 0, .slice a4 n4 c4, .slice b4 m4 d4] 27)).heap.size (w1.alloc (.cells #[.int .i64 K, .int .i64 0, .slice a4 n4 c4, .slice b4 m4 d4] 27)) w3 := by rw [size_alloc', ← HP1.out]; exact hb
  obtain ⟨V, hV⟩ := built_relF hbu
  have HNS := Lib.hid (not_size hV)
  have HLQ := Lib.hid (show P + 1 ≤ w3.heap.size by have := hb2.size; rw [size_alloc', ← HP1.out] at this; exact this)
  have S3 := Lib.hid (show St w w.heap.size (fun _ => True) P K (.slice a4 n4 c4) (.slice b4 m4 d4) A N (P + 1) ga gn V w3.heap.size (boolF A) (intF N) (w3.alloc (.cells #[.int .i64 K, .int .i64 0, ga, gn] 27)) from
    ⟨base_box (base_step B2.out hb2) _, trivial, (W2.out.step hb2).step ((Below.refl _ _).alloc (Nat.le_refl _) _), hV.below ((Below.refl _ _).alloc (Nat.le_refl _) _), Kept.new _ _ _ _ _ _, HNS.out, Nat.lt_succ_self _, HWP.out, Nat.le_refl _, HLQ.out⟩)
  have G3 := Lib.hid (hbu.below ((Below.refl _ _).alloc (Nat.le_refl _) (.cells #[.int .i64 K, .int .i64 0, ga, gn] 27)))
  have WB := W2.out.step hb2
  obtain ⟨⟨q0, q1, q2, q3⟩, hlq⟩ := WB.box
  obtain ⟨a8, n8, c8, rfl, -⟩ := hbu.acc.shape'
  obtain ⟨items8, -, hnx, -⟩ := hbu.rows
  obtain ⟨b8, m8, d8, rfl, -⟩ := hnx.shape'
  clear hb hb2 hbu hnx hV WB HI2 B2 W2 HNS HLQ HP1
  go_wp2_with fail
  obtain ⟨Q, hQ⟩ : ∃ Q, Q = w3.heap.size := ⟨_, rfl⟩
  rw [← hQ]
  rw [← hQ] at S3
  clear hQ
  refine (eqRelation _ _ ⟨K, 0, A, N⟩ ⟨K, 0, A, N⟩ _ _ (G3.out.reads _ (Nat.le_refl _) K 0) S3.out.wk.read (Nat.le_refl _)).mono ?_
  rw [sameRel_self]
  rintro e w4 ⟨rfl, hb⟩
  have S4 := Lib.hid (S3.out.step HE.out hb)
  have HM2 := Lib.hid (markRel K 0 _ _ _ _ _ V _ _ 1 (P + 1) _ S4.out.relf S4.out.lL (by have := HTN.out; omega) (by omega) (by have := HTS.out; omega) (fun h => by have := HTS.out; omega))
  rw [← HPP.out] at HM2
  clear hb q0 q1 q2 q3 hlq S3 G3
  obtain ⟨⟨g0, g1, g2, g3⟩, hlg⟩ := S4.out.gb
  go_wp2_with fail
  refine HM2.out.mono ?_
  rintro e w5 ⟨rfl, hrf, ho⟩
  have S5 := Lib.hid (S4.out.markG HE.out ho hrf)
  have HH := Lib.hid (fun W (h : St w w.heap.size (fun _ => True) P K (.slice a4 n4 c4) (.slice b4 m4 d4) A N (P + 1) (.slice a8 n8 c8) (.slice b8 m8 d8) V Q (fun i => .bool (markB (1 + i))) (fun i c => .int .i64 ((1 + A.length + sumTo (lenF N) i + c : Nat) : Int)) W) =>
    heldRel K 0 _ _ A.length N.length V (lenF N) 1 (P + 1) W h.relf (by have := HTN.out; omega) (by omega) (by have := HTS.out; omega) (fun h => by have := HTS.out; omega))
  rw [← HPP.out] at HH
  clear ho hrf HM2 S4 g0 g1 g2 g3 hlg
  obtain ⟨⟨g0, g1, g2, g3⟩, hlg⟩ := S5.out.gb
  go_wp2_with fail
  refine (HH.out _ S5.out).mono ?_
  rintro e w6 ⟨rfl, hb⟩
  have S6 := Lib.hid (S5.out.step HE.out hb)
  clear hb S5 g0 g1 g2 g3 hlg
  go_wp2_with fail
  refine (HI.out _).mono ?_
  rintro e w7 ⟨ha, hn, rfl, hbu, hb⟩
  have H7 := Lib.hid (hbu.below ((Below.refl _ _).alloc (Nat.le_refl _) (.cells #[.int .i64 K, .int .i64 0, ha, hn] 27)))
  have S7 := S6.out.step HE.out hb
  have S8 := Lib.hid (S7.step HE.out ((Below.refl _ _).alloc (Nat.le_refl _) (.cells #[.int .i64 K, .int .i64 0, ha, hn] 27)))
  obtain ⟨⟨p0, p1, p2, p3⟩, hlp⟩ := S7.wk.box
  obtain ⟨a25, n25, c25, rfl, -⟩ := hbu.acc.shape'
  obtain ⟨items25, -, hnx, -⟩ := hbu.rows
  obtain ⟨b25, m25, d25, rfl, -⟩ := hnx.shape'
  clear hb hbu hnx S6 S7
  go_wp2_with fail
  refine (eqRelation _ _ ⟨K, 0, A, N⟩ ⟨K, 0, A, N⟩ _ _ (H7.out.reads _ (Nat.le_refl _) K 0) S8.out.wk.read (Nat.le_refl _)).mono ?_
  rw [sameRel_self]
  rintro e w9 ⟨rfl, hb⟩
  have S9 := Lib.hid (S8.out.step HE.out hb)
  clear hb H7 S8 p0 p1 p2 p3 hlp
  obtain ⟨⟨g0, g1, g2, g3⟩, hlg⟩ := S9.out.gb
  go_wp2_with fail
  refine (HH.out _ S9.out).mono ?_
  rintro e w10 ⟨rfl, hb⟩
  have B10 := Lib.hid (base_step S9.out.base hb)
  go_wp2_with fail
  go_ret
  exact ⟨rfl, B10.out⟩

theorem none_sum : 1 + ([] : List Bool).length + sumTo (lenF []) ([] : List (List Int)).length ≤ 5000 := by decide
theorem lawLen (w : World) (n : Int) (hw : (Lit.int .i64 n).wf = true) : Calls Try.prog 8 #[.int .i64 n] w fun e w' => e = .returned (.bool true) ∧ Below w.heap.size w w' := by
  by_cases h : n < 1 ∨ 3 < n
  · exact lawTLen n 0 2 [] [] (fun W => (specLenBad n h W).mono fun e w' ⟨he, hb⟩ => ⟨.slice none 0 0, .slice none 0 0, he, built_none _ _, hb⟩) (fun W => (implLenBad n h W).mono fun e w' ⟨he, hb⟩ => ⟨.slice none 0 0, .slice none 0 0, he, built_none _ _, hb⟩) none_sum (by decide) w
  · have : n = 1 ∨ n = 2 ∨ n = 3 := by omega
    rcases this with rfl | rfl | rfl
    · exact lawTLen 1 2 0 _ _ specLen1 implLen1 (tidyL_sum sLen1_ok lenLen1) (by have := tidyNext_len sLen1; have := lenLen1; omega) w
    · exact lawTLen 2 2 0 _ _ specLen2 implLen2 (tidyL_sum sLen2_ok lenLen2) (by have := tidyNext_len sLen2; have := lenLen2; omega) w
    · exact lawTLen 3 2 0 _ _ specLen3 implLen3 (tidyL_sum sLen3_ok lenLen3) (by have := tidyNext_len sLen3; have := lenLen3; omega) w
theorem lawAll (w : World) (n : Int) (hw : (Lit.int .i64 n).wf = true) : Calls Try.prog 9 #[.int .i64 n] w fun e w' => e = .returned (.bool true) ∧ Below w.heap.size w w' := by
  by_cases h : n < 1 ∨ 3 < n
  · exact lawTAll n 0 2 [] [] (fun W => (specAllBad n h W).mono fun e w' ⟨he, hb⟩ => ⟨.slice none 0 0, .slice none 0 0, he, built_none _ _, hb⟩) (fun W => (implAllBad n h W).mono fun e w' ⟨he, hb⟩ => ⟨.slice none 0 0, .slice none 0 0, he, built_none _ _, hb⟩) none_sum (by decide) w
  · obtain ⟨k, rfl⟩ : ∃ k : Nat, n = k := ⟨n.toNat, by omega⟩
    have h1 : 1 ≤ k := by omega
    have h3 : k ≤ 3 := by omega
    have hl : (tidyAcc (lAll k)).length ≤ 150 := lenAll k h1 h3
    exact lawTAll k k 0 _ _ (specAll k h1 h3) (implAll k h1 h3) (tidyL_sum (iAll_ok k h1 h3) hl) (by have h4 := tidyNext_len (lAll k); omega) w

end Go.Proofs.Ytpdplfgljjkjbaa.ClosedLaws
