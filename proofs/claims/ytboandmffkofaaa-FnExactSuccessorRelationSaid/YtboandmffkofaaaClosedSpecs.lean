/- What the model's functions for the known relations hand back.
   Conditions: stated at each theorem. -/
import Derived.Test.YtboandmffkofaaaClosedRels
import Derived.Test.YtboandmffkofaaaClosedImpl
namespace Go.Proofs.Ytboandmffkofaaa.ClosedSpecs
set_option linter.unusedVariables false
set_option linter.unusedSimpArgs false
set_option maxRecDepth 100000
open Go.RowKit Mem Copy Rel Valid Heap Bld ColMath Columns Numbers ToL TidyAuto TidyRight SpecRight SpecTidyRel ImplRight Automaton Known Sim ResKit Closed ClosedImpl
open ClosedRels

/-- Rows of numbers, each laid in a block of its own. -/
def layRows (t : TypeId) : World → List (List Int) → World
  | W, [] => W
  | W, r :: ms => layRows t (W.alloc (.cells (r.map (Value.int .i64)).toArray t)) ms
theorem layRows_size (t : TypeId) (ms : List (List Int)) : ∀ W : World, (layRows t W ms).heap.size = W.heap.size + ms.length := by
  induction ms with
  | nil => intro W; rfl
  | cons r ms ih => intro W; unfold layRows; rw [ih, size_alloc', List.length_cons]; omega
theorem layRows_below (t : TypeId) (ms : List (List Int)) : ∀ W : World, Below W.heap.size W (layRows t W ms) := by
  induction ms with
  | nil => intro W; exact Below.refl _ _
  | cons r ms ih => intro W; unfold layRows; exact base_step ((Below.refl _ _).alloc (Nat.le_refl _) _) (ih _)
theorem layRows_get (t : TypeId) (ms : List (List Int)) : ∀ (W : World) (i : Nat), i < ms.length → (layRows t W ms).heap[W.heap.size + i]? = some (.cells ((ms.getD i []).map (Value.int .i64)).toArray t (0, 0)) := by
  induction ms with
  | nil => intro W i h; exact absurd h (Nat.not_lt_zero i)
  | cons r ms ih =>
    intro W i h
    unfold layRows
    cases i with
    | zero =>
      rw [Nat.add_zero, (layRows_below t ms _).block _ (by rw [size_alloc']; omega)]
      exact heap_alloc_new _ _
    | succ i =>
      have := ih (W.alloc (.cells (r.map (Value.int .i64)).toArray t)) i (by simpa using h)
      rw [size_alloc'] at this
      rw [show W.heap.size + (i + 1) = W.heap.size + 1 + i by omega]
      exact this
theorem rows_lit (W : World) (ms : List (List Int)) (N : Nat) (hN : W.heap.size = N) (t t' : TypeId) (outer : Array Value) (ho : outer = ((List.range ms.length).map fun i => Value.slice (some ⟨N + i, 0, none⟩) 3 3).toArray) (h3 : ∀ i, i < ms.length → (ms.getD i []).length = 3) (hm : ms.length ≤ 1000) (C : Nat) (hC : ((layRows t W ms).alloc (.cells outer t')).heap.size ≤ C) :
    IntRows ((layRows t W ms).alloc (.cells outer t')) C (.slice (some ⟨N + ms.length, 0, none⟩) ms.length ms.length) ms := by
  have hsz := layRows_size t ms W
  rw [hN] at hsz
  rw [size_alloc'] at hC
  refine ⟨fun i => Value.slice (some ⟨N + i, 0, none⟩) 3 3, ⟨_, N + ms.length, 0, _, rfl, by unfold maxLen; omega, fun _ => ⟨rfl, by omega⟩, fun i hi => ?_⟩, fun i hi => ?_⟩
  · rw [← hsz, World.cell?_alloc_mark, ho]
    simp [hi]
  · have hg := layRows_get t ms W i hi
    rw [hN] at hg
    have h0 := h3 i hi
    refine ⟨_, N + i, 0, 3, by rw [h0], by unfold maxLen; omega, fun _ => ⟨rfl, by omega⟩, fun j hj => ?_⟩
    have hb : ((layRows t W ms).alloc (.cells outer t')).heap[N + i]? = some (.cells ((ms.getD i []).map (Value.int .i64)).toArray t (0, 0)) := by
      rw [Below.heap_alloc _ _ _ (by omega)]; exact hg
    rw [cells_get hb]
    clear hb hg
    revert hj h0
    generalize ms.getD i [] = r
    intro h0 hj
    simp [List.getD, hj]

set_option maxHeartbeats 8000000 in
theorem specEqual (w : World) : Calls Try.prog 19 #[] w fun e w' => ∃ va vn, e = .returned (.agg #[.int .i64 2, .int .i64 0, va, vn]) ∧ Built w' w.heap.size va vn (tidyAcc sEqual) (tidyNext sEqual) ∧ Below w.heap.size w w' := by
  obtain ⟨W1, hW1⟩ : ∃ W1, W1 = ((((w.alloc (.cells #[Value.int .i64 0, .int .i64 0, .slice none 0 0, .slice none 0 0] 27)).alloc (.cells #[.bool true] 4)).alloc (.cells #[.int .i64 0, .int .i64 0, .int .i64 0] 2)).alloc (.cells #[.int .i64 0, .int .i64 4, .int .i64 0] 2)).alloc (.cells #[.slice (some ⟨w.heap.size + 1 + 1, 0, none⟩) 3 3, .slice (some ⟨w.heap.size + 1 + 1 + 1, 0, none⟩) 3 3] 61) := ⟨_, rfl⟩
  have hWL : W1 = (layRows 2 ((w.alloc (.cells #[Value.int .i64 0, .int .i64 0, .slice none 0 0, .slice none 0 0] 27)).alloc (.cells #[.bool true] 4)) mEqual).alloc (.cells #[.slice (some ⟨w.heap.size + 1 + 1, 0, none⟩) 3 3, .slice (some ⟨w.heap.size + 1 + 1 + 1, 0, none⟩) 3 3] 61) := by rw [hW1]; rfl
  have hb0 : Below ((w.alloc (.cells #[Value.int .i64 0, .int .i64 0, .slice none 0 0, .slice none 0 0] 27)).alloc (.cells #[.bool true] 4)).heap.size ((w.alloc (.cells #[Value.int .i64 0, .int .i64 0, .slice none 0 0, .slice none 0 0] 27)).alloc (.cells #[.bool true] 4)) W1 := by rw [hWL]; exact base_box (layRows_below _ _ _) _
  have hsz0 : ((w.alloc (.cells #[Value.int .i64 0, .int .i64 0, .slice none 0 0, .slice none 0 0] 27)).alloc (.cells #[.bool true] 4)).heap.size = w.heap.size + 1 + 1 := by rw [size_alloc', size_alloc']
  have HR := Lib.hid (show Res0 w w.heap.size W1 from ((Res0.new (Below.refl _ _)).alloc _).step hb0)
  have HL := Lib.hid (show Bools W1 W1.heap.size (.slice (some ⟨w.heap.size + 1, 0, none⟩) 1 1) [true] from by
    have := Lst.lit (w.alloc (.cells #[Value.int .i64 0, .int .i64 0, .slice none 0 0, .slice none 0 0] 27)) (w.heap.size + 1) 4 #[.bool true] (by simp) (by decide)
    rw [size_alloc'] at this
    exact lst_bools (xs := [true]) (Lst.below this hb0) _ (Nat.le_refl _))
  have HM := Lib.hid (show IntRows W1 W1.heap.size (.slice (some ⟨w.heap.size + 1 + 1 + 1 + 1, 0, none⟩) 2 2) mEqual from by
    rw [hWL]
    exact rows_lit ((w.alloc (.cells #[Value.int .i64 0, .int .i64 0, .slice none 0 0, .slice none 0 0] 27)).alloc (.cells #[.bool true] 4)) mEqual (w.heap.size + 1 + 1) hsz0 2 61 #[.slice (some ⟨w.heap.size + 1 + 1, 0, none⟩) 3 3, .slice (some ⟨w.heap.size + 1 + 1 + 1, 0, none⟩) 3 3] rfl (by decide) (by decide) _ (Nat.le_refl _))
  have HKN := Lib.hid (known (.slice (some ⟨w.heap.size + 1, 0, none⟩) 1 1) (.slice (some ⟨w.heap.size + 1 + 1 + 1 + 1, 0, none⟩) 2 2) [true] mEqual sEqual sEqual_ok sEqual_rel (by decide) (by decide) (by decide) (by decide) W1 W1.heap.size HL.out HM.out (Nat.le_refl _))
  clear hWL hb0 hsz0
  go_enter Try.func19, Try.ntmps19
  go_wp2_with fail
  rw [← hW1]
  clear hW1
  refine HKN.out.mono ?_
  rintro e w3 ⟨va3, vn3, rfl, hbu, hb⟩
  have HR3 := Lib.hid (HR.out.step hb)
  have HB3 := Lib.hid (show Built w3 (w.heap.size + 1) va3 vn3 (tidyAcc sEqual) (tidyNext sEqual) from hbu.mono HR.out.lt)
  clear hbu hb HKN
  have hres := HR3.out.res
  obtain ⟨a7, n7, c7, rfl, -⟩ := HB3.out.acc.shape'
  obtain ⟨items7, -, hnx7, -⟩ := HB3.out.rows
  obtain ⟨b7, m7, d7, rfl, -⟩ := hnx7.shape'
  have r0 := cells_get hres 0
  have r1 := cells_get hres 1
  have r2 := cells_get hres 2
  have r3 := cells_get hres 3
  have f0 := cells_free hres 0
  have f1 := cells_free hres 1
  have f2 := cells_free hres 2
  have f3 := cells_free hres 3
  have hlS := HR3.out.lt
  have p0 := cells_set hres 0 (.int .i64 2)
  have p1 := cells_set p0 1 (.int .i64 0)
  have p2 := cells_set p1 2 (.slice a7 n7 c7)
  have p3 := cells_set p2 3 (.slice b7 m7 d7)
  simp at r0 r1 r2 r3 p3
  have g0 := cells_get p3 0
  have g1 := cells_get p3 1
  have g2 := cells_get p3 2
  have g3 := cells_get p3 3
  simp at g0 g1 g2 g3
  have HG := Lib.hid (And.intro g0 (And.intro g1 (And.intro g2 g3)))
  clear p0 p1 p2 p3 g0 g1 g2 g3 hres hnx7
  go_wp2_with fail
  obtain ⟨g0, g1, g2, g3⟩ := HG.out
  refine bodyPost_ret (v := .agg #[.int .i64 2, .int .i64 0, .slice a7 n7 c7, .slice b7 m7 d7]) (by simp [results, Try.results19, go_sem, g0, g1, g2, g3]) rfl ⟨.slice a7 n7 c7, .slice b7 m7 d7, rfl, ?_, ?_⟩
  · exact (((((HB3.out.setLow (a := ⟨w.heap.size, 0, none⟩) (Nat.lt_succ_self _) _).setLow (a := ⟨w.heap.size, 1, none⟩) (Nat.lt_succ_self _) _).setLow (a := ⟨w.heap.size, 2, none⟩) (Nat.lt_succ_self _) _).setLow (a := ⟨w.heap.size, 3, none⟩) (Nat.lt_succ_self _) _).mono (Nat.le_succ_of_le HR3.out.hR))
  · exact ((((HR3.out.base.setCell (p := ⟨w.heap.size, 0, none⟩) HR3.out.hR _).setCell (p := ⟨w.heap.size, 1, none⟩) HR3.out.hR _).setCell (p := ⟨w.heap.size, 2, none⟩) HR3.out.hR _).setCell (p := ⟨w.heap.size, 3, none⟩) HR3.out.hR _)

set_option maxHeartbeats 8000000 in
theorem specPrefix (w : World) : Calls Try.prog 21 #[] w fun e w' => ∃ va vn, e = .returned (.agg #[.int .i64 2, .int .i64 0, va, vn]) ∧ Built w' w.heap.size va vn (tidyAcc sPrefix) (tidyNext sPrefix) ∧ Below w.heap.size w w' := by
  obtain ⟨W1, hW1⟩ : ∃ W1, W1 = ((((((((w.alloc (.cells #[Value.int .i64 0, .int .i64 0, .slice none 0 0, .slice none 0 0] 27)).alloc (.cells #[.bool true, .bool true] 4)).alloc (.cells #[.int .i64 0, .int .i64 0, .int .i64 0] 2)).alloc (.cells #[.int .i64 0, .int .i64 4, .int .i64 0] 2)).alloc (.cells #[.int .i64 0, .int .i64 2, .int .i64 1] 2)).alloc (.cells #[.int .i64 0, .int .i64 5, .int .i64 1] 2)).alloc (.cells #[.int .i64 1, .int .i64 2, .int .i64 1] 2)).alloc (.cells #[.int .i64 1, .int .i64 5, .int .i64 1] 2)).alloc (.cells #[.slice (some ⟨w.heap.size + 1 + 1, 0, none⟩) 3 3, .slice (some ⟨w.heap.size + 1 + 1 + 1, 0, none⟩) 3 3, .slice (some ⟨w.heap.size + 1 + 1 + 1 + 1, 0, none⟩) 3 3, .slice (some ⟨w.heap.size + 1 + 1 + 1 + 1 + 1, 0, none⟩) 3 3, .slice (some ⟨w.heap.size + 1 + 1 + 1 + 1 + 1 + 1, 0, none⟩) 3 3, .slice (some ⟨w.heap.size + 1 + 1 + 1 + 1 + 1 + 1 + 1, 0, none⟩) 3 3] 61) := ⟨_, rfl⟩
  have hWL : W1 = (layRows 2 ((w.alloc (.cells #[Value.int .i64 0, .int .i64 0, .slice none 0 0, .slice none 0 0] 27)).alloc (.cells #[.bool true, .bool true] 4)) mPrefix).alloc (.cells #[.slice (some ⟨w.heap.size + 1 + 1, 0, none⟩) 3 3, .slice (some ⟨w.heap.size + 1 + 1 + 1, 0, none⟩) 3 3, .slice (some ⟨w.heap.size + 1 + 1 + 1 + 1, 0, none⟩) 3 3, .slice (some ⟨w.heap.size + 1 + 1 + 1 + 1 + 1, 0, none⟩) 3 3, .slice (some ⟨w.heap.size + 1 + 1 + 1 + 1 + 1 + 1, 0, none⟩) 3 3, .slice (some ⟨w.heap.size + 1 + 1 + 1 + 1 + 1 + 1 + 1, 0, none⟩) 3 3] 61) := by rw [hW1]; rfl
  have hb0 : Below ((w.alloc (.cells #[Value.int .i64 0, .int .i64 0, .slice none 0 0, .slice none 0 0] 27)).alloc (.cells #[.bool true, .bool true] 4)).heap.size ((w.alloc (.cells #[Value.int .i64 0, .int .i64 0, .slice none 0 0, .slice none 0 0] 27)).alloc (.cells #[.bool true, .bool true] 4)) W1 := by rw [hWL]; exact base_box (layRows_below _ _ _) _
  have hsz0 : ((w.alloc (.cells #[Value.int .i64 0, .int .i64 0, .slice none 0 0, .slice none 0 0] 27)).alloc (.cells #[.bool true, .bool true] 4)).heap.size = w.heap.size + 1 + 1 := by rw [size_alloc', size_alloc']
  have HR := Lib.hid (show Res0 w w.heap.size W1 from ((Res0.new (Below.refl _ _)).alloc _).step hb0)
  have HL := Lib.hid (show Bools W1 W1.heap.size (.slice (some ⟨w.heap.size + 1, 0, none⟩) 2 2) [true, true] from by
    have := Lst.lit (w.alloc (.cells #[Value.int .i64 0, .int .i64 0, .slice none 0 0, .slice none 0 0] 27)) (w.heap.size + 1) 4 #[.bool true, .bool true] (by simp) (by decide)
    rw [size_alloc'] at this
    exact lst_bools (xs := [true, true]) (Lst.below this hb0) _ (Nat.le_refl _))
  have HM := Lib.hid (show IntRows W1 W1.heap.size (.slice (some ⟨w.heap.size + 1 + 1 + 1 + 1 + 1 + 1 + 1 + 1, 0, none⟩) 6 6) mPrefix from by
    rw [hWL]
    exact rows_lit ((w.alloc (.cells #[Value.int .i64 0, .int .i64 0, .slice none 0 0, .slice none 0 0] 27)).alloc (.cells #[.bool true, .bool true] 4)) mPrefix (w.heap.size + 1 + 1) hsz0 2 61 #[.slice (some ⟨w.heap.size + 1 + 1, 0, none⟩) 3 3, .slice (some ⟨w.heap.size + 1 + 1 + 1, 0, none⟩) 3 3, .slice (some ⟨w.heap.size + 1 + 1 + 1 + 1, 0, none⟩) 3 3, .slice (some ⟨w.heap.size + 1 + 1 + 1 + 1 + 1, 0, none⟩) 3 3, .slice (some ⟨w.heap.size + 1 + 1 + 1 + 1 + 1 + 1, 0, none⟩) 3 3, .slice (some ⟨w.heap.size + 1 + 1 + 1 + 1 + 1 + 1 + 1, 0, none⟩) 3 3] rfl (by decide) (by decide) _ (Nat.le_refl _))
  have HKN := Lib.hid (known (.slice (some ⟨w.heap.size + 1, 0, none⟩) 2 2) (.slice (some ⟨w.heap.size + 1 + 1 + 1 + 1 + 1 + 1 + 1 + 1, 0, none⟩) 6 6) [true, true] mPrefix sPrefix sPrefix_ok sPrefix_rel (by decide) (by decide) (by decide) (by decide) W1 W1.heap.size HL.out HM.out (Nat.le_refl _))
  clear hWL hb0 hsz0
  go_enter Try.func21, Try.ntmps21
  go_wp2_with fail
  rw [← hW1]
  clear hW1
  refine HKN.out.mono ?_
  rintro e w3 ⟨va3, vn3, rfl, hbu, hb⟩
  have HR3 := Lib.hid (HR.out.step hb)
  have HB3 := Lib.hid (show Built w3 (w.heap.size + 1) va3 vn3 (tidyAcc sPrefix) (tidyNext sPrefix) from hbu.mono HR.out.lt)
  clear hbu hb HKN
  have hres := HR3.out.res
  obtain ⟨a7, n7, c7, rfl, -⟩ := HB3.out.acc.shape'
  obtain ⟨items7, -, hnx7, -⟩ := HB3.out.rows
  obtain ⟨b7, m7, d7, rfl, -⟩ := hnx7.shape'
  have r0 := cells_get hres 0
  have r1 := cells_get hres 1
  have r2 := cells_get hres 2
  have r3 := cells_get hres 3
  have f0 := cells_free hres 0
  have f1 := cells_free hres 1
  have f2 := cells_free hres 2
  have f3 := cells_free hres 3
  have hlS := HR3.out.lt
  have p0 := cells_set hres 0 (.int .i64 2)
  have p1 := cells_set p0 1 (.int .i64 0)
  have p2 := cells_set p1 2 (.slice a7 n7 c7)
  have p3 := cells_set p2 3 (.slice b7 m7 d7)
  simp at r0 r1 r2 r3 p3
  have g0 := cells_get p3 0
  have g1 := cells_get p3 1
  have g2 := cells_get p3 2
  have g3 := cells_get p3 3
  simp at g0 g1 g2 g3
  have HG := Lib.hid (And.intro g0 (And.intro g1 (And.intro g2 g3)))
  clear p0 p1 p2 p3 g0 g1 g2 g3 hres hnx7
  go_wp2_with fail
  obtain ⟨g0, g1, g2, g3⟩ := HG.out
  refine bodyPost_ret (v := .agg #[.int .i64 2, .int .i64 0, .slice a7 n7 c7, .slice b7 m7 d7]) (by simp [results, Try.results21, go_sem, g0, g1, g2, g3]) rfl ⟨.slice a7 n7 c7, .slice b7 m7 d7, rfl, ?_, ?_⟩
  · exact (((((HB3.out.setLow (a := ⟨w.heap.size, 0, none⟩) (Nat.lt_succ_self _) _).setLow (a := ⟨w.heap.size, 1, none⟩) (Nat.lt_succ_self _) _).setLow (a := ⟨w.heap.size, 2, none⟩) (Nat.lt_succ_self _) _).setLow (a := ⟨w.heap.size, 3, none⟩) (Nat.lt_succ_self _) _).mono (Nat.le_succ_of_le HR3.out.hR))
  · exact ((((HR3.out.base.setCell (p := ⟨w.heap.size, 0, none⟩) HR3.out.hR _).setCell (p := ⟨w.heap.size, 1, none⟩) HR3.out.hR _).setCell (p := ⟨w.heap.size, 2, none⟩) HR3.out.hR _).setCell (p := ⟨w.heap.size, 3, none⟩) HR3.out.hR _)

set_option maxHeartbeats 8000000 in
theorem specSucc (w : World) : Calls Try.prog 25 #[] w fun e w' => ∃ va vn, e = .returned (.agg #[.int .i64 2, .int .i64 0, va, vn]) ∧ Built w' w.heap.size va vn (tidyAcc sSucc) (tidyNext sSucc) ∧ Below w.heap.size w w' := by
  obtain ⟨W1, hW1⟩ : ∃ W1, W1 = (((((((((((((w.alloc (.cells #[Value.int .i64 0, .int .i64 0, .slice none 0 0, .slice none 0 0] 27)).alloc (.cells #[.bool false, .bool false, .bool true, .bool false, .bool true] 4)).alloc (.cells #[.int .i64 0, .int .i64 0, .int .i64 1] 2)).alloc (.cells #[.int .i64 0, .int .i64 4, .int .i64 1] 2)).alloc (.cells #[.int .i64 0, .int .i64 3, .int .i64 2] 2)).alloc (.cells #[.int .i64 0, .int .i64 1, .int .i64 3] 2)).alloc (.cells #[.int .i64 0, .int .i64 2, .int .i64 4] 2)).alloc (.cells #[.int .i64 1, .int .i64 0, .int .i64 1] 2)).alloc (.cells #[.int .i64 1, .int .i64 4, .int .i64 1] 2)).alloc (.cells #[.int .i64 1, .int .i64 3, .int .i64 2] 2)).alloc (.cells #[.int .i64 2, .int .i64 1, .int .i64 2] 2)).alloc (.cells #[.int .i64 3, .int .i64 1, .int .i64 3] 2)).alloc (.cells #[.int .i64 3, .int .i64 2, .int .i64 4] 2)).alloc (.cells #[.slice (some ⟨w.heap.size + 1 + 1, 0, none⟩) 3 3, .slice (some ⟨w.heap.size + 1 + 1 + 1, 0, none⟩) 3 3, .slice (some ⟨w.heap.size + 1 + 1 + 1 + 1, 0, none⟩) 3 3, .slice (some ⟨w.heap.size + 1 + 1 + 1 + 1 + 1, 0, none⟩) 3 3, .slice (some ⟨w.heap.size + 1 + 1 + 1 + 1 + 1 + 1, 0, none⟩) 3 3, .slice (some ⟨w.heap.size + 1 + 1 + 1 + 1 + 1 + 1 + 1, 0, none⟩) 3 3, .slice (some ⟨w.heap.size + 1 + 1 + 1 + 1 + 1 + 1 + 1 + 1, 0, none⟩) 3 3, .slice (some ⟨w.heap.size + 1 + 1 + 1 + 1 + 1 + 1 + 1 + 1 + 1, 0, none⟩) 3 3, .slice (some ⟨w.heap.size + 1 + 1 + 1 + 1 + 1 + 1 + 1 + 1 + 1 + 1, 0, none⟩) 3 3, .slice (some ⟨w.heap.size + 1 + 1 + 1 + 1 + 1 + 1 + 1 + 1 + 1 + 1 + 1, 0, none⟩) 3 3, .slice (some ⟨w.heap.size + 1 + 1 + 1 + 1 + 1 + 1 + 1 + 1 + 1 + 1 + 1 + 1, 0, none⟩) 3 3] 61) := ⟨_, rfl⟩
  have hWL : W1 = (layRows 2 ((w.alloc (.cells #[Value.int .i64 0, .int .i64 0, .slice none 0 0, .slice none 0 0] 27)).alloc (.cells #[.bool false, .bool false, .bool true, .bool false, .bool true] 4)) mSucc).alloc (.cells #[.slice (some ⟨w.heap.size + 1 + 1, 0, none⟩) 3 3, .slice (some ⟨w.heap.size + 1 + 1 + 1, 0, none⟩) 3 3, .slice (some ⟨w.heap.size + 1 + 1 + 1 + 1, 0, none⟩) 3 3, .slice (some ⟨w.heap.size + 1 + 1 + 1 + 1 + 1, 0, none⟩) 3 3, .slice (some ⟨w.heap.size + 1 + 1 + 1 + 1 + 1 + 1, 0, none⟩) 3 3, .slice (some ⟨w.heap.size + 1 + 1 + 1 + 1 + 1 + 1 + 1, 0, none⟩) 3 3, .slice (some ⟨w.heap.size + 1 + 1 + 1 + 1 + 1 + 1 + 1 + 1, 0, none⟩) 3 3, .slice (some ⟨w.heap.size + 1 + 1 + 1 + 1 + 1 + 1 + 1 + 1 + 1, 0, none⟩) 3 3, .slice (some ⟨w.heap.size + 1 + 1 + 1 + 1 + 1 + 1 + 1 + 1 + 1 + 1, 0, none⟩) 3 3, .slice (some ⟨w.heap.size + 1 + 1 + 1 + 1 + 1 + 1 + 1 + 1 + 1 + 1 + 1, 0, none⟩) 3 3, .slice (some ⟨w.heap.size + 1 + 1 + 1 + 1 + 1 + 1 + 1 + 1 + 1 + 1 + 1 + 1, 0, none⟩) 3 3] 61) := by rw [hW1]; rfl
  have hb0 : Below ((w.alloc (.cells #[Value.int .i64 0, .int .i64 0, .slice none 0 0, .slice none 0 0] 27)).alloc (.cells #[.bool false, .bool false, .bool true, .bool false, .bool true] 4)).heap.size ((w.alloc (.cells #[Value.int .i64 0, .int .i64 0, .slice none 0 0, .slice none 0 0] 27)).alloc (.cells #[.bool false, .bool false, .bool true, .bool false, .bool true] 4)) W1 := by rw [hWL]; exact base_box (layRows_below _ _ _) _
  have hsz0 : ((w.alloc (.cells #[Value.int .i64 0, .int .i64 0, .slice none 0 0, .slice none 0 0] 27)).alloc (.cells #[.bool false, .bool false, .bool true, .bool false, .bool true] 4)).heap.size = w.heap.size + 1 + 1 := by rw [size_alloc', size_alloc']
  have HR := Lib.hid (show Res0 w w.heap.size W1 from ((Res0.new (Below.refl _ _)).alloc _).step hb0)
  have HL := Lib.hid (show Bools W1 W1.heap.size (.slice (some ⟨w.heap.size + 1, 0, none⟩) 5 5) [false, false, true, false, true] from by
    have := Lst.lit (w.alloc (.cells #[Value.int .i64 0, .int .i64 0, .slice none 0 0, .slice none 0 0] 27)) (w.heap.size + 1) 4 #[.bool false, .bool false, .bool true, .bool false, .bool true] (by simp) (by decide)
    rw [size_alloc'] at this
    exact lst_bools (xs := [false, false, true, false, true]) (Lst.below this hb0) _ (Nat.le_refl _))
  have HM := Lib.hid (show IntRows W1 W1.heap.size (.slice (some ⟨w.heap.size + 1 + 1 + 1 + 1 + 1 + 1 + 1 + 1 + 1 + 1 + 1 + 1 + 1, 0, none⟩) 11 11) mSucc from by
    rw [hWL]
    exact rows_lit ((w.alloc (.cells #[Value.int .i64 0, .int .i64 0, .slice none 0 0, .slice none 0 0] 27)).alloc (.cells #[.bool false, .bool false, .bool true, .bool false, .bool true] 4)) mSucc (w.heap.size + 1 + 1) hsz0 2 61 #[.slice (some ⟨w.heap.size + 1 + 1, 0, none⟩) 3 3, .slice (some ⟨w.heap.size + 1 + 1 + 1, 0, none⟩) 3 3, .slice (some ⟨w.heap.size + 1 + 1 + 1 + 1, 0, none⟩) 3 3, .slice (some ⟨w.heap.size + 1 + 1 + 1 + 1 + 1, 0, none⟩) 3 3, .slice (some ⟨w.heap.size + 1 + 1 + 1 + 1 + 1 + 1, 0, none⟩) 3 3, .slice (some ⟨w.heap.size + 1 + 1 + 1 + 1 + 1 + 1 + 1, 0, none⟩) 3 3, .slice (some ⟨w.heap.size + 1 + 1 + 1 + 1 + 1 + 1 + 1 + 1, 0, none⟩) 3 3, .slice (some ⟨w.heap.size + 1 + 1 + 1 + 1 + 1 + 1 + 1 + 1 + 1, 0, none⟩) 3 3, .slice (some ⟨w.heap.size + 1 + 1 + 1 + 1 + 1 + 1 + 1 + 1 + 1 + 1, 0, none⟩) 3 3, .slice (some ⟨w.heap.size + 1 + 1 + 1 + 1 + 1 + 1 + 1 + 1 + 1 + 1 + 1, 0, none⟩) 3 3, .slice (some ⟨w.heap.size + 1 + 1 + 1 + 1 + 1 + 1 + 1 + 1 + 1 + 1 + 1 + 1, 0, none⟩) 3 3] rfl (by decide) (by decide) _ (Nat.le_refl _))
  have HKN := Lib.hid (known (.slice (some ⟨w.heap.size + 1, 0, none⟩) 5 5) (.slice (some ⟨w.heap.size + 1 + 1 + 1 + 1 + 1 + 1 + 1 + 1 + 1 + 1 + 1 + 1 + 1, 0, none⟩) 11 11) [false, false, true, false, true] mSucc sSucc sSucc_ok sSucc_rel (by decide) (by decide) (by decide) (by decide) W1 W1.heap.size HL.out HM.out (Nat.le_refl _))
  clear hWL hb0 hsz0
  go_enter Try.func25, Try.ntmps25
  go_wp2_with fail
  rw [← hW1]
  clear hW1
  refine HKN.out.mono ?_
  rintro e w3 ⟨va3, vn3, rfl, hbu, hb⟩
  have HR3 := Lib.hid (HR.out.step hb)
  have HB3 := Lib.hid (show Built w3 (w.heap.size + 1) va3 vn3 (tidyAcc sSucc) (tidyNext sSucc) from hbu.mono HR.out.lt)
  clear hbu hb HKN
  have hres := HR3.out.res
  obtain ⟨a7, n7, c7, rfl, -⟩ := HB3.out.acc.shape'
  obtain ⟨items7, -, hnx7, -⟩ := HB3.out.rows
  obtain ⟨b7, m7, d7, rfl, -⟩ := hnx7.shape'
  have r0 := cells_get hres 0
  have r1 := cells_get hres 1
  have r2 := cells_get hres 2
  have r3 := cells_get hres 3
  have f0 := cells_free hres 0
  have f1 := cells_free hres 1
  have f2 := cells_free hres 2
  have f3 := cells_free hres 3
  have hlS := HR3.out.lt
  have p0 := cells_set hres 0 (.int .i64 2)
  have p1 := cells_set p0 1 (.int .i64 0)
  have p2 := cells_set p1 2 (.slice a7 n7 c7)
  have p3 := cells_set p2 3 (.slice b7 m7 d7)
  simp at r0 r1 r2 r3 p3
  have g0 := cells_get p3 0
  have g1 := cells_get p3 1
  have g2 := cells_get p3 2
  have g3 := cells_get p3 3
  simp at g0 g1 g2 g3
  have HG := Lib.hid (And.intro g0 (And.intro g1 (And.intro g2 g3)))
  clear p0 p1 p2 p3 g0 g1 g2 g3 hres hnx7
  go_wp2_with fail
  obtain ⟨g0, g1, g2, g3⟩ := HG.out
  refine bodyPost_ret (v := .agg #[.int .i64 2, .int .i64 0, .slice a7 n7 c7, .slice b7 m7 d7]) (by simp [results, Try.results25, go_sem, g0, g1, g2, g3]) rfl ⟨.slice a7 n7 c7, .slice b7 m7 d7, rfl, ?_, ?_⟩
  · exact (((((HB3.out.setLow (a := ⟨w.heap.size, 0, none⟩) (Nat.lt_succ_self _) _).setLow (a := ⟨w.heap.size, 1, none⟩) (Nat.lt_succ_self _) _).setLow (a := ⟨w.heap.size, 2, none⟩) (Nat.lt_succ_self _) _).setLow (a := ⟨w.heap.size, 3, none⟩) (Nat.lt_succ_self _) _).mono (Nat.le_succ_of_le HR3.out.hR))
  · exact ((((HR3.out.base.setCell (p := ⟨w.heap.size, 0, none⟩) HR3.out.hR _).setCell (p := ⟨w.heap.size, 1, none⟩) HR3.out.hR _).setCell (p := ⟨w.heap.size, 2, none⟩) HR3.out.hR _).setCell (p := ⟨w.heap.size, 3, none⟩) HR3.out.hR _)

set_option maxHeartbeats 8000000 in
theorem specLen1 (w : World) : Calls Try.prog 27 #[.int .i64 1] w fun e w' => ∃ va vn, e = .returned (.tuple #[.agg #[.int .i64 2, .int .i64 0, va, vn], .int .i64 0]) ∧ Built w' w.heap.size va vn (tidyAcc sLen1) (tidyNext sLen1) ∧ Below w.heap.size w w' := by
  obtain ⟨W1, hW1⟩ : ∃ W1, W1 = ((((((((((w.alloc (.cells #[Value.int .i64 0, .int .i64 0, .slice none 0 0, .slice none 0 0] 27)).alloc (.cells #[.bool true, .bool false] 4)).alloc (.cells #[.int .i64 0, .int .i64 0, .int .i64 0] 2)).alloc (.cells #[.int .i64 0, .int .i64 1, .int .i64 0] 2)).alloc (.cells #[.int .i64 0, .int .i64 3, .int .i64 0] 2)).alloc (.cells #[.int .i64 0, .int .i64 4, .int .i64 0] 2)).alloc (.cells #[.int .i64 0, .int .i64 2, .int .i64 1] 2)).alloc (.cells #[.int .i64 0, .int .i64 5, .int .i64 1] 2)).alloc (.cells #[.int .i64 1, .int .i64 2, .int .i64 1] 2)).alloc (.cells #[.int .i64 1, .int .i64 5, .int .i64 1] 2)).alloc (.cells #[.slice (some ⟨w.heap.size + 1 + 1, 0, none⟩) 3 3, .slice (some ⟨w.heap.size + 1 + 1 + 1, 0, none⟩) 3 3, .slice (some ⟨w.heap.size + 1 + 1 + 1 + 1, 0, none⟩) 3 3, .slice (some ⟨w.heap.size + 1 + 1 + 1 + 1 + 1, 0, none⟩) 3 3, .slice (some ⟨w.heap.size + 1 + 1 + 1 + 1 + 1 + 1, 0, none⟩) 3 3, .slice (some ⟨w.heap.size + 1 + 1 + 1 + 1 + 1 + 1 + 1, 0, none⟩) 3 3, .slice (some ⟨w.heap.size + 1 + 1 + 1 + 1 + 1 + 1 + 1 + 1, 0, none⟩) 3 3, .slice (some ⟨w.heap.size + 1 + 1 + 1 + 1 + 1 + 1 + 1 + 1 + 1, 0, none⟩) 3 3] 61) := ⟨_, rfl⟩
  have hWL : W1 = (layRows 2 ((w.alloc (.cells #[Value.int .i64 0, .int .i64 0, .slice none 0 0, .slice none 0 0] 27)).alloc (.cells #[.bool true, .bool false] 4)) mLen1).alloc (.cells #[.slice (some ⟨w.heap.size + 1 + 1, 0, none⟩) 3 3, .slice (some ⟨w.heap.size + 1 + 1 + 1, 0, none⟩) 3 3, .slice (some ⟨w.heap.size + 1 + 1 + 1 + 1, 0, none⟩) 3 3, .slice (some ⟨w.heap.size + 1 + 1 + 1 + 1 + 1, 0, none⟩) 3 3, .slice (some ⟨w.heap.size + 1 + 1 + 1 + 1 + 1 + 1, 0, none⟩) 3 3, .slice (some ⟨w.heap.size + 1 + 1 + 1 + 1 + 1 + 1 + 1, 0, none⟩) 3 3, .slice (some ⟨w.heap.size + 1 + 1 + 1 + 1 + 1 + 1 + 1 + 1, 0, none⟩) 3 3, .slice (some ⟨w.heap.size + 1 + 1 + 1 + 1 + 1 + 1 + 1 + 1 + 1, 0, none⟩) 3 3] 61) := by rw [hW1]; rfl
  have hb0 : Below ((w.alloc (.cells #[Value.int .i64 0, .int .i64 0, .slice none 0 0, .slice none 0 0] 27)).alloc (.cells #[.bool true, .bool false] 4)).heap.size ((w.alloc (.cells #[Value.int .i64 0, .int .i64 0, .slice none 0 0, .slice none 0 0] 27)).alloc (.cells #[.bool true, .bool false] 4)) W1 := by rw [hWL]; exact base_box (layRows_below _ _ _) _
  have hsz0 : ((w.alloc (.cells #[Value.int .i64 0, .int .i64 0, .slice none 0 0, .slice none 0 0] 27)).alloc (.cells #[.bool true, .bool false] 4)).heap.size = w.heap.size + 1 + 1 := by rw [size_alloc', size_alloc']
  have HR := Lib.hid (show Res0 w w.heap.size W1 from ((Res0.new (Below.refl _ _)).alloc _).step hb0)
  have HL := Lib.hid (show Bools W1 W1.heap.size (.slice (some ⟨w.heap.size + 1, 0, none⟩) 2 2) [true, false] from by
    have := Lst.lit (w.alloc (.cells #[Value.int .i64 0, .int .i64 0, .slice none 0 0, .slice none 0 0] 27)) (w.heap.size + 1) 4 #[.bool true, .bool false] (by simp) (by decide)
    rw [size_alloc'] at this
    exact lst_bools (xs := [true, false]) (Lst.below this hb0) _ (Nat.le_refl _))
  have HM := Lib.hid (show IntRows W1 W1.heap.size (.slice (some ⟨w.heap.size + 1 + 1 + 1 + 1 + 1 + 1 + 1 + 1 + 1 + 1, 0, none⟩) 8 8) mLen1 from by
    rw [hWL]
    exact rows_lit ((w.alloc (.cells #[Value.int .i64 0, .int .i64 0, .slice none 0 0, .slice none 0 0] 27)).alloc (.cells #[.bool true, .bool false] 4)) mLen1 (w.heap.size + 1 + 1) hsz0 2 61 #[.slice (some ⟨w.heap.size + 1 + 1, 0, none⟩) 3 3, .slice (some ⟨w.heap.size + 1 + 1 + 1, 0, none⟩) 3 3, .slice (some ⟨w.heap.size + 1 + 1 + 1 + 1, 0, none⟩) 3 3, .slice (some ⟨w.heap.size + 1 + 1 + 1 + 1 + 1, 0, none⟩) 3 3, .slice (some ⟨w.heap.size + 1 + 1 + 1 + 1 + 1 + 1, 0, none⟩) 3 3, .slice (some ⟨w.heap.size + 1 + 1 + 1 + 1 + 1 + 1 + 1, 0, none⟩) 3 3, .slice (some ⟨w.heap.size + 1 + 1 + 1 + 1 + 1 + 1 + 1 + 1, 0, none⟩) 3 3, .slice (some ⟨w.heap.size + 1 + 1 + 1 + 1 + 1 + 1 + 1 + 1 + 1, 0, none⟩) 3 3] rfl (by decide) (by decide) _ (Nat.le_refl _))
  have HKN := Lib.hid (known (.slice (some ⟨w.heap.size + 1, 0, none⟩) 2 2) (.slice (some ⟨w.heap.size + 1 + 1 + 1 + 1 + 1 + 1 + 1 + 1 + 1 + 1, 0, none⟩) 8 8) [true, false] mLen1 sLen1 sLen1_ok sLen1_rel (by decide) (by decide) (by decide) (by decide) W1 W1.heap.size HL.out HM.out (Nat.le_refl _))
  clear hWL hb0 hsz0
  have HIN := Lib.hid (fun W => show Calls Try.prog 60 #[.int .i64 1, .int .i64 1, .int .i64 3] W fun e w' => e = .returned (.bool true) ∧ W = w' from inRange 1 1 3 W)
  go_enter Try.func27, Try.ntmps27
  go_wp2_with (go_at_call 60; refine (HIN.out _).mono ?_; rintro e w' ⟨rfl, rfl⟩)
  rw [← hW1]
  clear hW1
  refine HKN.out.mono ?_
  rintro e w3 ⟨va3, vn3, rfl, hbu, hb⟩
  have HR3 := Lib.hid (HR.out.step hb)
  have HB3 := Lib.hid (show Built w3 (w.heap.size + 1) va3 vn3 (tidyAcc sLen1) (tidyNext sLen1) from hbu.mono HR.out.lt)
  clear hbu hb HKN
  have hres := HR3.out.res
  obtain ⟨a7, n7, c7, rfl, -⟩ := HB3.out.acc.shape'
  obtain ⟨items7, -, hnx7, -⟩ := HB3.out.rows
  obtain ⟨b7, m7, d7, rfl, -⟩ := hnx7.shape'
  have r0 := cells_get hres 0
  have r1 := cells_get hres 1
  have r2 := cells_get hres 2
  have r3 := cells_get hres 3
  have f0 := cells_free hres 0
  have f1 := cells_free hres 1
  have f2 := cells_free hres 2
  have f3 := cells_free hres 3
  have hlS := HR3.out.lt
  have p0 := cells_set hres 0 (.int .i64 2)
  have p1 := cells_set p0 1 (.int .i64 0)
  have p2 := cells_set p1 2 (.slice a7 n7 c7)
  have p3 := cells_set p2 3 (.slice b7 m7 d7)
  simp at r0 r1 r2 r3 p3
  have g0 := cells_get p3 0
  have g1 := cells_get p3 1
  have g2 := cells_get p3 2
  have g3 := cells_get p3 3
  simp at g0 g1 g2 g3
  have HG := Lib.hid (And.intro g0 (And.intro g1 (And.intro g2 g3)))
  clear p0 p1 p2 p3 g0 g1 g2 g3 hres hnx7
  go_wp2_with fail
  obtain ⟨g0, g1, g2, g3⟩ := HG.out
  refine bodyPost_ret (v := .tuple #[.agg #[.int .i64 2, .int .i64 0, .slice a7 n7 c7, .slice b7 m7 d7], .int .i64 0]) (by simp [results, Try.results27, go_sem, g0, g1, g2, g3]) rfl ⟨.slice a7 n7 c7, .slice b7 m7 d7, rfl, ?_, ?_⟩
  · exact (((((HB3.out.setLow (a := ⟨w.heap.size, 0, none⟩) (Nat.lt_succ_self _) _).setLow (a := ⟨w.heap.size, 1, none⟩) (Nat.lt_succ_self _) _).setLow (a := ⟨w.heap.size, 2, none⟩) (Nat.lt_succ_self _) _).setLow (a := ⟨w.heap.size, 3, none⟩) (Nat.lt_succ_self _) _).mono (Nat.le_succ_of_le HR3.out.hR))
  · exact ((((HR3.out.base.setCell (p := ⟨w.heap.size, 0, none⟩) HR3.out.hR _).setCell (p := ⟨w.heap.size, 1, none⟩) HR3.out.hR _).setCell (p := ⟨w.heap.size, 2, none⟩) HR3.out.hR _).setCell (p := ⟨w.heap.size, 3, none⟩) HR3.out.hR _)

set_option maxHeartbeats 8000000 in
theorem specLen2 (w : World) : Calls Try.prog 27 #[.int .i64 2] w fun e w' => ∃ va vn, e = .returned (.tuple #[.agg #[.int .i64 2, .int .i64 0, va, vn], .int .i64 0]) ∧ Built w' w.heap.size va vn (tidyAcc sLen2) (tidyNext sLen2) ∧ Below w.heap.size w w' := by
  obtain ⟨W1, hW1⟩ : ∃ W1, W1 = ((((((((((w.alloc (.cells #[Value.int .i64 0, .int .i64 0, .slice none 0 0, .slice none 0 0] 27)).alloc (.cells #[.bool false, .bool true] 4)).alloc (.cells #[.int .i64 0, .int .i64 0, .int .i64 0] 2)).alloc (.cells #[.int .i64 0, .int .i64 1, .int .i64 0] 2)).alloc (.cells #[.int .i64 0, .int .i64 3, .int .i64 0] 2)).alloc (.cells #[.int .i64 0, .int .i64 4, .int .i64 0] 2)).alloc (.cells #[.int .i64 0, .int .i64 2, .int .i64 1] 2)).alloc (.cells #[.int .i64 0, .int .i64 5, .int .i64 1] 2)).alloc (.cells #[.int .i64 1, .int .i64 2, .int .i64 1] 2)).alloc (.cells #[.int .i64 1, .int .i64 5, .int .i64 1] 2)).alloc (.cells #[.slice (some ⟨w.heap.size + 1 + 1, 0, none⟩) 3 3, .slice (some ⟨w.heap.size + 1 + 1 + 1, 0, none⟩) 3 3, .slice (some ⟨w.heap.size + 1 + 1 + 1 + 1, 0, none⟩) 3 3, .slice (some ⟨w.heap.size + 1 + 1 + 1 + 1 + 1, 0, none⟩) 3 3, .slice (some ⟨w.heap.size + 1 + 1 + 1 + 1 + 1 + 1, 0, none⟩) 3 3, .slice (some ⟨w.heap.size + 1 + 1 + 1 + 1 + 1 + 1 + 1, 0, none⟩) 3 3, .slice (some ⟨w.heap.size + 1 + 1 + 1 + 1 + 1 + 1 + 1 + 1, 0, none⟩) 3 3, .slice (some ⟨w.heap.size + 1 + 1 + 1 + 1 + 1 + 1 + 1 + 1 + 1, 0, none⟩) 3 3] 61) := ⟨_, rfl⟩
  have hWL : W1 = (layRows 2 ((w.alloc (.cells #[Value.int .i64 0, .int .i64 0, .slice none 0 0, .slice none 0 0] 27)).alloc (.cells #[.bool false, .bool true] 4)) mLen1).alloc (.cells #[.slice (some ⟨w.heap.size + 1 + 1, 0, none⟩) 3 3, .slice (some ⟨w.heap.size + 1 + 1 + 1, 0, none⟩) 3 3, .slice (some ⟨w.heap.size + 1 + 1 + 1 + 1, 0, none⟩) 3 3, .slice (some ⟨w.heap.size + 1 + 1 + 1 + 1 + 1, 0, none⟩) 3 3, .slice (some ⟨w.heap.size + 1 + 1 + 1 + 1 + 1 + 1, 0, none⟩) 3 3, .slice (some ⟨w.heap.size + 1 + 1 + 1 + 1 + 1 + 1 + 1, 0, none⟩) 3 3, .slice (some ⟨w.heap.size + 1 + 1 + 1 + 1 + 1 + 1 + 1 + 1, 0, none⟩) 3 3, .slice (some ⟨w.heap.size + 1 + 1 + 1 + 1 + 1 + 1 + 1 + 1 + 1, 0, none⟩) 3 3] 61) := by rw [hW1]; rfl
  have hb0 : Below ((w.alloc (.cells #[Value.int .i64 0, .int .i64 0, .slice none 0 0, .slice none 0 0] 27)).alloc (.cells #[.bool false, .bool true] 4)).heap.size ((w.alloc (.cells #[Value.int .i64 0, .int .i64 0, .slice none 0 0, .slice none 0 0] 27)).alloc (.cells #[.bool false, .bool true] 4)) W1 := by rw [hWL]; exact base_box (layRows_below _ _ _) _
  have hsz0 : ((w.alloc (.cells #[Value.int .i64 0, .int .i64 0, .slice none 0 0, .slice none 0 0] 27)).alloc (.cells #[.bool false, .bool true] 4)).heap.size = w.heap.size + 1 + 1 := by rw [size_alloc', size_alloc']
  have HR := Lib.hid (show Res0 w w.heap.size W1 from ((Res0.new (Below.refl _ _)).alloc _).step hb0)
  have HL := Lib.hid (show Bools W1 W1.heap.size (.slice (some ⟨w.heap.size + 1, 0, none⟩) 2 2) [false, true] from by
    have := Lst.lit (w.alloc (.cells #[Value.int .i64 0, .int .i64 0, .slice none 0 0, .slice none 0 0] 27)) (w.heap.size + 1) 4 #[.bool false, .bool true] (by simp) (by decide)
    rw [size_alloc'] at this
    exact lst_bools (xs := [false, true]) (Lst.below this hb0) _ (Nat.le_refl _))
  have HM := Lib.hid (show IntRows W1 W1.heap.size (.slice (some ⟨w.heap.size + 1 + 1 + 1 + 1 + 1 + 1 + 1 + 1 + 1 + 1, 0, none⟩) 8 8) mLen1 from by
    rw [hWL]
    exact rows_lit ((w.alloc (.cells #[Value.int .i64 0, .int .i64 0, .slice none 0 0, .slice none 0 0] 27)).alloc (.cells #[.bool false, .bool true] 4)) mLen1 (w.heap.size + 1 + 1) hsz0 2 61 #[.slice (some ⟨w.heap.size + 1 + 1, 0, none⟩) 3 3, .slice (some ⟨w.heap.size + 1 + 1 + 1, 0, none⟩) 3 3, .slice (some ⟨w.heap.size + 1 + 1 + 1 + 1, 0, none⟩) 3 3, .slice (some ⟨w.heap.size + 1 + 1 + 1 + 1 + 1, 0, none⟩) 3 3, .slice (some ⟨w.heap.size + 1 + 1 + 1 + 1 + 1 + 1, 0, none⟩) 3 3, .slice (some ⟨w.heap.size + 1 + 1 + 1 + 1 + 1 + 1 + 1, 0, none⟩) 3 3, .slice (some ⟨w.heap.size + 1 + 1 + 1 + 1 + 1 + 1 + 1 + 1, 0, none⟩) 3 3, .slice (some ⟨w.heap.size + 1 + 1 + 1 + 1 + 1 + 1 + 1 + 1 + 1, 0, none⟩) 3 3] rfl (by decide) (by decide) _ (Nat.le_refl _))
  have HKN := Lib.hid (known (.slice (some ⟨w.heap.size + 1, 0, none⟩) 2 2) (.slice (some ⟨w.heap.size + 1 + 1 + 1 + 1 + 1 + 1 + 1 + 1 + 1 + 1, 0, none⟩) 8 8) [false, true] mLen1 sLen2 sLen2_ok sLen2_rel (by decide) (by decide) (by decide) (by decide) W1 W1.heap.size HL.out HM.out (Nat.le_refl _))
  clear hWL hb0 hsz0
  have HIN := Lib.hid (fun W => show Calls Try.prog 60 #[.int .i64 2, .int .i64 1, .int .i64 3] W fun e w' => e = .returned (.bool true) ∧ W = w' from inRange 2 1 3 W)
  go_enter Try.func27, Try.ntmps27
  go_wp2_with (go_at_call 60; refine (HIN.out _).mono ?_; rintro e w' ⟨rfl, rfl⟩)
  rw [← hW1]
  clear hW1
  refine HKN.out.mono ?_
  rintro e w3 ⟨va3, vn3, rfl, hbu, hb⟩
  have HR3 := Lib.hid (HR.out.step hb)
  have HB3 := Lib.hid (show Built w3 (w.heap.size + 1) va3 vn3 (tidyAcc sLen2) (tidyNext sLen2) from hbu.mono HR.out.lt)
  clear hbu hb HKN
  have hres := HR3.out.res
  obtain ⟨a7, n7, c7, rfl, -⟩ := HB3.out.acc.shape'
  obtain ⟨items7, -, hnx7, -⟩ := HB3.out.rows
  obtain ⟨b7, m7, d7, rfl, -⟩ := hnx7.shape'
  have r0 := cells_get hres 0
  have r1 := cells_get hres 1
  have r2 := cells_get hres 2
  have r3 := cells_get hres 3
  have f0 := cells_free hres 0
  have f1 := cells_free hres 1
  have f2 := cells_free hres 2
  have f3 := cells_free hres 3
  have hlS := HR3.out.lt
  have p0 := cells_set hres 0 (.int .i64 2)
  have p1 := cells_set p0 1 (.int .i64 0)
  have p2 := cells_set p1 2 (.slice a7 n7 c7)
  have p3 := cells_set p2 3 (.slice b7 m7 d7)
  simp at r0 r1 r2 r3 p3
  have g0 := cells_get p3 0
  have g1 := cells_get p3 1
  have g2 := cells_get p3 2
  have g3 := cells_get p3 3
  simp at g0 g1 g2 g3
  have HG := Lib.hid (And.intro g0 (And.intro g1 (And.intro g2 g3)))
  clear p0 p1 p2 p3 g0 g1 g2 g3 hres hnx7
  go_wp2_with fail
  obtain ⟨g0, g1, g2, g3⟩ := HG.out
  refine bodyPost_ret (v := .tuple #[.agg #[.int .i64 2, .int .i64 0, .slice a7 n7 c7, .slice b7 m7 d7], .int .i64 0]) (by simp [results, Try.results27, go_sem, g0, g1, g2, g3]) rfl ⟨.slice a7 n7 c7, .slice b7 m7 d7, rfl, ?_, ?_⟩
  · exact (((((HB3.out.setLow (a := ⟨w.heap.size, 0, none⟩) (Nat.lt_succ_self _) _).setLow (a := ⟨w.heap.size, 1, none⟩) (Nat.lt_succ_self _) _).setLow (a := ⟨w.heap.size, 2, none⟩) (Nat.lt_succ_self _) _).setLow (a := ⟨w.heap.size, 3, none⟩) (Nat.lt_succ_self _) _).mono (Nat.le_succ_of_le HR3.out.hR))
  · exact ((((HR3.out.base.setCell (p := ⟨w.heap.size, 0, none⟩) HR3.out.hR _).setCell (p := ⟨w.heap.size, 1, none⟩) HR3.out.hR _).setCell (p := ⟨w.heap.size, 2, none⟩) HR3.out.hR _).setCell (p := ⟨w.heap.size, 3, none⟩) HR3.out.hR _)

set_option maxHeartbeats 8000000 in
theorem specLen3 (w : World) : Calls Try.prog 27 #[.int .i64 3] w fun e w' => ∃ va vn, e = .returned (.tuple #[.agg #[.int .i64 2, .int .i64 0, va, vn], .int .i64 0]) ∧ Built w' w.heap.size va vn (tidyAcc sLen3) (tidyNext sLen3) ∧ Below w.heap.size w w' := by
  obtain ⟨W1, hW1⟩ : ∃ W1, W1 = ((((((((((w.alloc (.cells #[Value.int .i64 0, .int .i64 0, .slice none 0 0, .slice none 0 0] 27)).alloc (.cells #[.bool true, .bool true] 4)).alloc (.cells #[.int .i64 0, .int .i64 0, .int .i64 0] 2)).alloc (.cells #[.int .i64 0, .int .i64 1, .int .i64 0] 2)).alloc (.cells #[.int .i64 0, .int .i64 3, .int .i64 0] 2)).alloc (.cells #[.int .i64 0, .int .i64 4, .int .i64 0] 2)).alloc (.cells #[.int .i64 0, .int .i64 2, .int .i64 1] 2)).alloc (.cells #[.int .i64 0, .int .i64 5, .int .i64 1] 2)).alloc (.cells #[.int .i64 1, .int .i64 2, .int .i64 1] 2)).alloc (.cells #[.int .i64 1, .int .i64 5, .int .i64 1] 2)).alloc (.cells #[.slice (some ⟨w.heap.size + 1 + 1, 0, none⟩) 3 3, .slice (some ⟨w.heap.size + 1 + 1 + 1, 0, none⟩) 3 3, .slice (some ⟨w.heap.size + 1 + 1 + 1 + 1, 0, none⟩) 3 3, .slice (some ⟨w.heap.size + 1 + 1 + 1 + 1 + 1, 0, none⟩) 3 3, .slice (some ⟨w.heap.size + 1 + 1 + 1 + 1 + 1 + 1, 0, none⟩) 3 3, .slice (some ⟨w.heap.size + 1 + 1 + 1 + 1 + 1 + 1 + 1, 0, none⟩) 3 3, .slice (some ⟨w.heap.size + 1 + 1 + 1 + 1 + 1 + 1 + 1 + 1, 0, none⟩) 3 3, .slice (some ⟨w.heap.size + 1 + 1 + 1 + 1 + 1 + 1 + 1 + 1 + 1, 0, none⟩) 3 3] 61) := ⟨_, rfl⟩
  have hWL : W1 = (layRows 2 ((w.alloc (.cells #[Value.int .i64 0, .int .i64 0, .slice none 0 0, .slice none 0 0] 27)).alloc (.cells #[.bool true, .bool true] 4)) mLen1).alloc (.cells #[.slice (some ⟨w.heap.size + 1 + 1, 0, none⟩) 3 3, .slice (some ⟨w.heap.size + 1 + 1 + 1, 0, none⟩) 3 3, .slice (some ⟨w.heap.size + 1 + 1 + 1 + 1, 0, none⟩) 3 3, .slice (some ⟨w.heap.size + 1 + 1 + 1 + 1 + 1, 0, none⟩) 3 3, .slice (some ⟨w.heap.size + 1 + 1 + 1 + 1 + 1 + 1, 0, none⟩) 3 3, .slice (some ⟨w.heap.size + 1 + 1 + 1 + 1 + 1 + 1 + 1, 0, none⟩) 3 3, .slice (some ⟨w.heap.size + 1 + 1 + 1 + 1 + 1 + 1 + 1 + 1, 0, none⟩) 3 3, .slice (some ⟨w.heap.size + 1 + 1 + 1 + 1 + 1 + 1 + 1 + 1 + 1, 0, none⟩) 3 3] 61) := by rw [hW1]; rfl
  have hb0 : Below ((w.alloc (.cells #[Value.int .i64 0, .int .i64 0, .slice none 0 0, .slice none 0 0] 27)).alloc (.cells #[.bool true, .bool true] 4)).heap.size ((w.alloc (.cells #[Value.int .i64 0, .int .i64 0, .slice none 0 0, .slice none 0 0] 27)).alloc (.cells #[.bool true, .bool true] 4)) W1 := by rw [hWL]; exact base_box (layRows_below _ _ _) _
  have hsz0 : ((w.alloc (.cells #[Value.int .i64 0, .int .i64 0, .slice none 0 0, .slice none 0 0] 27)).alloc (.cells #[.bool true, .bool true] 4)).heap.size = w.heap.size + 1 + 1 := by rw [size_alloc', size_alloc']
  have HR := Lib.hid (show Res0 w w.heap.size W1 from ((Res0.new (Below.refl _ _)).alloc _).step hb0)
  have HL := Lib.hid (show Bools W1 W1.heap.size (.slice (some ⟨w.heap.size + 1, 0, none⟩) 2 2) [true, true] from by
    have := Lst.lit (w.alloc (.cells #[Value.int .i64 0, .int .i64 0, .slice none 0 0, .slice none 0 0] 27)) (w.heap.size + 1) 4 #[.bool true, .bool true] (by simp) (by decide)
    rw [size_alloc'] at this
    exact lst_bools (xs := [true, true]) (Lst.below this hb0) _ (Nat.le_refl _))
  have HM := Lib.hid (show IntRows W1 W1.heap.size (.slice (some ⟨w.heap.size + 1 + 1 + 1 + 1 + 1 + 1 + 1 + 1 + 1 + 1, 0, none⟩) 8 8) mLen1 from by
    rw [hWL]
    exact rows_lit ((w.alloc (.cells #[Value.int .i64 0, .int .i64 0, .slice none 0 0, .slice none 0 0] 27)).alloc (.cells #[.bool true, .bool true] 4)) mLen1 (w.heap.size + 1 + 1) hsz0 2 61 #[.slice (some ⟨w.heap.size + 1 + 1, 0, none⟩) 3 3, .slice (some ⟨w.heap.size + 1 + 1 + 1, 0, none⟩) 3 3, .slice (some ⟨w.heap.size + 1 + 1 + 1 + 1, 0, none⟩) 3 3, .slice (some ⟨w.heap.size + 1 + 1 + 1 + 1 + 1, 0, none⟩) 3 3, .slice (some ⟨w.heap.size + 1 + 1 + 1 + 1 + 1 + 1, 0, none⟩) 3 3, .slice (some ⟨w.heap.size + 1 + 1 + 1 + 1 + 1 + 1 + 1, 0, none⟩) 3 3, .slice (some ⟨w.heap.size + 1 + 1 + 1 + 1 + 1 + 1 + 1 + 1, 0, none⟩) 3 3, .slice (some ⟨w.heap.size + 1 + 1 + 1 + 1 + 1 + 1 + 1 + 1 + 1, 0, none⟩) 3 3] rfl (by decide) (by decide) _ (Nat.le_refl _))
  have HKN := Lib.hid (known (.slice (some ⟨w.heap.size + 1, 0, none⟩) 2 2) (.slice (some ⟨w.heap.size + 1 + 1 + 1 + 1 + 1 + 1 + 1 + 1 + 1 + 1, 0, none⟩) 8 8) [true, true] mLen1 sLen3 sLen3_ok sLen3_rel (by decide) (by decide) (by decide) (by decide) W1 W1.heap.size HL.out HM.out (Nat.le_refl _))
  clear hWL hb0 hsz0
  have HIN := Lib.hid (fun W => show Calls Try.prog 60 #[.int .i64 3, .int .i64 1, .int .i64 3] W fun e w' => e = .returned (.bool true) ∧ W = w' from inRange 3 1 3 W)
  go_enter Try.func27, Try.ntmps27
  go_wp2_with (go_at_call 60; refine (HIN.out _).mono ?_; rintro e w' ⟨rfl, rfl⟩)
  rw [← hW1]
  clear hW1
  refine HKN.out.mono ?_
  rintro e w3 ⟨va3, vn3, rfl, hbu, hb⟩
  have HR3 := Lib.hid (HR.out.step hb)
  have HB3 := Lib.hid (show Built w3 (w.heap.size + 1) va3 vn3 (tidyAcc sLen3) (tidyNext sLen3) from hbu.mono HR.out.lt)
  clear hbu hb HKN
  have hres := HR3.out.res
  obtain ⟨a7, n7, c7, rfl, -⟩ := HB3.out.acc.shape'
  obtain ⟨items7, -, hnx7, -⟩ := HB3.out.rows
  obtain ⟨b7, m7, d7, rfl, -⟩ := hnx7.shape'
  have r0 := cells_get hres 0
  have r1 := cells_get hres 1
  have r2 := cells_get hres 2
  have r3 := cells_get hres 3
  have f0 := cells_free hres 0
  have f1 := cells_free hres 1
  have f2 := cells_free hres 2
  have f3 := cells_free hres 3
  have hlS := HR3.out.lt
  have p0 := cells_set hres 0 (.int .i64 2)
  have p1 := cells_set p0 1 (.int .i64 0)
  have p2 := cells_set p1 2 (.slice a7 n7 c7)
  have p3 := cells_set p2 3 (.slice b7 m7 d7)
  simp at r0 r1 r2 r3 p3
  have g0 := cells_get p3 0
  have g1 := cells_get p3 1
  have g2 := cells_get p3 2
  have g3 := cells_get p3 3
  simp at g0 g1 g2 g3
  have HG := Lib.hid (And.intro g0 (And.intro g1 (And.intro g2 g3)))
  clear p0 p1 p2 p3 g0 g1 g2 g3 hres hnx7
  go_wp2_with fail
  obtain ⟨g0, g1, g2, g3⟩ := HG.out
  refine bodyPost_ret (v := .tuple #[.agg #[.int .i64 2, .int .i64 0, .slice a7 n7 c7, .slice b7 m7 d7], .int .i64 0]) (by simp [results, Try.results27, go_sem, g0, g1, g2, g3]) rfl ⟨.slice a7 n7 c7, .slice b7 m7 d7, rfl, ?_, ?_⟩
  · exact (((((HB3.out.setLow (a := ⟨w.heap.size, 0, none⟩) (Nat.lt_succ_self _) _).setLow (a := ⟨w.heap.size, 1, none⟩) (Nat.lt_succ_self _) _).setLow (a := ⟨w.heap.size, 2, none⟩) (Nat.lt_succ_self _) _).setLow (a := ⟨w.heap.size, 3, none⟩) (Nat.lt_succ_self _) _).mono (Nat.le_succ_of_le HR3.out.hR))
  · exact ((((HR3.out.base.setCell (p := ⟨w.heap.size, 0, none⟩) HR3.out.hR _).setCell (p := ⟨w.heap.size, 1, none⟩) HR3.out.hR _).setCell (p := ⟨w.heap.size, 2, none⟩) HR3.out.hR _).setCell (p := ⟨w.heap.size, 3, none⟩) HR3.out.hR _)

end Go.Proofs.Ytboandmffkofaaa.ClosedSpecs
