
/- Four blocks: the boxes of two transducers, of a function, and a result's place.
   Conditions: stated at each theorem. -/
import Derived.Test.YtjoiaenkmmmmpaaEitImpl
import Derived.Test.YtjoiaenkmmmmpaaLimC
namespace Go.Proofs.Ytjoiaenkmmmmpaa.PutKit
set_option linter.unusedVariables false
set_option linter.unusedSimpArgs false
set_option maxRecDepth 100000
open Go.RowKit Mem Copy Rel Heap MarkRow Edg EdgCopy EdgEq TrHeap TrLawKit TrValid TrImplValid TurnImpl TurnSpec TrReach TrReached TrimKit AddSpec ToldTr Grow GrowS RepSpec GrowN RepImpl TwoTr EitSpec EitImpl LimC

abbrev K4 (w : World) (c d : Array Value) (F : Value) (W : World) : Prop := Below (w.heap.size + 4) ((((w.alloc (.cells c 30)).alloc (.cells d 30)).alloc (.cells #[F] 62)).alloc zeroT) W
section
variable {w W : World} {c d : Array Value} {F : Value}
theorem K4.size4 (w : World) (c d : Array Value) (F : Value) : ((((w.alloc (.cells c 30)).alloc (.cells d 30)).alloc (.cells #[F] 62)).alloc zeroT).heap.size = w.heap.size + 4 := by rw [size_alloc', size_alloc', size_alloc', size_alloc']
theorem K4.size (h : K4 w c d F W) : w.heap.size + 4 ≤ W.heap.size := by have := Below.size h; rw [K4.size4] at this; exact this
theorem K4.base (h : K4 w c d F W) : Below w.heap.size w W := (base_box (base_box (base_box (base_box (Below.refl _ w) _) _) _) _).trans (Below.mono h (by omega))
theorem K4.step {W' : World} (h : K4 w c d F W) (hb : Below W.heap.size W W') : K4 w c d F W' := Below.trans h (hb.mono (K4.size h))
theorem K4.b1 (h : K4 w c d F W) : W.heap[w.heap.size]? = some (.cells c 30 (0, 0)) := by
  rw [Below.block h _ (by omega), Below.heap_alloc _ _ _ (by rw [size_alloc', size_alloc', size_alloc']; omega), Below.heap_alloc _ _ _ (by rw [size_alloc', size_alloc']; omega), Below.heap_alloc _ _ _ (by rw [size_alloc']; omega)]; exact heap_alloc_new _ _
theorem K4.b2 (h : K4 w c d F W) : W.heap[w.heap.size + 1]? = some (.cells d 30 (0, 0)) := by
  rw [Below.block h _ (by omega), Below.heap_alloc _ _ _ (by rw [size_alloc', size_alloc', size_alloc']; omega), Below.heap_alloc _ _ _ (by rw [size_alloc', size_alloc']; omega)]
  have := heap_alloc_new (w.alloc (.cells c 30)) (.cells d 30)
  rwa [size_alloc'] at this
theorem K4.b3 (h : K4 w c d F W) : W.heap[w.heap.size + 2]? = some (.cells #[F] 62 (0, 0)) := by
  rw [Below.block h _ (by omega), Below.heap_alloc _ _ _ (by rw [size_alloc', size_alloc', size_alloc']; omega)]
  have := heap_alloc_new ((w.alloc (.cells c 30)).alloc (.cells d 30)) (.cells #[F] 62)
  rwa [size_alloc', size_alloc'] at this
theorem K4.res (h : K4 w c d F W) : W.heap[w.heap.size + 3]? = some (.cells #[Value.int .i64 0, .slice none 0 0, .slice none 0 0] 30 (0, 0)) := by
  rw [Below.block h _ (by omega)]
  have := heap_alloc_new (((w.alloc (.cells c 30)).alloc (.cells d 30)).alloc (.cells #[F] 62)) zeroT
  rwa [size_alloc', size_alloc', size_alloc'] at this
theorem K4.cells (h : K4 w c d F W) : W.cell? ⟨w.heap.size + 3, 0, none⟩ = some (.int .i64 0) ∧ W.cell? ⟨w.heap.size + 3, 1, none⟩ = some (.slice none 0 0) ∧ W.cell? ⟨w.heap.size + 3, 2, none⟩ = some (.slice none 0 0) ∧
    W.frozen? ⟨w.heap.size + 3, 0, none⟩ = false ∧ W.frozen? ⟨w.heap.size + 3, 1, none⟩ = false ∧ W.frozen? ⟨w.heap.size + 3, 2, none⟩ = false :=
  ⟨(cell_of_block (K4.res h) 0).1, (cell_of_block (K4.res h) 1).1, (cell_of_block (K4.res h) 2).1, (cell_of_block (K4.res h) 0).2, (cell_of_block (K4.res h) 1).2, (cell_of_block (K4.res h) 2).2⟩
end
end Go.Proofs.Ytjoiaenkmmmmpaa.PutKit
