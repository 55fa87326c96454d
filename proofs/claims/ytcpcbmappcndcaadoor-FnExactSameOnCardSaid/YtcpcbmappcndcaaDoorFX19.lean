
/- The letters of a column with the tapes in another order: what the closure of the program's moved hands back.
   Conditions: stated at each theorem. -/
import Derived.Test.YtcpcbmappcndcaaDoorFX10
import Derived.Deep.RegionWith
import Derived.Test.YtcpcbmappcndcaaDoorFX18
import Derived.Laws.IdiomCopy
import Derived.Deep.RegionLaw
namespace Go.Proofs.YtcpcbmappcndcaaDoor.MoveI
set_option linter.unusedVariables false
set_option linter.unusedSimpArgs false
set_option maxRecDepth 100000
open Go.RowKit Mem Copy Rel Heap Bld Columns Numbers TidyRight TapeMath

end Go.Proofs.YtcpcbmappcndcaaDoor.MoveI
/- What the program's steps on tapes hand back: a tidy relation in memory of its own, or the error of a limit.
   Conditions: stated at each theorem. -/
namespace Go.Proofs.YtcpcbmappcndcaaDoor.TapeI
set_option linter.unusedVariables false
set_option linter.unusedSimpArgs false
set_option maxRecDepth 100000
open Go.RowKit Go.Maps Mem Copy Rel Valid Heap Bld Columns ColMath SpecFiner Numbers TidyMath TidyAuto TidyRight SpecRight ImplRight ImplTidied ErrCode Automaton TapeMath Reread RereadI MoveI

/-- Three blocks: the box of a relation, of one value, and a result's place. -/
abbrev K3t (t : TypeId) (w : World) (x : Array Value) (F : Value) (W : World) : Prop := Below (w.heap.size + 3) (((w.alloc (.cells x 27)).alloc (.cells #[F] t)).alloc (.cells #[Value.int .i64 0, .int .i64 0, .slice none 0 0, .slice none 0 0] 27)) W
section
variable {t : TypeId} {w W : World} {x : Array Value} {F : Value}
theorem K3t.size3 (t : TypeId) (w : World) (x : Array Value) (F : Value) : (((w.alloc (.cells x 27)).alloc (.cells #[F] t)).alloc (.cells #[Value.int .i64 0, .int .i64 0, .slice none 0 0, .slice none 0 0] 27)).heap.size = w.heap.size + 3 := by rw [size_alloc', size_alloc', size_alloc']
theorem K3t.size (h : K3t t w x F W) : w.heap.size + 3 ≤ W.heap.size := by have := Below.size h; rw [K3t.size3] at this; exact this
theorem K3t.base (h : K3t t w x F W) : Below w.heap.size w W := (base_box (base_box (base_box (Below.refl _ w) _) _) _).trans (Below.mono h (by omega))
theorem K3t.step {W' : World} (h : K3t t w x F W) (hb : Below W.heap.size W W') : K3t t w x F W' := Below.trans h (hb.mono (K3t.size h))
theorem K3t.box (h : K3t t w x F W) : W.heap[w.heap.size]? = some (.cells x 27 (0, 0)) := by
  rw [Below.block h _ (by omega), Below.heap_alloc _ _ _ (by rw [size_alloc', size_alloc']; omega), Below.heap_alloc _ _ _ (by rw [size_alloc']; omega)]; exact heap_alloc_new _ _
theorem K3t.fn (h : K3t t w x F W) : W.heap[w.heap.size + 1]? = some (.cells #[F] t (0, 0)) := by
  rw [Below.block h _ (by omega), Below.heap_alloc _ _ _ (by rw [size_alloc', size_alloc']; omega)]
  have := heap_alloc_new (w.alloc (.cells x 27)) (.cells #[F] t)
  rwa [size_alloc'] at this
theorem K3t.res (h : K3t t w x F W) : W.heap[w.heap.size + 2]? = some (.cells #[Value.int .i64 0, .int .i64 0, .slice none 0 0, .slice none 0 0] 27 (0, 0)) := by
  rw [Below.block h _ (by omega)]
  have := heap_alloc_new ((w.alloc (.cells x 27)).alloc (.cells #[F] t)) (.cells #[Value.int .i64 0, .int .i64 0, .slice none 0 0, .slice none 0 0] 27)
  rwa [size_alloc', size_alloc'] at this
end
theorem orders_len {k : Nat} (h1 : 1 ≤ k) (h3 : k ≤ 3) {o : List Nat} (ho : o ∈ orders k) : o.length = k := by
  have : k = 1 ∨ k = 2 ∨ k = 3 := by omega
  rcases this with rfl | rfl | rfl <;> simp [orders] at ho
  · subst ho; rfl
  · rcases ho with rfl | rfl <;> rfl
  · rcases ho with rfl | rfl | rfl | rfl | rfl | rfl <;> rfl
theorem putL_ok {l : L} (hl : l.Ok) {o : List Nat} (ho : o ∈ orders l.k) : (reL l l.k (putN o)).Ok :=
  reL_ok hl hl.k0 hl.k3 fun c hc => Nat.le_of_lt (put_fin hl.k0 hl.k3 ho hc).1

end Go.Proofs.YtcpcbmappcndcaaDoor.TapeI
/- The letters of a column without those of a tape: what the program's withoutLetter hands back.
   Conditions: the tape is one of three. -/
namespace Go.Proofs.YtcpcbmappcndcaaDoor.WithoutI
set_option linter.unusedVariables false
set_option linter.unusedSimpArgs false
set_option maxRecDepth 100000
open Go.RowKit Mem Copy Rel Heap Bld Columns Numbers TidyRight TapeMath

theorem step_copy_run {P : Program} {ops : Array Oper} {o : Oper} {a : Act} {w : World} {K : Act → World → Prop} {Q : Exit → Act → World → Prop} {E : Prop} (hgd : o.guard = none) (d s : Operand) (dT sT : TypeId)
    (ho : o.op = .call { callee := .builtin .copy, args := #[d, s], argTypes := #[dT, sT] }) (vd vs : Value) (hd : a.eval d = vd) (hs : a.eval s = vs) (n : Nat) (w' : World)
    (hrun : (Builtin.copy_ #[dT, sT] o.type #[vd, vs]).run P w = .ok (goInt n) w') (h : K (a.put o.dst (goInt n)) w') :
    if Region.wanted o (yielded ops a.tmps) = true then Oper.wp P o a w K Q else E := by
  have hw : Region.wanted o (yielded ops a.tmps) = true := by simp [Region.wanted, hgd]
  rw [if_pos hw]
  unfold Oper.wp
  simp [execOp, ho, resolve, invoke, builtin, hd, hs, hrun, Result.andThen]
  exact h
theorem res3 {W : World} {N : Nat} {a b c x y z : Value} {t : TypeId} (h : W.heap[N]? = some (.cells #[x, y, z] t (0, 0))) :
    (((W.setCell ⟨N, 0, none⟩ a).setCell ⟨N, 1, none⟩ b).setCell ⟨N, 2, none⟩ c).cell? ⟨N, 0, none⟩ = some a ∧ (((W.setCell ⟨N, 0, none⟩ a).setCell ⟨N, 1, none⟩ b).setCell ⟨N, 2, none⟩ c).cell? ⟨N, 1, none⟩ = some b ∧ (((W.setCell ⟨N, 0, none⟩ a).setCell ⟨N, 1, none⟩ b).setCell ⟨N, 2, none⟩ c).cell? ⟨N, 2, none⟩ = some c := by
  have p2 := cells_set (cells_set (cells_set h 0 a) 1 b) 2 c
  simp at p2
  exact ⟨by rw [cells_get p2]; rfl, by rw [cells_get p2]; rfl, by rw [cells_get p2]; rfl⟩
theorem infoB : (Tryd.prog.info? 5).map (·.size) = some 1 := by kernel_rfl

end Go.Proofs.YtcpcbmappcndcaaDoor.WithoutI
