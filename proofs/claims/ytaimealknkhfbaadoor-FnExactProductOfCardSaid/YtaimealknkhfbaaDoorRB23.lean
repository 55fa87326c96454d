
/- The letters of a column with the tapes in another order: what the closure of the program's moved hands back.
   Conditions: stated at each theorem. -/
import Derived.Test.YtaimealknkhfbaaDoorRB10
import Derived.Deep.RegionWith
import Derived.Test.YtaimealknkhfbaaDoorRB22
import Derived.Laws.IdiomCopy
import Derived.Deep.RegionLaw
namespace Go.Proofs.YtaimealknkhfbaaDoor.MoveI
set_option linter.unusedVariables false
set_option linter.unusedSimpArgs false
set_option maxRecDepth 100000
open Go.RowKit Mem Copy Rel Heap Bld Columns Numbers TidyRight TapeMath

end Go.Proofs.YtaimealknkhfbaaDoor.MoveI
/- What the program's steps on tapes hand back: a tidy relation in memory of its own, or the error of a limit.
   Conditions: stated at each theorem. -/
namespace Go.Proofs.YtaimealknkhfbaaDoor.TapeI
set_option linter.unusedVariables false
set_option linter.unusedSimpArgs false
set_option maxRecDepth 100000
open Go.RowKit Go.Maps Mem Copy Rel Valid Heap Bld Columns ColMath SpecFiner Numbers TidyMath TidyAuto TidyRight SpecRight ImplRight ImplTidied ErrCode Automaton TapeMath Reread RereadI MoveI

/-- Three blocks: the box of a relation, of one value, and a result's place. -/
abbrev K3t (t : TypeId) (w : World) (x : Array Value) (F : Value) (W : World) : Prop := Below (w.heap.size + 3) (((w.alloc (.cells x 27)).alloc (.cells #[F] t)).alloc (.cells #[Value.int .i64 0, .int .i64 0, .slice none 0 0, .slice none 0 0] 27)) W
section
variable {t : TypeId} {w W : World} {x : Array Value} {F : Value}
theorem K3t.size3 (t : TypeId) (w : World) (x : Array Value) (F : Value) : (((w.alloc (.cells x 27)).alloc (.cells #[F] t)).alloc (.cells #[Value.int .i64 0, .int .i64 0, .slice none 0 0, .slice none 0 0] 27)).heap.size = w.heap.size + 3 := by rw [size_alloc', size_alloc', size_alloc']
theorem K3t.size (h : K3t t w x F W) : w.heap.size + 3 ≤ W.heap.size := by have := Below.size h; rw [K3t.size3] at this; exact this
theorem K3t.base (h : K3t t w x F W) : Below w.heap.size w W := (base_box (base_box (base_box (Below.refl _ w) _) _) _).trans (Below.mono h (by omega))
theorem K3t.step {W' : World} (h : K3t t w x F W) (hb : Below W.heap.size W W') : K3t t w x F W' := Below.trans h (hb.mono (K3t.size h))
theorem K3t.box (h : K3t t w x F W) : W.heap[w.heap.size]? = some (.cells x 27 (0, 0)) := by
  rw [Below.block h _ (by omega), Below.heap_alloc _ _ _ (by rw [size_alloc', size_alloc']; omega), Below.heap_alloc _ _ _ (by rw [size_alloc']; omega)]; exact heap_alloc_new _ _
theorem K3t.fn (h : K3t t w x F W) : W.heap[w.heap.size + 1]? = some (.cells #[F] t (0, 0)) := by
  rw [Below.block h _ (by omega), Below.heap_alloc _ _ _ (by rw [size_alloc', size_alloc']; omega)]
  have := heap_alloc_new (w.alloc (.cells x 27)) (.cells #[F] t)
  rwa [size_alloc'] at this
theorem K3t.res (h : K3t t w x F W) : W.heap[w.heap.size + 2]? = some (.cells #[Value.int .i64 0, .int .i64 0, .slice none 0 0, .slice none 0 0] 27 (0, 0)) := by
  rw [Below.block h _ (by omega)]
  have := heap_alloc_new ((w.alloc (.cells x 27)).alloc (.cells #[F] t)) (.cells #[Value.int .i64 0, .int .i64 0, .slice none 0 0, .slice none 0 0] 27)
  rwa [size_alloc', size_alloc'] at this
end
theorem orders_len {k : Nat} (h1 : 1 ≤ k) (h3 : k ≤ 3) {o : List Nat} (ho : o ∈ orders k) : o.length = k := by
  have : k = 1 ∨ k = 2 ∨ k = 3 := by omega
  rcases this with rfl | rfl | rfl <;> simp [orders] at ho
  · subst ho; rfl
  · rcases ho with rfl | rfl <;> rfl
  · rcases ho with rfl | rfl | rfl | rfl | rfl | rfl <;> rfl
theorem putL_ok {l : L} (hl : l.Ok) {o : List Nat} (ho : o ∈ orders l.k) : (reL l l.k (putN o)).Ok :=
  reL_ok hl hl.k0 hl.k3 fun c hc => Nat.le_of_lt (put_fin hl.k0 hl.k3 ho hc).1

end Go.Proofs.YtaimealknkhfbaaDoor.TapeI
/- The letters of a column without those of a tape: what the program's withoutLetter hands back.
   Conditions: the tape is one of three. -/
namespace Go.Proofs.YtaimealknkhfbaaDoor.WithoutI
set_option linter.unusedVariables false
set_option linter.unusedSimpArgs false
set_option maxRecDepth 100000
open Go.RowKit Mem Copy Rel Heap Bld Columns Numbers TidyRight TapeMath

theorem step_copy_run {P : Program} {ops : Array Oper} {o : Oper} {a : Act} {w : World} {K : Act → World → Prop} {Q : Exit → Act → World → Prop} {E : Prop} (hgd : o.guard = none) (d s : Operand) (dT sT : TypeId)
    (ho : o.op = .call { callee := .builtin .copy, args := #[d, s], argTypes := #[dT, sT] }) (vd vs : Value) (hd : a.eval d = vd) (hs : a.eval s = vs) (n : Nat) (w' : World)
    (hrun : (Builtin.copy_ #[dT, sT] o.type #[vd, vs]).run P w = .ok (goInt n) w') (h : K (a.put o.dst (goInt n)) w') :
    if Region.wanted o (yielded ops a.tmps) = true then Oper.wp P o a w K Q else E := by
  have hw : Region.wanted o (yielded ops a.tmps) = true := by simp [Region.wanted, hgd]
  rw [if_pos hw]
  unfold Oper.wp
  simp [execOp, ho, resolve, invoke, builtin, hd, hs, hrun, Result.andThen]
  exact h
theorem res3 {W : World} {N : Nat} {a b c x y z : Value} {t : TypeId} (h : W.heap[N]? = some (.cells #[x, y, z] t (0, 0))) :
    (((W.setCell ⟨N, 0, none⟩ a).setCell ⟨N, 1, none⟩ b).setCell ⟨N, 2, none⟩ c).cell? ⟨N, 0, none⟩ = some a ∧ (((W.setCell ⟨N, 0, none⟩ a).setCell ⟨N, 1, none⟩ b).setCell ⟨N, 2, none⟩ c).cell? ⟨N, 1, none⟩ = some b ∧ (((W.setCell ⟨N, 0, none⟩ a).setCell ⟨N, 1, none⟩ b).setCell ⟨N, 2, none⟩ c).cell? ⟨N, 2, none⟩ = some c := by
  have p2 := cells_set (cells_set (cells_set h 0 a) 1 b) 2 c
  simp at p2
  exact ⟨by rw [cells_get p2]; rfl, by rw [cells_get p2]; rfl, by rw [cells_get p2]; rfl⟩
theorem infoB : (Tryd.prog.info? 5).map (·.size) = some 1 := by kernel_rfl

set_option maxHeartbeats 4000000 in
theorem without0 (x y z : Int) (w : World) : Calls Tryd.prog 54 #[.agg #[.int .u8 x, .int .u8 y, .int .u8 z], .int .i64 0] w fun e w' => e = .returned (.agg #[.int .u8 y, .int .u8 z, .int .u8 35]) ∧ Below w.heap.size w w' := by
  obtain ⟨W, hW⟩ : ∃ W, W = ((w.alloc (.cells #[.int .u8 x, .int .u8 y, .int .u8 z] 75)).alloc (.cells #[Value.int .u8 0, .int .u8 0, .int .u8 0] 75)) := ⟨_, rfl⟩
  have hb0 : W.heap[w.heap.size]? = some (.cells #[.int .u8 x, .int .u8 y, .int .u8 z] 75 (0, 0)) := by
    rw [hW, Below.heap_alloc _ _ _ (by simp)]; exact heap_alloc_new _ _
  have hb1 : W.heap[w.heap.size + 1]? = some (.cells #[Value.int .u8 0, .int .u8 0, .int .u8 0] 75 (0, 0)) := by
    have := heap_alloc_new (w.alloc (.cells #[.int .u8 x, .int .u8 y, .int .u8 z] 75)) (.cells #[Value.int .u8 0, .int .u8 0, .int .u8 0] 75)
    rw [hW]; simpa using this
  have HBW := Lib.hid (show Below w.heap.size w W by rw [hW]; exact ((Below.refl _ w).alloc (Nat.le_refl _) _).alloc (by simp) _)
  have hcp : (Builtin.copy_ #[96, 96] 3 #[.slice (some ⟨w.heap.size, 0, none⟩) 3 3, .slice (some ⟨w.heap.size, 1, none⟩) 2 2]).run Tryd.prog W.drew = .ok (goInt 2) (W.drew.setCells w.heap.size 0 [.int .u8 y, .int .u8 z]) :=
    run_copy_cells W.drew _ _ _ 5 w.heap.size 0 3 3 ⟨w.heap.size, 1, none⟩ 2 2 [.int .u8 y, .int .u8 z] Tryd.underlying96 infoB rfl
      (fun j v hj => by
        have ea : Addr.add ⟨w.heap.size, 1, none⟩ j = ⟨w.heap.size, 1 + j, none⟩ := by simp [Addr.add]
        rw [ea]
        show W.cell? ⟨w.heap.size, 1 + j, none⟩ = some v
        rw [cells_get hb0]
        revert hj; match j with
        | 0 => intro hj; first | simpa using hj | (simp at hj)
        | 1 => intro hj; first | (simp at hj; done) | simpa using hj
        | j + 2 => intro hj; simp at hj)
      (fun j hj => by
        show (W.cell? ⟨w.heap.size, 0 + j, none⟩).isSome = true
        rw [cells_get hb0]
        simp at hj
        first
          | omega
          | (have : j = 0 ∨ j = 1 := by omega
             rcases this with rfl | rfl <;> rfl))
      (fun j hj => cells_free hb0 _) (fun v hv => by
        simp at hv
        first
          | (rcases hv with rfl | rfl <;> rfl)
          | (subst hv; rfl))
  have hwr : IntKind.i64.wrap 1 = 1 := rfl
  go_enter Tryd.func54, Tryd.ntmps54
  go_wp2_with fail
  rw [← hW]
  clear hW
  go_region_law (refine step_copy_run (by rfl) _ _ _ _ (by rfl) _ _ (by rfl) (by rfl) 2 _ hcp ?_)
  all_goals
    clear hcp
    have x0 := cells_get hb0 0
    have x1 := cells_get hb0 1
    have x2 := cells_get hb0 2
    have f0 := cells_free hb0 0
    have f1 := cells_free hb0 1
    have f2 := cells_free hb0 2
    have y0 := cells_get hb1 0
    have y1 := cells_get hb1 1
    have y2 := cells_get hb1 2
    have g0 := cells_free hb1 0
    have g1 := cells_free hb1 1
    have g2 := cells_free hb1 2
    simp at x0 x1 x2 y0 y1 y2
    simp only [World.setCells, Nat.reduceAdd]
    go_wp2_with fail
    obtain ⟨r0, r1, r2⟩ := res3 (W := (((W.setCell ⟨w.heap.size, 0, none⟩ (.int .u8 y)).setCell ⟨w.heap.size, 1, none⟩ (.int .u8 z)).setCell ⟨w.heap.size, 2, none⟩ (.int .u8 35))) (N := w.heap.size + 1) (a := .int .u8 y) (b := .int .u8 z) (c := .int .u8 35) (by first | (repeat rw [Below.heap_setCell _ _ _ _ (by simp)]); exact hb1)
    refine bodyPost_ret (v := .agg #[.int .u8 y, .int .u8 z, .int .u8 35]) (by simp [results, Tryd.results54, go_sem, r0, r1, r2]) rfl ⟨rfl, ?_⟩
    exact ((((((HBW.out.setCell (p := ⟨w.heap.size, 0, none⟩) (Nat.le_refl _) _).setCell (p := ⟨w.heap.size, 1, none⟩) (Nat.le_refl _) _).setCell (p := ⟨w.heap.size, 2, none⟩) (Nat.le_refl _) _).setCell (p := ⟨w.heap.size + 1, 0, none⟩) (Nat.le_succ _) _).setCell (p := ⟨w.heap.size + 1, 1, none⟩) (Nat.le_succ _) _).setCell (p := ⟨w.heap.size + 1, 2, none⟩) (Nat.le_succ _) _).drew

set_option maxHeartbeats 4000000 in
theorem without1 (x y z : Int) (w : World) : Calls Tryd.prog 54 #[.agg #[.int .u8 x, .int .u8 y, .int .u8 z], .int .i64 1] w fun e w' => e = .returned (.agg #[.int .u8 x, .int .u8 z, .int .u8 35]) ∧ Below w.heap.size w w' := by
  obtain ⟨W, hW⟩ : ∃ W, W = ((w.alloc (.cells #[.int .u8 x, .int .u8 y, .int .u8 z] 75)).alloc (.cells #[Value.int .u8 0, .int .u8 0, .int .u8 0] 75)) := ⟨_, rfl⟩
  have hb0 : W.heap[w.heap.size]? = some (.cells #[.int .u8 x, .int .u8 y, .int .u8 z] 75 (0, 0)) := by
    rw [hW, Below.heap_alloc _ _ _ (by simp)]; exact heap_alloc_new _ _
  have hb1 : W.heap[w.heap.size + 1]? = some (.cells #[Value.int .u8 0, .int .u8 0, .int .u8 0] 75 (0, 0)) := by
    have := heap_alloc_new (w.alloc (.cells #[.int .u8 x, .int .u8 y, .int .u8 z] 75)) (.cells #[Value.int .u8 0, .int .u8 0, .int .u8 0] 75)
    rw [hW]; simpa using this
  have HBW := Lib.hid (show Below w.heap.size w W by rw [hW]; exact ((Below.refl _ w).alloc (Nat.le_refl _) _).alloc (by simp) _)
  have hcp : (Builtin.copy_ #[96, 96] 3 #[.slice (some ⟨w.heap.size, 1, none⟩) 2 2, .slice (some ⟨w.heap.size, 2, none⟩) 1 1]).run Tryd.prog W.drew = .ok (goInt 1) (W.drew.setCells w.heap.size 1 [.int .u8 z]) :=
    run_copy_cells W.drew _ _ _ 5 w.heap.size 1 2 2 ⟨w.heap.size, 2, none⟩ 1 1 [.int .u8 z] Tryd.underlying96 infoB rfl
      (fun j v hj => by
        have ea : Addr.add ⟨w.heap.size, 2, none⟩ j = ⟨w.heap.size, 2 + j, none⟩ := by simp [Addr.add]
        rw [ea]
        show W.cell? ⟨w.heap.size, 2 + j, none⟩ = some v
        rw [cells_get hb0]
        revert hj; match j with
        | 0 => intro hj; first | simpa using hj | (simp at hj)
        | 1 => intro hj; first | (simp at hj; done) | simpa using hj
        | j + 2 => intro hj; simp at hj)
      (fun j hj => by
        show (W.cell? ⟨w.heap.size, 1 + j, none⟩).isSome = true
        rw [cells_get hb0]
        simp at hj
        first
          | omega
          | (have : j = 0 ∨ j = 1 := by omega
             rcases this with rfl | rfl <;> rfl))
      (fun j hj => cells_free hb0 _) (fun v hv => by
        simp at hv
        first
          | (rcases hv with rfl | rfl <;> rfl)
          | (subst hv; rfl))
  have hwr : IntKind.i64.wrap 2 = 2 := rfl
  go_enter Tryd.func54, Tryd.ntmps54
  go_wp2_with fail
  rw [← hW]
  clear hW
  go_region_law (refine step_copy_run (by rfl) _ _ _ _ (by rfl) _ _ (by rfl) (by rfl) 1 _ hcp ?_)
  all_goals
    clear hcp
    have x0 := cells_get hb0 0
    have x1 := cells_get hb0 1
    have x2 := cells_get hb0 2
    have f0 := cells_free hb0 0
    have f1 := cells_free hb0 1
    have f2 := cells_free hb0 2
    have y0 := cells_get hb1 0
    have y1 := cells_get hb1 1
    have y2 := cells_get hb1 2
    have g0 := cells_free hb1 0
    have g1 := cells_free hb1 1
    have g2 := cells_free hb1 2
    simp at x0 x1 x2 y0 y1 y2
    simp only [World.setCells, Nat.reduceAdd]
    go_wp2_with fail
    obtain ⟨r0, r1, r2⟩ := res3 (W := ((W.setCell ⟨w.heap.size, 1, none⟩ (.int .u8 z)).setCell ⟨w.heap.size, 2, none⟩ (.int .u8 35))) (N := w.heap.size + 1) (a := .int .u8 x) (b := .int .u8 z) (c := .int .u8 35) (by first | (repeat rw [Below.heap_setCell _ _ _ _ (by simp)]); exact hb1)
    refine bodyPost_ret (v := .agg #[.int .u8 x, .int .u8 z, .int .u8 35]) (by simp [results, Tryd.results54, go_sem, r0, r1, r2]) rfl ⟨rfl, ?_⟩
    exact (((((HBW.out.setCell (p := ⟨w.heap.size, 1, none⟩) (Nat.le_refl _) _).setCell (p := ⟨w.heap.size, 2, none⟩) (Nat.le_refl _) _).setCell (p := ⟨w.heap.size + 1, 0, none⟩) (Nat.le_succ _) _).setCell (p := ⟨w.heap.size + 1, 1, none⟩) (Nat.le_succ _) _).setCell (p := ⟨w.heap.size + 1, 2, none⟩) (Nat.le_succ _) _).drew

set_option maxHeartbeats 4000000 in
theorem without2 (x y z : Int) (w : World) : Calls Tryd.prog 54 #[.agg #[.int .u8 x, .int .u8 y, .int .u8 z], .int .i64 2] w fun e w' => e = .returned (.agg #[.int .u8 x, .int .u8 y, .int .u8 35]) ∧ Below w.heap.size w w' := by
  obtain ⟨W, hW⟩ : ∃ W, W = ((w.alloc (.cells #[.int .u8 x, .int .u8 y, .int .u8 z] 75)).alloc (.cells #[Value.int .u8 0, .int .u8 0, .int .u8 0] 75)) := ⟨_, rfl⟩
  have hb0 : W.heap[w.heap.size]? = some (.cells #[.int .u8 x, .int .u8 y, .int .u8 z] 75 (0, 0)) := by
    rw [hW, Below.heap_alloc _ _ _ (by simp)]; exact heap_alloc_new _ _
  have hb1 : W.heap[w.heap.size + 1]? = some (.cells #[Value.int .u8 0, .int .u8 0, .int .u8 0] 75 (0, 0)) := by
    have := heap_alloc_new (w.alloc (.cells #[.int .u8 x, .int .u8 y, .int .u8 z] 75)) (.cells #[Value.int .u8 0, .int .u8 0, .int .u8 0] 75)
    rw [hW]; simpa using this
  have HBW := Lib.hid (show Below w.heap.size w W by rw [hW]; exact ((Below.refl _ w).alloc (Nat.le_refl _) _).alloc (by simp) _)
  have hcp : (Builtin.copy_ #[96, 96] 3 #[.slice (some ⟨w.heap.size, 2, none⟩) 1 1, .slice (some ⟨w.heap.size, 0, none⟩) 0 0]).run Tryd.prog W.drew = .ok (goInt 0) W.drew :=
    run_copy_none W.drew _ _ _ 5 _ _ 1 1 0 0 Tryd.underlying96 infoB rfl
  have hwr : IntKind.i64.wrap 3 = 3 := rfl
  go_enter Tryd.func54, Tryd.ntmps54
  go_wp2_with fail
  rw [← hW]
  clear hW
  go_region_law (refine step_copy_run (by rfl) _ _ _ _ (by rfl) _ _ (by rfl) (by rfl) 0 _ hcp ?_)
  all_goals
    clear hcp
    have x0 := cells_get hb0 0
    have x1 := cells_get hb0 1
    have x2 := cells_get hb0 2
    have f0 := cells_free hb0 0
    have f1 := cells_free hb0 1
    have f2 := cells_free hb0 2
    have y0 := cells_get hb1 0
    have y1 := cells_get hb1 1
    have y2 := cells_get hb1 2
    have g0 := cells_free hb1 0
    have g1 := cells_free hb1 1
    have g2 := cells_free hb1 2
    simp at x0 x1 x2 y0 y1 y2
    skip
    go_wp2_with fail
    obtain ⟨r0, r1, r2⟩ := res3 (W := (W.setCell ⟨w.heap.size, 2, none⟩ (.int .u8 35))) (N := w.heap.size + 1) (a := .int .u8 x) (b := .int .u8 y) (c := .int .u8 35) (by first | (repeat rw [Below.heap_setCell _ _ _ _ (by simp)]); exact hb1)
    refine bodyPost_ret (v := .agg #[.int .u8 x, .int .u8 y, .int .u8 35]) (by simp [results, Tryd.results54, go_sem, r0, r1, r2]) rfl ⟨rfl, ?_⟩
    exact ((((HBW.out.setCell (p := ⟨w.heap.size, 2, none⟩) (Nat.le_refl _) _).setCell (p := ⟨w.heap.size + 1, 0, none⟩) (Nat.le_succ _) _).setCell (p := ⟨w.heap.size + 1, 1, none⟩) (Nat.le_succ _) _).setCell (p := ⟨w.heap.size + 1, 2, none⟩) (Nat.le_succ _) _).drew
end Go.Proofs.YtaimealknkhfbaaDoor.WithoutI
