
/- What the program's AddTape and InverseRelation answer: a relation in memory of its own, and a code.
   Conditions: the relation is read as XRel's text says; the type's handle lies where errors.As reads it. -/
import Derived.Test.YtaimealknkhfbaaDoorRB24
import Derived.Test.YtaimealknkhfbaaDoorRB26
import Derived.Test.YtaimealknkhfbaaDoorRB6
import Derived.Test.YtaimealknkhfbaaDoorRB12
import Derived.Test.YtaimealknkhfbaaDoorRB9
namespace Go.Proofs.YtaimealknkhfbaaDoor.TapeFn
set_option linter.unusedVariables false
set_option linter.unusedSimpArgs false
set_option maxRecDepth 100000
open Go.RowKit Go.Maps Mem Copy Rel Valid Heap Bld Columns ColMath SpecFiner Numbers TidyMath TidyAuto TidyRight SpecRight ToL SpecTidyRel ImplRight ImplTidied ErrCode OppImpl Automaton TapeMath Reread RereadI MoveI TapeI WithoutI AddI StepI

/-- What is answered: a code that comes first, or the tidy relation of an automaton. -/
def ansC (c : Int) (l : L) : Int := if c = 0 then (if fewB l 150 = true then 0 else 3) else c
def ansK (c : Int) (l : L) : Int := if c = 0 then fewK l 150 else 0
def ansA (c : Int) (l : L) : List Bool := if c = 0 then fewA l 150 else []
def ansN (c : Int) (l : L) : List (List Int) := if c = 0 then fewN l 150 else []
theorem ans_no {c : Int} (l : L) (h : c ≠ 0) : ansC c l = c ∧ ansK c l = 0 ∧ ansA c l = [] ∧ ansN c l = [] := ⟨if_neg h, if_neg h, if_neg h, if_neg h⟩
theorem ans_yes {c : Int} (l : L) (h : c = 0) : ansC c l = (if fewB l 150 = true then 0 else 3) ∧ ansK c l = fewK l 150 ∧ ansA c l = fewA l 150 ∧ ansN c l = fewN l 150 := ⟨if_pos h, if_pos h, if_pos h, if_pos h⟩
theorem few_no (l : L) (h : fewB l 150 = false) : fewK l 150 = 0 ∧ fewA l 150 = [] ∧ fewN l 150 = [] := by unfold fewK fewA fewN; rw [h]; exact ⟨rfl, rfl, rfl⟩

/-- The code of AddTape that comes first, and its automaton. -/
def addC (r : R) (x : Int) : Int := if okB r = true then (if 0 ≤ x ∧ x ≤ r.tapes ∧ r.tapes ≠ 3 then 0 else 2) else 1
def addL (r : R) (x : Int) : L := reL (toL r) ((toL r).k + 1) (leftN ((toL r).k + 1) x.toNat)
/-- The code of InverseRelation that comes first, and its automaton. -/
def invC (r : R) : Int := if okB r = true then (if r.tapes = 2 then 0 else 2) else 1
def invL (r : R) : L := reL (toL r) (toL r).k (putN [1, 0])

end Go.Proofs.YtaimealknkhfbaaDoor.TapeFn
/- What the program's AddTape answers: a relation in memory of its own, and a code.
   Conditions: the relation is read as XRel's text says; the type's handle lies where errors.As reads it. -/
namespace Go.Proofs.YtaimealknkhfbaaDoor.AddFn
set_option linter.unusedVariables false
set_option linter.unusedSimpArgs false
set_option maxRecDepth 100000
open Go.RowKit Go.Maps Mem Copy Rel Valid Heap Bld Columns ColMath SpecFiner Numbers TidyMath TidyAuto TidyRight SpecRight ToL SpecTidyRel ImplRight ImplTidied ErrCode OppImpl Automaton TapeMath Reread RereadI MoveI TapeI WithoutI AddI StepI TapeFn

theorem two_cells (w : World) (p q : Value) (t u : TypeId) : ((w.alloc (.cells #[p] t)).alloc (.cells #[q] u)).cell? ⟨w.heap.size, 0, none⟩ = some p ∧ w.heap.size < ((w.alloc (.cells #[p] t)).alloc (.cells #[q] u)).heap.size ∧ ((w.alloc (.cells #[p] t)).alloc (.cells #[q] u)).cell? ⟨w.heap.size + 1, 0, none⟩ = some q ∧ w.heap.size + 1 < ((w.alloc (.cells #[p] t)).alloc (.cells #[q] u)).heap.size := by
  have e1 := size_alloc' w (.cells #[p] t)
  have e2 := size_alloc' (w.alloc (.cells #[p] t)) (.cells #[q] u)
  have h1 := heap_alloc_new w (.cells #[p] t)
  have h2 := heap_alloc_new (w.alloc (.cells #[p] t)) (.cells #[q] u)
  rw [e1] at h2
  have h3 : ((w.alloc (.cells #[p] t)).alloc (.cells #[q] u)).heap[w.heap.size]? = some (.cells #[p] t (0, 0)) := by rw [Below.heap_alloc _ _ _ (by omega)]; exact h1
  exact ⟨cells_get h3 0, by omega, cells_get h2 0, by omega⟩
theorem k0_two {w W : World} {X : Array Value} (h : K0 w X W) (a b : Obj) : K0 w X ((W.alloc a).alloc b).drew :=
  Below.drew (Below.alloc (Below.alloc h (K0.size h) a) (by rw [size_alloc']; exact Nat.le_succ_of_le (K0.size h)) b)
theorem k0_step {w W w' : World} {X : Array Value} (h : K0 w X W) (hb : Below W.heap.size W w') : K0 w X w' := Below.trans h (hb.mono (K0.size h))
theorem add_bad {r : R} {x : Int} (hok : okB r = false) : ansC (addC r x) (addL r x) = 1 ∧ ansK (addC r x) (addL r x) = 0 ∧ ansA (addC r x) (addL r x) = [] ∧ ansN (addC r x) (addL r x) = [] := by
  have e : addC r x = 1 := by simp [addC, hok]
  have := ans_no (addL r x) (c := addC r x) (by rw [e]; decide)
  rw [e] at this ⊢; exact this
theorem add_far {r : R} {x : Int} (hok : okB r = true) (h : ¬ (0 ≤ x ∧ x ≤ r.tapes ∧ r.tapes ≠ 3)) : ansC (addC r x) (addL r x) = 2 ∧ ansK (addC r x) (addL r x) = 0 ∧ ansA (addC r x) (addL r x) = [] ∧ ansN (addC r x) (addL r x) = [] := by
  have e : addC r x = 2 := by simp only [addC, if_pos hok, if_neg h]
  have := ans_no (addL r x) (c := addC r x) (by rw [e]; decide)
  rw [e] at this ⊢; exact this
theorem add_good {r : R} {x : Int} (hok : okB r = true) (h : 0 ≤ x ∧ x ≤ r.tapes ∧ r.tapes ≠ 3) : ansC (addC r x) (addL r x) = (if fewB (addL r x) 150 = true then 0 else 3) ∧ ansK (addC r x) (addL r x) = fewK (addL r x) 150 ∧ ansA (addC r x) (addL r x) = fewA (addL r x) 150 ∧ ansN (addC r x) (addL r x) = fewN (addL r x) 150 := by
  have e : addC r x = 0 := by simp only [addC, if_pos hok, if_pos h]
  exact ans_yes (addL r x) e
theorem add_k {r : R} {x : Int} (hok : okB r = true) (h : 0 ≤ x ∧ x ≤ r.tapes ∧ r.tapes ≠ 3) : (toL r).k ≤ 2 ∧ x.toNat ≤ (toL r).k := by
  have h3 := (okL hok).1.2.k3
  have e : (toL r).k = r.tapes.toNat := rfl
  omega
theorem add_ok {r : R} {x : Int} (hok : okB r = true) (h : 0 ≤ x ∧ x ≤ r.tapes ∧ r.tapes ≠ 3) : (addL r x).Ok := leftL_ok (okL hok).1.2 (add_k hok h).1 (add_k hok h).2

end Go.Proofs.YtaimealknkhfbaaDoor.AddFn
/- What the model's function that looks at the number of states hands back.
   Conditions: the relation's fields are slices. -/
namespace Go.Proofs.YtaimealknkhfbaaDoor.SpecTold
set_option linter.unusedVariables false
set_option linter.unusedSimpArgs false
open Go.RowKit Mem Rel Bld

set_option maxHeartbeats 2000000 in
theorem told_few (k : Int) (aa ab : Option Addr) (n ca nb cb : Nat) (w : World) (hn : n ≤ 150) :
    Calls Tryd.prog 35 #[.agg #[.int .i64 k, .int .i64 0, .slice aa n ca, .slice ab nb cb]] w fun e w' => e = .returned (.tuple #[.agg #[.int .i64 k, .int .i64 0, .slice aa n ca, .slice ab nb cb], .int .i64 0]) ∧ Below w.heap.size w w' := by
  go_enter Tryd.func35, Tryd.ntmps35
  go_wp2
  exact bodyPost_ret (v := .tuple #[.agg #[.int .i64 k, .int .i64 0, .slice aa n ca, .slice ab nb cb], .int .i64 0]) (by simp [results, Tryd.results35, go_sem]) rfl ⟨rfl, ((Below.refl _ _).alloc (Nat.le_refl _) _).alloc (by simp) _⟩
theorem told_many (k : Int) (aa ab : Option Addr) (n ca nb cb : Nat) (w : World) (hn : 150 < n) (hm : n ≤ 1000000) :
    Calls Tryd.prog 35 #[.agg #[.int .i64 k, .int .i64 0, .slice aa n ca, .slice ab nb cb]] w fun e w' => e = .returned (.tuple #[.agg #[.int .i64 0, .int .i64 0, .slice none 0 0, .slice none 0 0], .int .i64 3]) ∧ Below w.heap.size w w' := by
  go_enter Tryd.func35, Tryd.ntmps35
  go_wp2
  exact bodyPost_ret (v := .tuple #[.agg #[.int .i64 0, .int .i64 0, .slice none 0 0, .slice none 0 0], .int .i64 3]) (by simp [results, Tryd.results35, go_sem]) rfl ⟨rfl, ((Below.refl _ _).alloc (Nat.le_refl _) _).alloc (by simp) _⟩
end Go.Proofs.YtaimealknkhfbaaDoor.SpecTold
/- What the model's TidyRelation answers: a relation in memory of its own, and a code.
   Conditions: the relation is read as XRel's text says. -/
namespace Go.Proofs.YtaimealknkhfbaaDoor.SpecTidyRel
set_option linter.unusedVariables false
set_option linter.unusedSimpArgs false
open Go.RowKit Mem Copy Rel Valid Heap Columns TidyAuto TidyRight SpecRight SpecTidied SpecTold ToL Bld

end Go.Proofs.YtaimealknkhfbaaDoor.SpecTidyRel
