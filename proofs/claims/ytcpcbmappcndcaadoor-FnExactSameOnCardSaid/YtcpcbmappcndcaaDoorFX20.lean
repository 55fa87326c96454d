
/- What the program's withTape and tapeAdded hand back.
   Conditions: stated at each theorem. -/
import Derived.Test.YtcpcbmappcndcaaDoorFX19
import Derived.Test.YtcpcbmappcndcaaDoorFX11
namespace Go.Proofs.YtcpcbmappcndcaaDoor.AddI
set_option linter.unusedVariables false
set_option linter.unusedSimpArgs false
set_option maxRecDepth 100000
open Go.RowKit Go.Maps Mem Copy Rel Valid Heap Bld Columns ColMath SpecFiner Numbers TidyMath TidyAuto TidyRight SpecRight ImplRight ImplTidied ErrCode Automaton TapeMath Reread RereadI MoveI TapeI WithoutI

end Go.Proofs.YtcpcbmappcndcaaDoor.AddI
/- What the program's tapeAdded and inSteps, of one step, hand back.
   Conditions: stated at each theorem. -/
namespace Go.Proofs.YtcpcbmappcndcaaDoor.StepI
set_option linter.unusedVariables false
set_option linter.unusedSimpArgs false
set_option maxRecDepth 100000
open Go.RowKit Go.Maps Mem Copy Rel Valid Heap Bld Columns ColMath SpecFiner Numbers TidyMath TidyAuto TidyRight SpecRight ImplRight ImplTidied ErrCode Automaton TapeMath Reread RereadI MoveI TapeI WithoutI AddI

abbrev set4 (W : World) (Z : Nat) (a b c d : Value) : World := (((W.setCell ⟨Z, 0, none⟩ a).setCell ⟨Z, 1, none⟩ b).setCell ⟨Z, 2, none⟩ c).setCell ⟨Z, 3, none⟩ d
theorem res4 {W : World} {Z : Nat} {a b c d x y z u : Value} {t : TypeId} (h : W.heap[Z]? = some (.cells #[x, y, z, u] t (0, 0))) :
    (set4 W Z a b c d).cell? ⟨Z, 0, none⟩ = some a ∧ (set4 W Z a b c d).cell? ⟨Z, 1, none⟩ = some b ∧ (set4 W Z a b c d).cell? ⟨Z, 2, none⟩ = some c ∧ (set4 W Z a b c d).cell? ⟨Z, 3, none⟩ = some d := by
  have p3 := cells_set (cells_set (cells_set (cells_set h 0 a) 1 b) 2 c) 3 d
  simp at p3
  exact ⟨by rw [cells_get p3]; rfl, by rw [cells_get p3]; rfl, by rw [cells_get p3]; rfl, by rw [cells_get p3]; rfl⟩
theorem set4_built {W : World} {B Z : Nat} {a b c d va vn : Value} {A : List Bool} {N : List (List Int)} (h : Built W B va vn A N) (hZ : Z < B) : Built (set4 W Z a b c d) B va vn A N :=
  (((h.setLow (a := ⟨Z, 0, none⟩) hZ _).setLow (a := ⟨Z, 1, none⟩) hZ _).setLow (a := ⟨Z, 2, none⟩) hZ _).setLow (a := ⟨Z, 3, none⟩) hZ _
theorem set4_below {w W : World} {B Z : Nat} {a b c d : Value} (h : Below B w W) (hZ : B ≤ Z) : Below B w (set4 W Z a b c d) :=
  (((h.setCell (p := ⟨Z, 0, none⟩) hZ _).setCell (p := ⟨Z, 1, none⟩) hZ _).setCell (p := ⟨Z, 2, none⟩) hZ _).setCell (p := ⟨Z, 3, none⟩) hZ _
theorem leftL_ok {l : L} (hl : l.Ok) (h2 : l.k ≤ 2) {at_ : Nat} (hat : at_ ≤ l.k) : (reL l (l.k + 1) (leftN (l.k + 1) at_)).Ok :=
  reL_ok hl (by have := hl.k0; omega) (by omega) fun c hc => (left_fin hl.k0 h2 hat hc).1

/-- What a step hands back. -/
def StepR (l : L) (w : World) (e : Ending) (w' : World) : Prop := ∃ va vn, e = .returned (.tuple #[.agg #[.int .i64 (fewK l 150), .int .i64 0, va, vn], errV (fewB l 150) 150]) ∧ Built w' w.heap.size va vn (fewA l 150) (fewN l 150) ∧ Below w.heap.size w w'

end Go.Proofs.YtcpcbmappcndcaaDoor.StepI
/- Whether a list has each tape of a relation just once, as the program finds it out.
   Conditions: stated at each theorem. -/
namespace Go.Proofs.YtcpcbmappcndcaaDoor.OrdI
set_option linter.unusedVariables false
set_option linter.unusedSimpArgs false
set_option maxRecDepth 100000
open Go.RowKit Mem Copy Rel Heap Bld Columns ColMath Numbers TidyRight TapeMath OrdMath

/-- The relation's box is made, and what was before stays. -/
def KB (w : World) (x : Array Value) (W : World) : Prop := Below (w.heap.size + 1) (w.alloc (.cells x 27)) W
theorem KB.new (w : World) (x : Array Value) : KB w x (w.alloc (.cells x 27)) := Below.refl _ _
theorem KB.size {w W : World} {x : Array Value} (h : KB w x W) : w.heap.size + 1 ≤ W.heap.size := by
  have := Below.size h
  rw [size_alloc'] at this; exact this
theorem KB.base {w W : World} {x : Array Value} (h : KB w x W) : Below w.heap.size w W :=
  ((Below.refl _ _).alloc (Nat.le_refl _) _).trans (Below.mono h (by omega))
theorem KB.box {w W : World} {x : Array Value} (h : KB w x W) : W.heap[w.heap.size]? = some (.cells x 27 (0, 0)) := by
  rw [Below.block h _ (by omega)]; exact heap_alloc_new _ _

theorem hasTapeI (k st : Int) (aa ab : Option Addr) (na ca nb cb : Nat) (x : Int) (w : World) :
    Calls Tryd.prog 46 #[.agg #[.int .i64 k, .int .i64 st, .slice aa na ca, .slice ab nb cb], .int .i64 x] w fun e w' => e = .returned (.bool (decide (0 ≤ x ∧ x < k))) ∧ Below w.heap.size w w' := by
  by_cases h0 : 0 ≤ x
  · have d0 : decide (0 ≤ x) = true := by simpa using h0
    by_cases h1 : x < k
    · have d1 : decide (x < k) = true := by simpa using h1
      have E : decide (0 ≤ x ∧ x < k) = true := by simp [h0, h1]
      go_enter Tryd.func46, Tryd.ntmps46
      go_wp2
      go_ret
      exact ⟨by first | rfl | (rw [E]; rfl), (Below.refl _ _).alloc (Nat.le_refl _) _⟩
    · have d1 : decide (x < k) = false := by simpa using h1
      have E : decide (0 ≤ x ∧ x < k) = false := by simp [h1]
      go_enter Tryd.func46, Tryd.ntmps46
      go_wp2
      go_ret
      exact ⟨by first | rfl | (rw [E]; rfl), (Below.refl _ _).alloc (Nat.le_refl _) _⟩
  · have d0 : decide (0 ≤ x) = false := by simpa using h0
    have E : decide (0 ≤ x ∧ x < k) = false := by simp [h0]
    go_enter Tryd.func46, Tryd.ntmps46
    go_wp2
    go_ret
    exact ⟨by first | rfl | (rw [E]; rfl), (Below.refl _ _).alloc (Nat.le_refl _) _⟩

end Go.Proofs.YtcpcbmappcndcaaDoor.OrdI
