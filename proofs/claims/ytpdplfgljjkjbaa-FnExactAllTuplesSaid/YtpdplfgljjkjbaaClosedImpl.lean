
/- What the program's functions that make known relations hand back.
   Conditions: stated at each theorem. -/
import Derived.Test.YtpdplfgljjkjbaaClosed
import Derived.Test.YtpdplfgljjkjbaaKnownI
namespace Go.Proofs.Ytpdplfgljjkjbaa.ClosedImpl
set_option linter.unusedVariables false
set_option linter.unusedSimpArgs false
set_option maxRecDepth 100000
open Go.RowKit Mem Copy Rel Valid Heap Bld ColMath Columns Numbers ToL TidyAuto TidyRight SpecRight SpecTidyRel ImplRight Automaton Known Sim ResKit Closed

/-! The rules, letter by letter. -/
theorem prefixRule (s c : Nat) (hs : s < 2) (hc : c < 8) (W : World) : Calls Try.prog 51 #[.int .i64 s, lettersV 2 c] W fun e w' => e = .returned (.int .i64 (tab tPrefix s c)) ∧ Below W.heap.size W w' := by
  have h1 : s = 0 ∨ s = 1 := by omega
  have h2 : c = 0 ∨ c = 1 ∨ c = 2 ∨ c = 3 ∨ c = 4 ∨ c = 5 ∨ c = 6 ∨ c = 7 := by omega
  rcases h1 with rfl | rfl <;> rcases h2 with rfl | rfl | rfl | rfl | rfl | rfl | rfl | rfl
  all_goals
    simp only [lettersV, letT, letA, pow3, tab, tPrefix]
    go_enter Try.func51, Try.ntmps51
    go_wp2
    go_ret
    exact ⟨rfl, (Below.refl _ _).alloc (Nat.le_refl _) _⟩
end Go.Proofs.Ytpdplfgljjkjbaa.ClosedImpl
