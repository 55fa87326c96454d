
/- What a tidied relation is, by what is read: its tapes, a code, its lists.
   Conditions: stated at each theorem. -/
import Derived.Test.YthebmpdkiocbmaaDoorTidyRight
import Derived.Test.YthebmpdkiocbmaaDoorToL
import Derived.Test.YthebmpdkiocbmaaDoorBld
namespace Go.Proofs.YthebmpdkiocbmaaDoor.SpecTidyRel
set_option linter.unusedVariables false
set_option linter.unusedSimpArgs false
open Go.RowKit Mem Copy Rel Valid Heap Columns TidyAuto TidyRight SpecRight ToL Bld

def few (r : R) : Bool := okB r && decide ((tidyAcc (toL r)).length ≤ 150)
def tidyC (r : R) : Int := if okB r = true then (if (tidyAcc (toL r)).length ≤ 150 then 0 else 3) else 1
def tidyK (r : R) : Int := if few r = true then r.tapes else 0
def tidyA (r : R) : List Bool := if few r = true then tidyAcc (toL r) else []
def tidyN (r : R) : List (List Int) := if few r = true then tidyNext (toL r) else []

theorem built_none (w : World) (B : Nat) : Built w B (.slice none 0 0) (.slice none 0 0) [] [] :=
  ⟨Lst.nil _ _ _, [], Own.nil _ _ _, Lst.nil _ _ _, rfl⟩

theorem okL {r : R} (h : okB r = true) : (relOf (toL r) = r ∧ (toL r).Ok) ∧ (toL r).acc.length ≤ 150 := by
  unfold okB at h
  rw [Bool.and_eq_true] at h
  exact ⟨relOf_toL h.2, by have := of_decide_eq_true h.1; show r.accept.length ≤ 150; omega⟩
end Go.Proofs.YthebmpdkiocbmaaDoor.SpecTidyRel
