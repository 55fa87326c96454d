
/- What the functions on columns of one to three tapes answer, the program's and the model's.
   Conditions: stated at each theorem. -/
import Derived.Test.YtjoiaenkmmmmpaaRows
import Derived.WalkKit
import Derived.ProofKit
import Derived.Lib.Hide
namespace Go.Proofs.Ytjoiaenkmmmmpaa.Columns
set_option linter.unusedVariables false
set_option linter.unusedSimpArgs false
open Go.RowKit

def letA (d : Int) : Int := if d = 0 then 97 else if d = 1 then 98 else 35

theorem idx0 (w : World) : (Instr.index 9 (.string ⟨#[97, 98, 35]⟩) (.int .i64 0)).run Try.prog w = .ok (.int .u8 97) w := by kernel_rfl
theorem idx1 (w : World) : (Instr.index 9 (.string ⟨#[97, 98, 35]⟩) (.int .i64 1)).run Try.prog w = .ok (.int .u8 98) w := by kernel_rfl
theorem idx2 (w : World) : (Instr.index 9 (.string ⟨#[97, 98, 35]⟩) (.int .i64 2)).run Try.prog w = .ok (.int .u8 35) w := by kernel_rfl
theorem idx (d : Int) (h0 : 0 ≤ d) (h3 : d < 3) (w : World) :
    (Instr.index 9 (.string ⟨#[97, 98, 35]⟩) (.int .i64 d)).run Try.prog w = .ok (.int .u8 (letA d)) w := by
  have : d = 0 ∨ d = 1 ∨ d = 2 := by omega
  rcases this with rfl | rfl | rfl
  · exact idx0 w
  · exact idx1 w
  · exact idx2 w

def inB (x lo hi : Int) : Bool := decide (lo ≤ x ∧ x ≤ hi)
theorem inRange (x lo hi : Int) (w : World) :
    Calls Try.prog 94 #[.int .i64 x, .int .i64 lo, .int .i64 hi] w fun e w' => e = .returned (.bool (inB x lo hi)) ∧ w = w' := by
  by_cases h : lo ≤ x
  · by_cases h2 : x ≤ hi
    · have E : inB x lo hi = true := by simp [inB, h, h2]
      have d1 : decide (lo ≤ x) = true := by simpa using h
      have d2 : decide (x ≤ hi) = true := by simpa using h2
      go_enter Try.func94, Try.ntmps94
      go_wp2
      go_ret
      exact ⟨by first | rfl | (rw [E]; rfl), rfl⟩
    · have E : inB x lo hi = false := by simp [inB, h2]
      have d1 : decide (lo ≤ x) = true := by simpa using h
      have d2 : decide (x ≤ hi) = false := by simpa using h2
      go_enter Try.func94, Try.ntmps94
      go_wp2
      go_ret
      exact ⟨by first | rfl | (rw [E]; rfl), rfl⟩
  · have E : inB x lo hi = false := by simp [inB, h]
    have d1 : decide (lo ≤ x) = false := by simpa using h
    go_enter Try.func94, Try.ntmps94
    go_wp2
    go_ret
    exact ⟨by first | rfl | (rw [E]; rfl), rfl⟩

/-- How many columns there are for one to three tapes. -/
def widthOf (t : Int) : Int := if t = 1 then 2 else if t = 2 then 8 else 26

end Go.Proofs.Ytjoiaenkmmmmpaa.Columns
