
/- What the functions on columns of one to three tapes answer, the program's and the model's.
   Conditions: stated at each theorem. -/
import Derived.Test.YtapiikkbeboidaaRows
import Derived.WalkKit
import Derived.ProofKit
import Derived.Lib.Hide
namespace Go.Proofs.Ytapiikkbeboidaa.Columns
set_option linter.unusedVariables false
set_option linter.unusedSimpArgs false
open Go.RowKit

def letA (d : Int) : Int := if d = 0 then 97 else if d = 1 then 98 else 35

theorem idx0 (w : World) : (Instr.index 9 (.string ⟨#[97, 98, 35]⟩) (.int .i64 0)).run Try.prog w = .ok (.int .u8 97) w := by kernel_rfl
theorem idx1 (w : World) : (Instr.index 9 (.string ⟨#[97, 98, 35]⟩) (.int .i64 1)).run Try.prog w = .ok (.int .u8 98) w := by kernel_rfl
theorem idx2 (w : World) : (Instr.index 9 (.string ⟨#[97, 98, 35]⟩) (.int .i64 2)).run Try.prog w = .ok (.int .u8 35) w := by kernel_rfl
theorem idx (d : Int) (h0 : 0 ≤ d) (h3 : d < 3) (w : World) :
    (Instr.index 9 (.string ⟨#[97, 98, 35]⟩) (.int .i64 d)).run Try.prog w = .ok (.int .u8 (letA d)) w := by
  have : d = 0 ∨ d = 1 ∨ d = 2 := by omega
  rcases this with rfl | rfl | rfl
  · exact idx0 w
  · exact idx1 w
  · exact idx2 w

theorem validTapes (n : Int) (w : World) :
    Calls Try.prog 28 #[.int .i64 n] w fun e w' => e = .returned (.bool (decide (1 ≤ n ∧ n ≤ 3))) ∧ w = w' := by
  by_cases h : 1 ≤ n
  · by_cases h2 : n ≤ 3
    · go_enter Try.func28, Try.ntmps28
      go_wp2
      go_ret
      exact ⟨by simp [h, h2], rfl⟩
    · have h3 : decide (n ≤ 3) = false := by simpa using h2
      go_enter Try.func28, Try.ntmps28
      go_wp2
      go_ret
      exact ⟨by simp, rfl⟩
  · have h3 : decide (1 ≤ n) = false := by simpa using h
    go_enter Try.func28, Try.ntmps28
    go_wp2
    go_ret
    exact ⟨by simp, rfl⟩

theorem count1 (w : World) : Calls Try.prog 29 #[.int .i64 1] w fun e w' => e = .returned (.int .i64 2) ∧ w = w' := by
  go_enter Try.func29, Try.ntmps29
  go_wp2
  refine wp_loop_rounds 2 ?_
  rw [rounds_succ]
  go_wp2
  rw [rounds_succ]
  go_wp2
  go_ret
  exact ⟨rfl, rfl⟩

theorem count2 (w : World) : Calls Try.prog 29 #[.int .i64 2] w fun e w' => e = .returned (.int .i64 8) ∧ w = w' := by
  go_enter Try.func29, Try.ntmps29
  go_wp2
  refine wp_loop_rounds 3 ?_
  rw [rounds_succ]
  go_wp2
  rw [rounds_succ]
  go_wp2
  rw [rounds_succ]
  go_wp2
  go_ret
  exact ⟨rfl, rfl⟩

theorem count3 (w : World) : Calls Try.prog 29 #[.int .i64 3] w fun e w' => e = .returned (.int .i64 26) ∧ w = w' := by
  go_enter Try.func29, Try.ntmps29
  go_wp2
  refine wp_loop_rounds 4 ?_
  rw [rounds_succ]
  go_wp2
  rw [rounds_succ]
  go_wp2
  rw [rounds_succ]
  go_wp2
  rw [rounds_succ]
  go_wp2
  go_ret
  exact ⟨rfl, rfl⟩

theorem power0 (w : World) : Calls Try.prog 43 #[.int .i64 0] w fun e w' => e = .returned (.int .i64 1) ∧ w = w' := by
  go_enter Try.func43, Try.ntmps43
  go_wp2
  refine wp_loop_rounds 1 ?_
  rw [rounds_succ]
  go_wp2
  go_ret
  exact ⟨rfl, rfl⟩

theorem power1 (w : World) : Calls Try.prog 43 #[.int .i64 1] w fun e w' => e = .returned (.int .i64 3) ∧ w = w' := by
  go_enter Try.func43, Try.ntmps43
  go_wp2
  refine wp_loop_rounds 2 ?_
  rw [rounds_succ]
  go_wp2
  rw [rounds_succ]
  go_wp2
  go_ret
  exact ⟨rfl, rfl⟩

theorem power2 (w : World) : Calls Try.prog 43 #[.int .i64 2] w fun e w' => e = .returned (.int .i64 9) ∧ w = w' := by
  go_enter Try.func43, Try.ntmps43
  go_wp2
  refine wp_loop_rounds 3 ?_
  rw [rounds_succ]
  go_wp2
  rw [rounds_succ]
  go_wp2
  rw [rounds_succ]
  go_wp2
  go_ret
  exact ⟨rfl, rfl⟩

theorem power3 (w : World) : Calls Try.prog 43 #[.int .i64 3] w fun e w' => e = .returned (.int .i64 27) ∧ w = w' := by
  go_enter Try.func43, Try.ntmps43
  go_wp2
  refine wp_loop_rounds 4 ?_
  rw [rounds_succ]
  go_wp2
  rw [rounds_succ]
  go_wp2
  rw [rounds_succ]
  go_wp2
  rw [rounds_succ]
  go_wp2
  go_ret
  exact ⟨rfl, rfl⟩

theorem wide1 (w : World) : Calls Try.prog 42 #[.int .i64 1] w fun e w' => e = .returned (.int .i64 2) ∧ w = w' := by
  go_enter Try.func42, Try.ntmps42
  go_wp2_with (go_at_call 43; refine (power1 _).mono ?_; rintro e w' ⟨rfl, rfl⟩)
  go_ret
  exact ⟨rfl, rfl⟩

theorem wide2 (w : World) : Calls Try.prog 42 #[.int .i64 2] w fun e w' => e = .returned (.int .i64 8) ∧ w = w' := by
  go_enter Try.func42, Try.ntmps42
  go_wp2_with (go_at_call 43; refine (power2 _).mono ?_; rintro e w' ⟨rfl, rfl⟩)
  go_ret
  exact ⟨rfl, rfl⟩

theorem wide3 (w : World) : Calls Try.prog 42 #[.int .i64 3] w fun e w' => e = .returned (.int .i64 26) ∧ w = w' := by
  go_enter Try.func42, Try.ntmps42
  go_wp2_with (go_at_call 43; refine (power3 _).mono ?_; rintro e w' ⟨rfl, rfl⟩)
  go_ret
  exact ⟨rfl, rfl⟩

def inB (x lo hi : Int) : Bool := decide (lo ≤ x ∧ x ≤ hi)
theorem inRange (x lo hi : Int) (w : World) :
    Calls Try.prog 41 #[.int .i64 x, .int .i64 lo, .int .i64 hi] w fun e w' => e = .returned (.bool (inB x lo hi)) ∧ w = w' := by
  by_cases h : lo ≤ x
  · by_cases h2 : x ≤ hi
    · have E : inB x lo hi = true := by simp [inB, h, h2]
      have d1 : decide (lo ≤ x) = true := by simpa using h
      have d2 : decide (x ≤ hi) = true := by simpa using h2
      go_enter Try.func41, Try.ntmps41
      go_wp2
      go_ret
      exact ⟨by first | rfl | (rw [E]; rfl), rfl⟩
    · have E : inB x lo hi = false := by simp [inB, h2]
      have d1 : decide (lo ≤ x) = true := by simpa using h
      have d2 : decide (x ≤ hi) = false := by simpa using h2
      go_enter Try.func41, Try.ntmps41
      go_wp2
      go_ret
      exact ⟨by first | rfl | (rw [E]; rfl), rfl⟩
  · have E : inB x lo hi = false := by simp [inB, h]
    have d1 : decide (lo ≤ x) = false := by simpa using h
    go_enter Try.func41, Try.ntmps41
    go_wp2
    go_ret
    exact ⟨by first | rfl | (rw [E]; rfl), rfl⟩

/-- How many columns there are for one to three tapes. -/
def widthOf (t : Int) : Int := if t = 1 then 2 else if t = 2 then 8 else 26

theorem wideAny (t : Int) (h1 : 1 ≤ t) (h3 : t ≤ 3) (w : World) : Calls Try.prog 42 #[.int .i64 t] w fun e w' => e = .returned (.int .i64 (widthOf t)) ∧ w = w' := by
  have : t = 1 ∨ t = 2 ∨ t = 3 := by omega
  rcases this with rfl | rfl | rfl
  · exact wide1 w
  · exact wide2 w
  · exact wide3 w

theorem countAny (t : Int) (h1 : 1 ≤ t) (h3 : t ≤ 3) (w : World) : Calls Try.prog 29 #[.int .i64 t] w fun e w' => e = .returned (.int .i64 (widthOf t)) ∧ w = w' := by
  have : t = 1 ∨ t = 2 ∨ t = 3 := by omega
  rcases this with rfl | rfl | rfl
  · exact count1 w
  · exact count2 w
  · exact count3 w

end Go.Proofs.Ytapiikkbeboidaa.Columns
