
/- What the functions on columns of one to three tapes answer, the program's and the model's.
   Conditions: stated at each theorem. -/
import Derived.Test.YthebmpdkiocbmaaDoorRows
import Derived.WalkKit
import Derived.ProofKit
import Derived.Lib.Hide
namespace Go.Proofs.YthebmpdkiocbmaaDoor.Columns
set_option linter.unusedVariables false
set_option linter.unusedSimpArgs false
open Go.RowKit

def letA (d : Int) : Int := if d = 0 then 97 else if d = 1 then 98 else 35

theorem idx0 (w : World) : (Instr.index 9 (.string ⟨#[97, 98, 35]⟩) (.int .i64 0)).run Tryd.prog w = .ok (.int .u8 97) w := by kernel_rfl
theorem idx1 (w : World) : (Instr.index 9 (.string ⟨#[97, 98, 35]⟩) (.int .i64 1)).run Tryd.prog w = .ok (.int .u8 98) w := by kernel_rfl
theorem idx2 (w : World) : (Instr.index 9 (.string ⟨#[97, 98, 35]⟩) (.int .i64 2)).run Tryd.prog w = .ok (.int .u8 35) w := by kernel_rfl
theorem idx (d : Int) (h0 : 0 ≤ d) (h3 : d < 3) (w : World) :
    (Instr.index 9 (.string ⟨#[97, 98, 35]⟩) (.int .i64 d)).run Tryd.prog w = .ok (.int .u8 (letA d)) w := by
  have : d = 0 ∨ d = 1 ∨ d = 2 := by omega
  rcases this with rfl | rfl | rfl
  · exact idx0 w
  · exact idx1 w
  · exact idx2 w

theorem pads (w : World) : Calls Tryd.prog 75 #[] w fun e w' => e = .returned (.agg #[.int .u8 35, .int .u8 35, .int .u8 35]) ∧ w.alloc (.cells #[.int .u8 35, .int .u8 35, .int .u8 35] 78) = w' := by
  go_enter Tryd.func75, Tryd.ntmps75
  go_wp2
  exact bodyPost_ret (v := .agg #[.int .u8 35, .int .u8 35, .int .u8 35]) (by simp [results, Tryd.results75, go_sem]) rfl ⟨rfl, rfl⟩


set_option maxHeartbeats 400000 in
theorem letters1 (c : Int) (h0 : 0 ≤ c) (h1 : c ≤ 25) (w : World) :
    Calls Tryd.prog 106 #[.int .i64 1, .int .i64 c] w fun e w' => e = .returned (.agg #[.int .u8 (letA (c % 3)), .int .u8 35, .int .u8 35]) ∧ Grown w w' ∧ Below w.heap.size w w' := by
  have i0 := fun w => idx (c % 3) (by omega) (by omega) w
  go_enter Tryd.func106, Tryd.ntmps106
  go_wp2_with (go_at_call 75; refine (pads _).mono ?_; rintro e w' ⟨rfl, rfl⟩)
  refine wp_loop_rounds 2 ?_
  rw [rounds_succ]
  go_wp2
  rw [rounds_succ]
  go_wp2
  exact bodyPost_ret (v := .agg #[.int .u8 (letA (c % 3)), .int .u8 35, .int .u8 35]) (by simp [results, Tryd.results106, go_sem]) rfl ⟨rfl, by repeat (first | exact Grown.refl _ | apply Grown.drew | apply Grown.alloc), by repeat (first | exact Below.refl _ _ | refine Below.alloc ?_ (by simp; try omega) _)⟩

set_option maxHeartbeats 400000 in
theorem letters2 (c : Int) (h0 : 0 ≤ c) (h1 : c ≤ 25) (w : World) :
    Calls Tryd.prog 106 #[.int .i64 2, .int .i64 c] w fun e w' => e = .returned (.agg #[.int .u8 (letA (c % 3)), .int .u8 (letA (c / 3 % 3)), .int .u8 35]) ∧ Grown w w' ∧ Below w.heap.size w w' := by
  have i0 := fun w => idx (c % 3) (by omega) (by omega) w
  have i1 := fun w => idx (c / 3 % 3) (by omega) (by omega) w
  go_enter Tryd.func106, Tryd.ntmps106
  go_wp2_with (go_at_call 75; refine (pads _).mono ?_; rintro e w' ⟨rfl, rfl⟩)
  refine wp_loop_rounds 3 ?_
  rw [rounds_succ]
  go_wp2
  rw [rounds_succ]
  go_wp2
  rw [rounds_succ]
  go_wp2
  exact bodyPost_ret (v := .agg #[.int .u8 (letA (c % 3)), .int .u8 (letA (c / 3 % 3)), .int .u8 35]) (by simp [results, Tryd.results106, go_sem]) rfl ⟨rfl, by repeat (first | exact Grown.refl _ | apply Grown.drew | apply Grown.alloc), by repeat (first | exact Below.refl _ _ | refine Below.alloc ?_ (by simp; try omega) _)⟩

set_option maxHeartbeats 400000 in
theorem letters3 (c : Int) (h0 : 0 ≤ c) (h1 : c ≤ 25) (w : World) :
    Calls Tryd.prog 106 #[.int .i64 3, .int .i64 c] w fun e w' => e = .returned (.agg #[.int .u8 (letA (c % 3)), .int .u8 (letA (c / 3 % 3)), .int .u8 (letA (c / 3 / 3 % 3))]) ∧ Grown w w' ∧ Below w.heap.size w w' := by
  have i0 := fun w => idx (c % 3) (by omega) (by omega) w
  have i1 := fun w => idx (c / 3 % 3) (by omega) (by omega) w
  have i2 := fun w => idx (c / 3 / 3 % 3) (by omega) (by omega) w
  go_enter Tryd.func106, Tryd.ntmps106
  go_wp2_with (go_at_call 75; refine (pads _).mono ?_; rintro e w' ⟨rfl, rfl⟩)
  refine wp_loop_rounds 4 ?_
  rw [rounds_succ]
  go_wp2
  rw [rounds_succ]
  go_wp2
  rw [rounds_succ]
  go_wp2
  rw [rounds_succ]
  go_wp2
  exact bodyPost_ret (v := .agg #[.int .u8 (letA (c % 3)), .int .u8 (letA (c / 3 % 3)), .int .u8 (letA (c / 3 / 3 % 3))]) (by simp [results, Tryd.results106, go_sem]) rfl ⟨rfl, by repeat (first | exact Grown.refl _ | apply Grown.drew | apply Grown.alloc), by repeat (first | exact Below.refl _ _ | refine Below.alloc ?_ (by simp; try omega) _)⟩

theorem validTapes (n : Int) (w : World) :
    Calls Tryd.prog 65 #[.int .i64 n] w fun e w' => e = .returned (.bool (decide (1 ≤ n ∧ n ≤ 3))) ∧ w = w' := by
  by_cases h : 1 ≤ n
  · by_cases h2 : n ≤ 3
    · go_enter Tryd.func65, Tryd.ntmps65
      go_wp2
      go_ret
      exact ⟨by simp [h, h2], rfl⟩
    · have h3 : decide (n ≤ 3) = false := by simpa using h2
      go_enter Tryd.func65, Tryd.ntmps65
      go_wp2
      go_ret
      exact ⟨by simp, rfl⟩
  · have h3 : decide (1 ≤ n) = false := by simpa using h
    go_enter Tryd.func65, Tryd.ntmps65
    go_wp2
    go_ret
    exact ⟨by simp, rfl⟩

theorem count1 (w : World) : Calls Tryd.prog 66 #[.int .i64 1] w fun e w' => e = .returned (.int .i64 2) ∧ w = w' := by
  go_enter Tryd.func66, Tryd.ntmps66
  go_wp2
  refine wp_loop_rounds 2 ?_
  rw [rounds_succ]
  go_wp2
  rw [rounds_succ]
  go_wp2
  go_ret
  exact ⟨rfl, rfl⟩

theorem count2 (w : World) : Calls Tryd.prog 66 #[.int .i64 2] w fun e w' => e = .returned (.int .i64 8) ∧ w = w' := by
  go_enter Tryd.func66, Tryd.ntmps66
  go_wp2
  refine wp_loop_rounds 3 ?_
  rw [rounds_succ]
  go_wp2
  rw [rounds_succ]
  go_wp2
  rw [rounds_succ]
  go_wp2
  go_ret
  exact ⟨rfl, rfl⟩

theorem count3 (w : World) : Calls Tryd.prog 66 #[.int .i64 3] w fun e w' => e = .returned (.int .i64 26) ∧ w = w' := by
  go_enter Tryd.func66, Tryd.ntmps66
  go_wp2
  refine wp_loop_rounds 4 ?_
  rw [rounds_succ]
  go_wp2
  rw [rounds_succ]
  go_wp2
  rw [rounds_succ]
  go_wp2
  rw [rounds_succ]
  go_wp2
  go_ret
  exact ⟨rfl, rfl⟩

theorem power0 (w : World) : Calls Tryd.prog 90 #[.int .i64 0] w fun e w' => e = .returned (.int .i64 1) ∧ w = w' := by
  go_enter Tryd.func90, Tryd.ntmps90
  go_wp2
  refine wp_loop_rounds 1 ?_
  rw [rounds_succ]
  go_wp2
  go_ret
  exact ⟨rfl, rfl⟩

theorem power1 (w : World) : Calls Tryd.prog 90 #[.int .i64 1] w fun e w' => e = .returned (.int .i64 3) ∧ w = w' := by
  go_enter Tryd.func90, Tryd.ntmps90
  go_wp2
  refine wp_loop_rounds 2 ?_
  rw [rounds_succ]
  go_wp2
  rw [rounds_succ]
  go_wp2
  go_ret
  exact ⟨rfl, rfl⟩

theorem power2 (w : World) : Calls Tryd.prog 90 #[.int .i64 2] w fun e w' => e = .returned (.int .i64 9) ∧ w = w' := by
  go_enter Tryd.func90, Tryd.ntmps90
  go_wp2
  refine wp_loop_rounds 3 ?_
  rw [rounds_succ]
  go_wp2
  rw [rounds_succ]
  go_wp2
  rw [rounds_succ]
  go_wp2
  go_ret
  exact ⟨rfl, rfl⟩

theorem power3 (w : World) : Calls Tryd.prog 90 #[.int .i64 3] w fun e w' => e = .returned (.int .i64 27) ∧ w = w' := by
  go_enter Tryd.func90, Tryd.ntmps90
  go_wp2
  refine wp_loop_rounds 4 ?_
  rw [rounds_succ]
  go_wp2
  rw [rounds_succ]
  go_wp2
  rw [rounds_succ]
  go_wp2
  rw [rounds_succ]
  go_wp2
  go_ret
  exact ⟨rfl, rfl⟩

theorem wide1 (w : World) : Calls Tryd.prog 71 #[.int .i64 1] w fun e w' => e = .returned (.int .i64 2) ∧ w = w' := by
  go_enter Tryd.func71, Tryd.ntmps71
  go_wp2_with (go_at_call 90; refine (power1 _).mono ?_; rintro e w' ⟨rfl, rfl⟩)
  go_ret
  exact ⟨rfl, rfl⟩

theorem wide2 (w : World) : Calls Tryd.prog 71 #[.int .i64 2] w fun e w' => e = .returned (.int .i64 8) ∧ w = w' := by
  go_enter Tryd.func71, Tryd.ntmps71
  go_wp2_with (go_at_call 90; refine (power2 _).mono ?_; rintro e w' ⟨rfl, rfl⟩)
  go_ret
  exact ⟨rfl, rfl⟩

theorem wide3 (w : World) : Calls Tryd.prog 71 #[.int .i64 3] w fun e w' => e = .returned (.int .i64 26) ∧ w = w' := by
  go_enter Tryd.func71, Tryd.ntmps71
  go_wp2_with (go_at_call 90; refine (power3 _).mono ?_; rintro e w' ⟨rfl, rfl⟩)
  go_ret
  exact ⟨rfl, rfl⟩

theorem digit0 (c : Int) (h0 : 0 ≤ c) (h1 : c ≤ 25) (w : World) : Calls Tryd.prog 91 #[.int .i64 c, .int .i64 0] w fun e w' => e = .returned (.int .i64 (c / 1 % 3)) ∧ w = w' := by
  go_enter Tryd.func91, Tryd.ntmps91
  go_wp2_with (go_at_call 90; refine (power0 _).mono ?_; rintro e w' ⟨rfl, rfl⟩)
  go_ret
  exact ⟨by simp, rfl⟩

theorem digit1 (c : Int) (h0 : 0 ≤ c) (h1 : c ≤ 25) (w : World) : Calls Tryd.prog 91 #[.int .i64 c, .int .i64 1] w fun e w' => e = .returned (.int .i64 (c / 3 % 3)) ∧ w = w' := by
  go_enter Tryd.func91, Tryd.ntmps91
  go_wp2_with (go_at_call 90; refine (power1 _).mono ?_; rintro e w' ⟨rfl, rfl⟩)
  go_ret
  exact ⟨by simp, rfl⟩

theorem digit2 (c : Int) (h0 : 0 ≤ c) (h1 : c ≤ 25) (w : World) : Calls Tryd.prog 91 #[.int .i64 c, .int .i64 2] w fun e w' => e = .returned (.int .i64 (c / 9 % 3)) ∧ w = w' := by
  go_enter Tryd.func91, Tryd.ntmps91
  go_wp2_with (go_at_call 90; refine (power2 _).mono ?_; rintro e w' ⟨rfl, rfl⟩)
  go_ret
  exact ⟨by simp, rfl⟩

def inB (x lo hi : Int) : Bool := decide (lo ≤ x ∧ x ≤ hi)
theorem inRange (x lo hi : Int) (w : World) :
    Calls Tryd.prog 50 #[.int .i64 x, .int .i64 lo, .int .i64 hi] w fun e w' => e = .returned (.bool (inB x lo hi)) ∧ w = w' := by
  by_cases h : lo ≤ x
  · by_cases h2 : x ≤ hi
    · have E : inB x lo hi = true := by simp [inB, h, h2]
      have d1 : decide (lo ≤ x) = true := by simpa using h
      have d2 : decide (x ≤ hi) = true := by simpa using h2
      go_enter Tryd.func50, Tryd.ntmps50
      go_wp2
      go_ret
      exact ⟨by first | rfl | (rw [E]; rfl), rfl⟩
    · have E : inB x lo hi = false := by simp [inB, h2]
      have d1 : decide (lo ≤ x) = true := by simpa using h
      have d2 : decide (x ≤ hi) = false := by simpa using h2
      go_enter Tryd.func50, Tryd.ntmps50
      go_wp2
      go_ret
      exact ⟨by first | rfl | (rw [E]; rfl), rfl⟩
  · have E : inB x lo hi = false := by simp [inB, h]
    have d1 : decide (lo ≤ x) = false := by simpa using h
    go_enter Tryd.func50, Tryd.ntmps50
    go_wp2
    go_ret
    exact ⟨by first | rfl | (rw [E]; rfl), rfl⟩

/-- How many columns there are for one to three tapes. -/
def widthOf (t : Int) : Int := if t = 1 then 2 else if t = 2 then 8 else 26

theorem wideAny (t : Int) (h1 : 1 ≤ t) (h3 : t ≤ 3) (w : World) : Calls Tryd.prog 71 #[.int .i64 t] w fun e w' => e = .returned (.int .i64 (widthOf t)) ∧ w = w' := by
  have : t = 1 ∨ t = 2 ∨ t = 3 := by omega
  rcases this with rfl | rfl | rfl
  · exact wide1 w
  · exact wide2 w
  · exact wide3 w

theorem countAny (t : Int) (h1 : 1 ≤ t) (h3 : t ≤ 3) (w : World) : Calls Tryd.prog 66 #[.int .i64 t] w fun e w' => e = .returned (.int .i64 (widthOf t)) ∧ w = w' := by
  have : t = 1 ∨ t = 2 ∨ t = 3 := by omega
  rcases this with rfl | rfl | rfl
  · exact count1 w
  · exact count2 w
  · exact count3 w

end Go.Proofs.YthebmpdkiocbmaaDoor.Columns
