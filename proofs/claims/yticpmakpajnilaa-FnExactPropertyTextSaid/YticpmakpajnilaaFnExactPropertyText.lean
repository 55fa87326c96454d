
/- PropertyText answers at every kind as its model does.
   Conditions: none, every int64. -/
import Derived.Test.YticpmakpajnilaaRows
import Derived.WalkKit
import Derived.ProofKit
import Derived.OpenShut
import Derived.Lib.Hide
import Derived.Laws.EntriesVeiled
namespace Go.Proofs.Yticpmakpajnilaa.fnExactPropertyText
open Go.ChangeShapes Go.WideShapes Go.ChangeAt Go.RowKit
set_option linter.unusedVariables false
set_option linter.unusedSimpArgs false
set_option maxRecDepth 100000

def props : Value := .agg #[.nilFunc, .func (Fn.func 94) #[] #[], .func (Fn.func 95) #[] #[], .func (Fn.func 96) #[] #[], .func (Fn.func 97) #[] #[], .func (Fn.func 98) #[] #[], .func (Fn.func 99) #[] #[], .func (Fn.func 100) #[] #[], .func (Fn.func 101) #[] #[], .func (Fn.func 102) #[] #[], .func (Fn.func 103) #[] #[]]

theorem props_are (w : World) : Calls Try.prog 80 #[] w fun e w' => e = .returned props ∧ Grown w w' := by
  go_enter Try.func80, Try.ntmps80
  go_wp2
  exact bodyPost_ret (v := props) (by simp [results, Try.results80, go_sem, props]) rfl ⟨rfl, (Grown.refl _).alloc _ _⟩

set_option maxHeartbeats 2000000 in
theorem mReflexive (w : World) : Calls Try.prog 94 #[.string ⟨#[82, 48]⟩] w fun e w' => e = .returned (.string ⟨#[33, 82, 48, 40, 120, 120, 41]⟩) ∧ Grown w w' := by
  go_enter Try.func94, Try.ntmps94
  go_wp2
  go_ret
  exact ⟨rfl, by repeat (first | exact Grown.refl _ | apply Grown.drew | apply Grown.alloc)⟩
set_option maxHeartbeats 2000000 in
theorem mSymmetric (w : World) : Calls Try.prog 95 #[.string ⟨#[82, 48]⟩] w fun e w' => e = .returned (.string ⟨#[40, 82, 48, 40, 120, 121, 41, 38, 33, 82, 48, 40, 121, 120, 41, 41]⟩) ∧ Grown w w' := by
  go_enter Try.func95, Try.ntmps95
  go_wp2
  go_ret
  exact ⟨rfl, by repeat (first | exact Grown.refl _ | apply Grown.drew | apply Grown.alloc)⟩
set_option maxHeartbeats 2000000 in
theorem mTransitive (w : World) : Calls Try.prog 96 #[.string ⟨#[82, 48]⟩] w fun e w' => e = .returned (.string ⟨#[40, 40, 82, 48, 40, 120, 121, 41, 38, 82, 48, 40, 121, 122, 41, 41, 38, 33, 82, 48, 40, 120, 122, 41, 41]⟩) ∧ Grown w w' := by
  go_enter Try.func96, Try.ntmps96
  go_wp2
  go_ret
  exact ⟨rfl, by repeat (first | exact Grown.refl _ | apply Grown.drew | apply Grown.alloc)⟩
set_option maxHeartbeats 2000000 in
theorem mAntisymmetric (w : World) : Calls Try.prog 97 #[.string ⟨#[82, 48]⟩] w fun e w' => e = .returned (.string ⟨#[40, 40, 82, 48, 40, 120, 121, 41, 38, 82, 48, 40, 121, 120, 41, 41, 38, 33, 120, 61, 121, 41]⟩) ∧ Grown w w' := by
  go_enter Try.func97, Try.ntmps97
  go_wp2
  go_ret
  exact ⟨rfl, by repeat (first | exact Grown.refl _ | apply Grown.drew | apply Grown.alloc)⟩
set_option maxHeartbeats 2000000 in
theorem mIrreflexive (w : World) : Calls Try.prog 98 #[.string ⟨#[82, 48]⟩] w fun e w' => e = .returned (.string ⟨#[82, 48, 40, 120, 120, 41]⟩) ∧ Grown w w' := by
  go_enter Try.func98, Try.ntmps98
  go_wp2
  go_ret
  exact ⟨rfl, by repeat (first | exact Grown.refl _ | apply Grown.drew | apply Grown.alloc)⟩
set_option maxHeartbeats 2000000 in
theorem mTotal (w : World) : Calls Try.prog 99 #[.string ⟨#[82, 48]⟩] w fun e w' => e = .returned (.string ⟨#[40, 40, 33, 82, 48, 40, 120, 121, 41, 38, 33, 82, 48, 40, 121, 120, 41, 41, 38, 33, 120, 61, 121, 41]⟩) ∧ Grown w w' := by
  go_enter Try.func99, Try.ntmps99
  go_wp2
  go_ret
  exact ⟨rfl, by repeat (first | exact Grown.refl _ | apply Grown.drew | apply Grown.alloc)⟩
set_option maxHeartbeats 2000000 in
theorem mFunction (w : World) : Calls Try.prog 100 #[.string ⟨#[82, 48]⟩] w fun e w' => e = .returned (.string ⟨#[40, 40, 82, 48, 40, 120, 121, 41, 38, 82, 48, 40, 120, 122, 41, 41, 38, 33, 121, 61, 122, 41]⟩) ∧ Grown w w' := by
  go_enter Try.func100, Try.ntmps100
  go_wp2
  go_ret
  exact ⟨rfl, by repeat (first | exact Grown.refl _ | apply Grown.drew | apply Grown.alloc)⟩
set_option maxHeartbeats 2000000 in
theorem mEverywhere (w : World) : Calls Try.prog 101 #[.string ⟨#[82, 48]⟩] w fun e w' => e = .returned (.string ⟨#[33, 69, 121, 82, 48, 40, 120, 121, 41]⟩) ∧ Grown w w' := by
  go_enter Try.func101, Try.ntmps101
  go_wp2
  go_ret
  exact ⟨rfl, by repeat (first | exact Grown.refl _ | apply Grown.drew | apply Grown.alloc)⟩
set_option maxHeartbeats 2000000 in
theorem mOnto (w : World) : Calls Try.prog 102 #[.string ⟨#[82, 48]⟩] w fun e w' => e = .returned (.string ⟨#[33, 69, 121, 82, 48, 40, 121, 120, 41]⟩) ∧ Grown w w' := by
  go_enter Try.func102, Try.ntmps102
  go_wp2
  go_ret
  exact ⟨rfl, by repeat (first | exact Grown.refl _ | apply Grown.drew | apply Grown.alloc)⟩
set_option maxHeartbeats 2000000 in
theorem mInjective (w : World) : Calls Try.prog 103 #[.string ⟨#[82, 48]⟩] w fun e w' => e = .returned (.string ⟨#[40, 40, 82, 48, 40, 120, 122, 41, 38, 82, 48, 40, 121, 122, 41, 41, 38, 33, 120, 61, 121, 41]⟩) ∧ Grown w w' := by
  go_enter Try.func103, Try.ntmps103
  go_wp2
  go_ret
  exact ⟨rfl, by repeat (first | exact Grown.refl _ | apply Grown.drew | apply Grown.alloc)⟩
theorem gtrans {a b c : World} (h1 : Grown a b) (h2 : Grown b c) : Grown a c :=
  ⟨World.keptBut_trans h1.1 h2.1, fun x => (h2.2.1 x).trans (h1.2.1 x), Nat.le_trans h1.2.2 h2.2.2⟩
set_option maxHeartbeats 4000000 in
theorem spec1 (w : World) : Calls Try.prog 43 #[.int .i64 1] w fun e w' => e = .returned (.string ⟨#[33, 82, 48, 40, 120, 120, 41]⟩) ∧ Grown w w' := by
  go_enter Try.func43, Try.ntmps43
  go_wp2
  go_ret
  exact ⟨rfl, by repeat (first | exact Grown.refl _ | apply Grown.drew | apply Grown.alloc)⟩
set_option maxHeartbeats 4000000 in
theorem impl1 (w : World) : Calls Try.prog 44 #[.int .i64 1] w fun e w' => e = .returned (.string ⟨#[33, 82, 48, 40, 120, 120, 41]⟩) ∧ Grown w w' := by
  have HP := Lib.hid (fun W => props_are W)
  have HM := Lib.hid (fun W => mReflexive W)
  unfold props at HP
  have hix : ∀ W, (Instr.index 89 (.agg #[.nilFunc, .func (Fn.func 94) #[] #[], .func (Fn.func 95) #[] #[], .func (Fn.func 96) #[] #[], .func (Fn.func 97) #[] #[], .func (Fn.func 98) #[] #[], .func (Fn.func 99) #[] #[], .func (Fn.func 100) #[] #[], .func (Fn.func 101) #[] #[], .func (Fn.func 102) #[] #[], .func (Fn.func 103) #[] #[]]) (.int .i64 1)).run Try.prog W = .ok (.func (Fn.func 94) #[] #[]) W := fun W => by kernel_rfl
  go_enter Try.func44, Try.ntmps44
  go_wp2_with fail
  refine (HP.out _).mono ?_
  rintro e w1 ⟨rfl, G1⟩
  go_wp2_with fail
  refine (HM.out _).mono ?_
  rintro e w2 ⟨rfl, G2⟩
  go_wp2_with fail
  go_ret
  exact ⟨rfl, gtrans G1 G2⟩
set_option maxHeartbeats 4000000 in
theorem law1 (w : World) : Calls Try.prog 11 #[.int .i64 1] w fun e w' => e = .returned (.bool true) ∧ Grown w w' := by
  have HP := Lib.hid (fun W => spec1 W)
  have HM := Lib.hid (fun W => impl1 W)
  go_enter Try.func11, Try.ntmps11
  go_wp2_with fail
  refine (HP.out _).mono ?_
  rintro e w1 ⟨rfl, G1⟩
  go_wp2_with fail
  refine (HM.out _).mono ?_
  rintro e w2 ⟨rfl, G2⟩
  go_wp2_with fail
  go_ret
  exact ⟨rfl, gtrans G1 G2⟩
set_option maxHeartbeats 4000000 in
theorem spec2 (w : World) : Calls Try.prog 43 #[.int .i64 2] w fun e w' => e = .returned (.string ⟨#[40, 82, 48, 40, 120, 121, 41, 38, 33, 82, 48, 40, 121, 120, 41, 41]⟩) ∧ Grown w w' := by
  go_enter Try.func43, Try.ntmps43
  go_wp2
  go_ret
  exact ⟨rfl, by repeat (first | exact Grown.refl _ | apply Grown.drew | apply Grown.alloc)⟩
set_option maxHeartbeats 4000000 in
theorem impl2 (w : World) : Calls Try.prog 44 #[.int .i64 2] w fun e w' => e = .returned (.string ⟨#[40, 82, 48, 40, 120, 121, 41, 38, 33, 82, 48, 40, 121, 120, 41, 41]⟩) ∧ Grown w w' := by
  have HP := Lib.hid (fun W => props_are W)
  have HM := Lib.hid (fun W => mSymmetric W)
  unfold props at HP
  have hix : ∀ W, (Instr.index 89 (.agg #[.nilFunc, .func (Fn.func 94) #[] #[], .func (Fn.func 95) #[] #[], .func (Fn.func 96) #[] #[], .func (Fn.func 97) #[] #[], .func (Fn.func 98) #[] #[], .func (Fn.func 99) #[] #[], .func (Fn.func 100) #[] #[], .func (Fn.func 101) #[] #[], .func (Fn.func 102) #[] #[], .func (Fn.func 103) #[] #[]]) (.int .i64 2)).run Try.prog W = .ok (.func (Fn.func 95) #[] #[]) W := fun W => by kernel_rfl
  go_enter Try.func44, Try.ntmps44
  go_wp2_with fail
  refine (HP.out _).mono ?_
  rintro e w1 ⟨rfl, G1⟩
  go_wp2_with fail
  refine (HM.out _).mono ?_
  rintro e w2 ⟨rfl, G2⟩
  go_wp2_with fail
  go_ret
  exact ⟨rfl, gtrans G1 G2⟩
set_option maxHeartbeats 4000000 in
theorem law2 (w : World) : Calls Try.prog 11 #[.int .i64 2] w fun e w' => e = .returned (.bool true) ∧ Grown w w' := by
  have HP := Lib.hid (fun W => spec2 W)
  have HM := Lib.hid (fun W => impl2 W)
  go_enter Try.func11, Try.ntmps11
  go_wp2_with fail
  refine (HP.out _).mono ?_
  rintro e w1 ⟨rfl, G1⟩
  go_wp2_with fail
  refine (HM.out _).mono ?_
  rintro e w2 ⟨rfl, G2⟩
  go_wp2_with fail
  go_ret
  exact ⟨rfl, gtrans G1 G2⟩
set_option maxHeartbeats 4000000 in
theorem spec3 (w : World) : Calls Try.prog 43 #[.int .i64 3] w fun e w' => e = .returned (.string ⟨#[40, 40, 82, 48, 40, 120, 121, 41, 38, 82, 48, 40, 121, 122, 41, 41, 38, 33, 82, 48, 40, 120, 122, 41, 41]⟩) ∧ Grown w w' := by
  go_enter Try.func43, Try.ntmps43
  go_wp2
  go_ret
  exact ⟨rfl, by repeat (first | exact Grown.refl _ | apply Grown.drew | apply Grown.alloc)⟩
set_option maxHeartbeats 4000000 in
theorem impl3 (w : World) : Calls Try.prog 44 #[.int .i64 3] w fun e w' => e = .returned (.string ⟨#[40, 40, 82, 48, 40, 120, 121, 41, 38, 82, 48, 40, 121, 122, 41, 41, 38, 33, 82, 48, 40, 120, 122, 41, 41]⟩) ∧ Grown w w' := by
  have HP := Lib.hid (fun W => props_are W)
  have HM := Lib.hid (fun W => mTransitive W)
  unfold props at HP
  have hix : ∀ W, (Instr.index 89 (.agg #[.nilFunc, .func (Fn.func 94) #[] #[], .func (Fn.func 95) #[] #[], .func (Fn.func 96) #[] #[], .func (Fn.func 97) #[] #[], .func (Fn.func 98) #[] #[], .func (Fn.func 99) #[] #[], .func (Fn.func 100) #[] #[], .func (Fn.func 101) #[] #[], .func (Fn.func 102) #[] #[], .func (Fn.func 103) #[] #[]]) (.int .i64 3)).run Try.prog W = .ok (.func (Fn.func 96) #[] #[]) W := fun W => by kernel_rfl
  go_enter Try.func44, Try.ntmps44
  go_wp2_with fail
  refine (HP.out _).mono ?_
  rintro e w1 ⟨rfl, G1⟩
  go_wp2_with fail
  refine (HM.out _).mono ?_
  rintro e w2 ⟨rfl, G2⟩
  go_wp2_with fail
  go_ret
  exact ⟨rfl, gtrans G1 G2⟩
set_option maxHeartbeats 4000000 in
theorem law3 (w : World) : Calls Try.prog 11 #[.int .i64 3] w fun e w' => e = .returned (.bool true) ∧ Grown w w' := by
  have HP := Lib.hid (fun W => spec3 W)
  have HM := Lib.hid (fun W => impl3 W)
  go_enter Try.func11, Try.ntmps11
  go_wp2_with fail
  refine (HP.out _).mono ?_
  rintro e w1 ⟨rfl, G1⟩
  go_wp2_with fail
  refine (HM.out _).mono ?_
  rintro e w2 ⟨rfl, G2⟩
  go_wp2_with fail
  go_ret
  exact ⟨rfl, gtrans G1 G2⟩
set_option maxHeartbeats 4000000 in
theorem spec4 (w : World) : Calls Try.prog 43 #[.int .i64 4] w fun e w' => e = .returned (.string ⟨#[40, 40, 82, 48, 40, 120, 121, 41, 38, 82, 48, 40, 121, 120, 41, 41, 38, 33, 120, 61, 121, 41]⟩) ∧ Grown w w' := by
  go_enter Try.func43, Try.ntmps43
  go_wp2
  go_ret
  exact ⟨rfl, by repeat (first | exact Grown.refl _ | apply Grown.drew | apply Grown.alloc)⟩
set_option maxHeartbeats 4000000 in
theorem impl4 (w : World) : Calls Try.prog 44 #[.int .i64 4] w fun e w' => e = .returned (.string ⟨#[40, 40, 82, 48, 40, 120, 121, 41, 38, 82, 48, 40, 121, 120, 41, 41, 38, 33, 120, 61, 121, 41]⟩) ∧ Grown w w' := by
  have HP := Lib.hid (fun W => props_are W)
  have HM := Lib.hid (fun W => mAntisymmetric W)
  unfold props at HP
  have hix : ∀ W, (Instr.index 89 (.agg #[.nilFunc, .func (Fn.func 94) #[] #[], .func (Fn.func 95) #[] #[], .func (Fn.func 96) #[] #[], .func (Fn.func 97) #[] #[], .func (Fn.func 98) #[] #[], .func (Fn.func 99) #[] #[], .func (Fn.func 100) #[] #[], .func (Fn.func 101) #[] #[], .func (Fn.func 102) #[] #[], .func (Fn.func 103) #[] #[]]) (.int .i64 4)).run Try.prog W = .ok (.func (Fn.func 97) #[] #[]) W := fun W => by kernel_rfl
  go_enter Try.func44, Try.ntmps44
  go_wp2_with fail
  refine (HP.out _).mono ?_
  rintro e w1 ⟨rfl, G1⟩
  go_wp2_with fail
  refine (HM.out _).mono ?_
  rintro e w2 ⟨rfl, G2⟩
  go_wp2_with fail
  go_ret
  exact ⟨rfl, gtrans G1 G2⟩
set_option maxHeartbeats 4000000 in
theorem law4 (w : World) : Calls Try.prog 11 #[.int .i64 4] w fun e w' => e = .returned (.bool true) ∧ Grown w w' := by
  have HP := Lib.hid (fun W => spec4 W)
  have HM := Lib.hid (fun W => impl4 W)
  go_enter Try.func11, Try.ntmps11
  go_wp2_with fail
  refine (HP.out _).mono ?_
  rintro e w1 ⟨rfl, G1⟩
  go_wp2_with fail
  refine (HM.out _).mono ?_
  rintro e w2 ⟨rfl, G2⟩
  go_wp2_with fail
  go_ret
  exact ⟨rfl, gtrans G1 G2⟩
set_option maxHeartbeats 4000000 in
theorem spec5 (w : World) : Calls Try.prog 43 #[.int .i64 5] w fun e w' => e = .returned (.string ⟨#[82, 48, 40, 120, 120, 41]⟩) ∧ Grown w w' := by
  go_enter Try.func43, Try.ntmps43
  go_wp2
  go_ret
  exact ⟨rfl, by repeat (first | exact Grown.refl _ | apply Grown.drew | apply Grown.alloc)⟩
set_option maxHeartbeats 4000000 in
theorem impl5 (w : World) : Calls Try.prog 44 #[.int .i64 5] w fun e w' => e = .returned (.string ⟨#[82, 48, 40, 120, 120, 41]⟩) ∧ Grown w w' := by
  have HP := Lib.hid (fun W => props_are W)
  have HM := Lib.hid (fun W => mIrreflexive W)
  unfold props at HP
  have hix : ∀ W, (Instr.index 89 (.agg #[.nilFunc, .func (Fn.func 94) #[] #[], .func (Fn.func 95) #[] #[], .func (Fn.func 96) #[] #[], .func (Fn.func 97) #[] #[], .func (Fn.func 98) #[] #[], .func (Fn.func 99) #[] #[], .func (Fn.func 100) #[] #[], .func (Fn.func 101) #[] #[], .func (Fn.func 102) #[] #[], .func (Fn.func 103) #[] #[]]) (.int .i64 5)).run Try.prog W = .ok (.func (Fn.func 98) #[] #[]) W := fun W => by kernel_rfl
  go_enter Try.func44, Try.ntmps44
  go_wp2_with fail
  refine (HP.out _).mono ?_
  rintro e w1 ⟨rfl, G1⟩
  go_wp2_with fail
  refine (HM.out _).mono ?_
  rintro e w2 ⟨rfl, G2⟩
  go_wp2_with fail
  go_ret
  exact ⟨rfl, gtrans G1 G2⟩
set_option maxHeartbeats 4000000 in
theorem law5 (w : World) : Calls Try.prog 11 #[.int .i64 5] w fun e w' => e = .returned (.bool true) ∧ Grown w w' := by
  have HP := Lib.hid (fun W => spec5 W)
  have HM := Lib.hid (fun W => impl5 W)
  go_enter Try.func11, Try.ntmps11
  go_wp2_with fail
  refine (HP.out _).mono ?_
  rintro e w1 ⟨rfl, G1⟩
  go_wp2_with fail
  refine (HM.out _).mono ?_
  rintro e w2 ⟨rfl, G2⟩
  go_wp2_with fail
  go_ret
  exact ⟨rfl, gtrans G1 G2⟩
set_option maxHeartbeats 4000000 in
theorem spec6 (w : World) : Calls Try.prog 43 #[.int .i64 6] w fun e w' => e = .returned (.string ⟨#[40, 40, 33, 82, 48, 40, 120, 121, 41, 38, 33, 82, 48, 40, 121, 120, 41, 41, 38, 33, 120, 61, 121, 41]⟩) ∧ Grown w w' := by
  go_enter Try.func43, Try.ntmps43
  go_wp2
  go_ret
  exact ⟨rfl, by repeat (first | exact Grown.refl _ | apply Grown.drew | apply Grown.alloc)⟩
set_option maxHeartbeats 4000000 in
theorem impl6 (w : World) : Calls Try.prog 44 #[.int .i64 6] w fun e w' => e = .returned (.string ⟨#[40, 40, 33, 82, 48, 40, 120, 121, 41, 38, 33, 82, 48, 40, 121, 120, 41, 41, 38, 33, 120, 61, 121, 41]⟩) ∧ Grown w w' := by
  have HP := Lib.hid (fun W => props_are W)
  have HM := Lib.hid (fun W => mTotal W)
  unfold props at HP
  have hix : ∀ W, (Instr.index 89 (.agg #[.nilFunc, .func (Fn.func 94) #[] #[], .func (Fn.func 95) #[] #[], .func (Fn.func 96) #[] #[], .func (Fn.func 97) #[] #[], .func (Fn.func 98) #[] #[], .func (Fn.func 99) #[] #[], .func (Fn.func 100) #[] #[], .func (Fn.func 101) #[] #[], .func (Fn.func 102) #[] #[], .func (Fn.func 103) #[] #[]]) (.int .i64 6)).run Try.prog W = .ok (.func (Fn.func 99) #[] #[]) W := fun W => by kernel_rfl
  go_enter Try.func44, Try.ntmps44
  go_wp2_with fail
  refine (HP.out _).mono ?_
  rintro e w1 ⟨rfl, G1⟩
  go_wp2_with fail
  refine (HM.out _).mono ?_
  rintro e w2 ⟨rfl, G2⟩
  go_wp2_with fail
  go_ret
  exact ⟨rfl, gtrans G1 G2⟩
set_option maxHeartbeats 4000000 in
theorem law6 (w : World) : Calls Try.prog 11 #[.int .i64 6] w fun e w' => e = .returned (.bool true) ∧ Grown w w' := by
  have HP := Lib.hid (fun W => spec6 W)
  have HM := Lib.hid (fun W => impl6 W)
  go_enter Try.func11, Try.ntmps11
  go_wp2_with fail
  refine (HP.out _).mono ?_
  rintro e w1 ⟨rfl, G1⟩
  go_wp2_with fail
  refine (HM.out _).mono ?_
  rintro e w2 ⟨rfl, G2⟩
  go_wp2_with fail
  go_ret
  exact ⟨rfl, gtrans G1 G2⟩
set_option maxHeartbeats 4000000 in
theorem spec7 (w : World) : Calls Try.prog 43 #[.int .i64 7] w fun e w' => e = .returned (.string ⟨#[40, 40, 82, 48, 40, 120, 121, 41, 38, 82, 48, 40, 120, 122, 41, 41, 38, 33, 121, 61, 122, 41]⟩) ∧ Grown w w' := by
  go_enter Try.func43, Try.ntmps43
  go_wp2
  go_ret
  exact ⟨rfl, by repeat (first | exact Grown.refl _ | apply Grown.drew | apply Grown.alloc)⟩
set_option maxHeartbeats 4000000 in
theorem impl7 (w : World) : Calls Try.prog 44 #[.int .i64 7] w fun e w' => e = .returned (.string ⟨#[40, 40, 82, 48, 40, 120, 121, 41, 38, 82, 48, 40, 120, 122, 41, 41, 38, 33, 121, 61, 122, 41]⟩) ∧ Grown w w' := by
  have HP := Lib.hid (fun W => props_are W)
  have HM := Lib.hid (fun W => mFunction W)
  unfold props at HP
  have hix : ∀ W, (Instr.index 89 (.agg #[.nilFunc, .func (Fn.func 94) #[] #[], .func (Fn.func 95) #[] #[], .func (Fn.func 96) #[] #[], .func (Fn.func 97) #[] #[], .func (Fn.func 98) #[] #[], .func (Fn.func 99) #[] #[], .func (Fn.func 100) #[] #[], .func (Fn.func 101) #[] #[], .func (Fn.func 102) #[] #[], .func (Fn.func 103) #[] #[]]) (.int .i64 7)).run Try.prog W = .ok (.func (Fn.func 100) #[] #[]) W := fun W => by kernel_rfl
  go_enter Try.func44, Try.ntmps44
  go_wp2_with fail
  refine (HP.out _).mono ?_
  rintro e w1 ⟨rfl, G1⟩
  go_wp2_with fail
  refine (HM.out _).mono ?_
  rintro e w2 ⟨rfl, G2⟩
  go_wp2_with fail
  go_ret
  exact ⟨rfl, gtrans G1 G2⟩
set_option maxHeartbeats 4000000 in
theorem law7 (w : World) : Calls Try.prog 11 #[.int .i64 7] w fun e w' => e = .returned (.bool true) ∧ Grown w w' := by
  have HP := Lib.hid (fun W => spec7 W)
  have HM := Lib.hid (fun W => impl7 W)
  go_enter Try.func11, Try.ntmps11
  go_wp2_with fail
  refine (HP.out _).mono ?_
  rintro e w1 ⟨rfl, G1⟩
  go_wp2_with fail
  refine (HM.out _).mono ?_
  rintro e w2 ⟨rfl, G2⟩
  go_wp2_with fail
  go_ret
  exact ⟨rfl, gtrans G1 G2⟩
set_option maxHeartbeats 4000000 in
theorem spec8 (w : World) : Calls Try.prog 43 #[.int .i64 8] w fun e w' => e = .returned (.string ⟨#[33, 69, 121, 82, 48, 40, 120, 121, 41]⟩) ∧ Grown w w' := by
  go_enter Try.func43, Try.ntmps43
  go_wp2
  go_ret
  exact ⟨rfl, by repeat (first | exact Grown.refl _ | apply Grown.drew | apply Grown.alloc)⟩
set_option maxHeartbeats 4000000 in
theorem impl8 (w : World) : Calls Try.prog 44 #[.int .i64 8] w fun e w' => e = .returned (.string ⟨#[33, 69, 121, 82, 48, 40, 120, 121, 41]⟩) ∧ Grown w w' := by
  have HP := Lib.hid (fun W => props_are W)
  have HM := Lib.hid (fun W => mEverywhere W)
  unfold props at HP
  have hix : ∀ W, (Instr.index 89 (.agg #[.nilFunc, .func (Fn.func 94) #[] #[], .func (Fn.func 95) #[] #[], .func (Fn.func 96) #[] #[], .func (Fn.func 97) #[] #[], .func (Fn.func 98) #[] #[], .func (Fn.func 99) #[] #[], .func (Fn.func 100) #[] #[], .func (Fn.func 101) #[] #[], .func (Fn.func 102) #[] #[], .func (Fn.func 103) #[] #[]]) (.int .i64 8)).run Try.prog W = .ok (.func (Fn.func 101) #[] #[]) W := fun W => by kernel_rfl
  go_enter Try.func44, Try.ntmps44
  go_wp2_with fail
  refine (HP.out _).mono ?_
  rintro e w1 ⟨rfl, G1⟩
  go_wp2_with fail
  refine (HM.out _).mono ?_
  rintro e w2 ⟨rfl, G2⟩
  go_wp2_with fail
  go_ret
  exact ⟨rfl, gtrans G1 G2⟩
set_option maxHeartbeats 4000000 in
theorem law8 (w : World) : Calls Try.prog 11 #[.int .i64 8] w fun e w' => e = .returned (.bool true) ∧ Grown w w' := by
  have HP := Lib.hid (fun W => spec8 W)
  have HM := Lib.hid (fun W => impl8 W)
  go_enter Try.func11, Try.ntmps11
  go_wp2_with fail
  refine (HP.out _).mono ?_
  rintro e w1 ⟨rfl, G1⟩
  go_wp2_with fail
  refine (HM.out _).mono ?_
  rintro e w2 ⟨rfl, G2⟩
  go_wp2_with fail
  go_ret
  exact ⟨rfl, gtrans G1 G2⟩
set_option maxHeartbeats 4000000 in
theorem spec9 (w : World) : Calls Try.prog 43 #[.int .i64 9] w fun e w' => e = .returned (.string ⟨#[33, 69, 121, 82, 48, 40, 121, 120, 41]⟩) ∧ Grown w w' := by
  go_enter Try.func43, Try.ntmps43
  go_wp2
  go_ret
  exact ⟨rfl, by repeat (first | exact Grown.refl _ | apply Grown.drew | apply Grown.alloc)⟩
set_option maxHeartbeats 4000000 in
theorem impl9 (w : World) : Calls Try.prog 44 #[.int .i64 9] w fun e w' => e = .returned (.string ⟨#[33, 69, 121, 82, 48, 40, 121, 120, 41]⟩) ∧ Grown w w' := by
  have HP := Lib.hid (fun W => props_are W)
  have HM := Lib.hid (fun W => mOnto W)
  unfold props at HP
  have hix : ∀ W, (Instr.index 89 (.agg #[.nilFunc, .func (Fn.func 94) #[] #[], .func (Fn.func 95) #[] #[], .func (Fn.func 96) #[] #[], .func (Fn.func 97) #[] #[], .func (Fn.func 98) #[] #[], .func (Fn.func 99) #[] #[], .func (Fn.func 100) #[] #[], .func (Fn.func 101) #[] #[], .func (Fn.func 102) #[] #[], .func (Fn.func 103) #[] #[]]) (.int .i64 9)).run Try.prog W = .ok (.func (Fn.func 102) #[] #[]) W := fun W => by kernel_rfl
  go_enter Try.func44, Try.ntmps44
  go_wp2_with fail
  refine (HP.out _).mono ?_
  rintro e w1 ⟨rfl, G1⟩
  go_wp2_with fail
  refine (HM.out _).mono ?_
  rintro e w2 ⟨rfl, G2⟩
  go_wp2_with fail
  go_ret
  exact ⟨rfl, gtrans G1 G2⟩
set_option maxHeartbeats 4000000 in
theorem law9 (w : World) : Calls Try.prog 11 #[.int .i64 9] w fun e w' => e = .returned (.bool true) ∧ Grown w w' := by
  have HP := Lib.hid (fun W => spec9 W)
  have HM := Lib.hid (fun W => impl9 W)
  go_enter Try.func11, Try.ntmps11
  go_wp2_with fail
  refine (HP.out _).mono ?_
  rintro e w1 ⟨rfl, G1⟩
  go_wp2_with fail
  refine (HM.out _).mono ?_
  rintro e w2 ⟨rfl, G2⟩
  go_wp2_with fail
  go_ret
  exact ⟨rfl, gtrans G1 G2⟩
set_option maxHeartbeats 4000000 in
theorem spec10 (w : World) : Calls Try.prog 43 #[.int .i64 10] w fun e w' => e = .returned (.string ⟨#[40, 40, 82, 48, 40, 120, 122, 41, 38, 82, 48, 40, 121, 122, 41, 41, 38, 33, 120, 61, 121, 41]⟩) ∧ Grown w w' := by
  go_enter Try.func43, Try.ntmps43
  go_wp2
  go_ret
  exact ⟨rfl, by repeat (first | exact Grown.refl _ | apply Grown.drew | apply Grown.alloc)⟩
set_option maxHeartbeats 4000000 in
theorem impl10 (w : World) : Calls Try.prog 44 #[.int .i64 10] w fun e w' => e = .returned (.string ⟨#[40, 40, 82, 48, 40, 120, 122, 41, 38, 82, 48, 40, 121, 122, 41, 41, 38, 33, 120, 61, 121, 41]⟩) ∧ Grown w w' := by
  have HP := Lib.hid (fun W => props_are W)
  have HM := Lib.hid (fun W => mInjective W)
  unfold props at HP
  have hix : ∀ W, (Instr.index 89 (.agg #[.nilFunc, .func (Fn.func 94) #[] #[], .func (Fn.func 95) #[] #[], .func (Fn.func 96) #[] #[], .func (Fn.func 97) #[] #[], .func (Fn.func 98) #[] #[], .func (Fn.func 99) #[] #[], .func (Fn.func 100) #[] #[], .func (Fn.func 101) #[] #[], .func (Fn.func 102) #[] #[], .func (Fn.func 103) #[] #[]]) (.int .i64 10)).run Try.prog W = .ok (.func (Fn.func 103) #[] #[]) W := fun W => by kernel_rfl
  go_enter Try.func44, Try.ntmps44
  go_wp2_with fail
  refine (HP.out _).mono ?_
  rintro e w1 ⟨rfl, G1⟩
  go_wp2_with fail
  refine (HM.out _).mono ?_
  rintro e w2 ⟨rfl, G2⟩
  go_wp2_with fail
  go_ret
  exact ⟨rfl, gtrans G1 G2⟩
set_option maxHeartbeats 4000000 in
theorem law10 (w : World) : Calls Try.prog 11 #[.int .i64 10] w fun e w' => e = .returned (.bool true) ∧ Grown w w' := by
  have HP := Lib.hid (fun W => spec10 W)
  have HM := Lib.hid (fun W => impl10 W)
  go_enter Try.func11, Try.ntmps11
  go_wp2_with fail
  refine (HP.out _).mono ?_
  rintro e w1 ⟨rfl, G1⟩
  go_wp2_with fail
  refine (HM.out _).mono ?_
  rintro e w2 ⟨rfl, G2⟩
  go_wp2_with fail
  go_ret
  exact ⟨rfl, gtrans G1 G2⟩
theorem walk (a0 : Int) (w0 : (Lit.int .i64 a0).wf = true) (w : World) :
    Calls Try.prog 11 #[.int .i64 a0] w fun e w' => e = .returned (.bool true) ∧ Grown w w' := by
  by_cases h : a0 < 1 ∨ 10 < a0
  · rcases h with h | h
    · go_enter Try.func11, Try.ntmps11
      go_wp2
      go_ret
      exact ⟨rfl, by repeat (first | exact Grown.refl _ | apply Grown.drew | apply Grown.alloc)⟩
    · have h0 : ¬ a0 < 1 := by omega
      have h1 : decide (a0 ≤ 10) = false := by simpa using h
      go_enter Try.func11, Try.ntmps11
      go_wp2
      go_ret
      exact ⟨rfl, by repeat (first | exact Grown.refl _ | apply Grown.drew | apply Grown.alloc)⟩
  · have h9 : a0 = 1 ∨ a0 = 2 ∨ a0 = 3 ∨ a0 = 4 ∨ a0 = 5 ∨ a0 = 6 ∨ a0 = 7 ∨ a0 = 8 ∨ a0 = 9 ∨ a0 = 10 := by omega
    rcases h9 with rfl | rfl | rfl | rfl | rfl | rfl | rfl | rfl | rfl | rfl
    · exact law1 w
    · exact law2 w
    · exact law3 w
    · exact law4 w
    · exact law5 w
    · exact law6 w
    · exact law7 w
    · exact law8 w
    · exact law9 w
    · exact law10 w

theorem own : ownKnob Try.prog.godebug = none := by kernel_rfl
theorem lifted (os : Os) (started : os.Started) (H : Type) (enc : TypeId × Value → H) :
    ReturnsInHanded {} Try.checked os 11 .any (Rows.fnExactPropertyTextSpec.pre6 enc Try.prog Try.f11 Rows.fnExactPropertyTextRow.domain false) (Rows.fnExactPropertyTextSpec.post enc Try.prog Try.f11 false true false false) := by
  refine returnsInHanded_of_change (C := Try.checked) own started (by kernel_rfl) Try.func11
    (ChangeSpec.witness6 (enc := enc) (C := Try.checked) false ⟨#[], #[.int .i64 0], []⟩ 8 (by kernel_rfl) (by kernel_rfl) (by kernel_rfl) (by kernel_rfl)) ?_
  intro W base args ds gs before hval0 hW hcnd _
  have hval : ∀ (j : Nat) t v, Try.f11.params[j]? = some t → args[j]? = some v → Value.okWide Try.prog W .any base t v := hval0
  have hW' := hW
  obtain ⟨p, q, hA0, hV, rfl, hfz, hnd⟩ := hW
  have hA : DataW.TrodAll enc Try.prog W 0 (fun _ => true) true Try.f11.params.toList args.toList ds p := hA0
  rw [Try.params11] at hA hval
  obtain ⟨v0, vs0, d0, ds0, p0, q0, hargs, rfl, rfl, h0, r0⟩ := trodAll_cons hA
  obtain ⟨rfl, rfl, rfl⟩ := trodAll_nil r0
  obtain rfl : args = #[v0] := by cases args; simp_all
  obtain ⟨rfl, rfl⟩ := trodVars_none hV
  obtain ⟨a0, rfl, rfl, rfl, w0⟩ := open_int Try.underlying2 (hval 0 2 v0 rfl rfl) h0
  clear hA0 hval0
  simp only [List.append_nil] at hW'
  refine (walk a0 w0 W).mono fun e W' ⟨he, hg⟩ => ?_
  subst he
  exact ⟨_, rfl, post_of_same (pa := []) (pv := []) hW' (fun _ _ _ => (trodAll_cons_mk (shut_bool Try.underlying4 _) trodAll_mk0)) (fun sp _ => (trodAll_cons_mk (shut_int Try.underlying2 w0) trodAll_mk0)) (fun _ _ => rfl) rfl
    (hg.frame _) hg.2.1 (ok_one (by kernel_rfl) rfl (okWide_bool_mk Try.underlying4 _))⟩

theorem over : Rows.fnExactPropertyTextRow.holds Try.pinned (OpenSpec.ofChange Rows.fnExactPropertyTextSpec) :=
  OpenClaim.holds_of_wide 11 Try.f11 rfl rfl rfl rfl rfl rfl rfl ⟨rfl, rfl, rfl, rfl, rfl⟩ rfl rfl rfl rfl rfl (by kernel_rfl) Try.func11 (by kernel_rfl)
    (of_decide_eq_true (by kernel_rfl)) (by unfold Func.isWrapper; first | (rw [if_pos (by decide +kernel)]; kernel_rfl) | (rw [if_neg (by decide +kernel)]; exact ⟨rfl, rfl⟩))
    (fun os started H enc _ => lifted os started H enc)

theorem proved : Rows.FnExactPropertyTextSaid :=
  over
#print axioms proved
end Go.Proofs.Yticpmakpajnilaa.fnExactPropertyText
