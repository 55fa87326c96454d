
/- The rule of the relation of words and the next ones, letter by letter.
   Conditions: stated at each theorem. -/
import Derived.Laws.BytesArg
import Derived.Test.YtpdplfgljjkjbaaClosedImpl
namespace Go.Proofs.Ytpdplfgljjkjbaa.SuccRule
set_option linter.unusedVariables false
set_option linter.unusedSimpArgs false
set_option maxRecDepth 100000
open Go.RowKit Mem Copy Rel Valid Heap Bld ColMath Columns Numbers ToL TidyAuto TidyRight SpecRight SpecTidyRel ImplRight Automaton Known Sim ResKit Closed ClosedImpl

theorem conv2 (W : World) (x y z : Int) :
    (convert 56 9 (.slice (some ⟨W.heap.size, 0, none⟩) 2 3)).run Try.prog (W.alloc (.cells #[.int .u8 x, .int .u8 y, .int .u8 z] 54)) =
      .ok (.string (strOfNums [x, y])) (W.alloc (.cells #[.int .u8 x, .int .u8 y, .int .u8 z] 54)) := by
  refine run_convert_bytes_arg _ 56 5 Try.underlying56 Try.underlying5 _ 0 2 3 _ rfl (fun i hi => ?_) 9 Try.underlying9
  rw [World.cell?_alloc_mark]
  have : i = 0 ∨ i = 1 := by omega
  rcases this with rfl | rfl <;> rfl

set_option maxHeartbeats 8000000 in
theorem rule0 (s : Nat) (hs : s < 6) (W : World) : Calls Try.prog 53 #[.int .i64 s, .agg #[.int .u8 97, .int .u8 97, .int .u8 35]] W fun e w' => e = .returned (.int .i64 (tab tSucc s 0)) ∧ Below W.heap.size W w' := by
  have hcv : ∀ W : World, (convert 56 9 (.slice (some ⟨W.heap.size, 0, none⟩) 2 3)).run Try.prog (W.alloc (.cells #[.int .u8 97, .int .u8 97, .int .u8 35] 54)) = .ok (.string ⟨#[97, 97]⟩) (W.alloc (.cells #[.int .u8 97, .int .u8 97, .int .u8 35] 54)) := fun W => conv2 W 97 97 35
  have h1 : s = 0 ∨ s = 1 ∨ s = 2 ∨ s = 3 ∨ s = 4 ∨ s = 5 := by omega
  rcases h1 with rfl | rfl | rfl | rfl | rfl | rfl
  all_goals
    simp only [tab, tSucc]
    go_enter Try.func53, Try.ntmps53
    go_wp2
    go_ret
    exact ⟨rfl, (Below.refl _ _).alloc (Nat.le_refl _) _⟩

set_option maxHeartbeats 8000000 in
theorem rule1 (s : Nat) (hs : s < 6) (W : World) : Calls Try.prog 53 #[.int .i64 s, .agg #[.int .u8 98, .int .u8 97, .int .u8 35]] W fun e w' => e = .returned (.int .i64 (tab tSucc s 1)) ∧ Below W.heap.size W w' := by
  have hcv : ∀ W : World, (convert 56 9 (.slice (some ⟨W.heap.size, 0, none⟩) 2 3)).run Try.prog (W.alloc (.cells #[.int .u8 98, .int .u8 97, .int .u8 35] 54)) = .ok (.string ⟨#[98, 97]⟩) (W.alloc (.cells #[.int .u8 98, .int .u8 97, .int .u8 35] 54)) := fun W => conv2 W 98 97 35
  have h1 : s = 0 ∨ s = 1 ∨ s = 2 ∨ s = 3 ∨ s = 4 ∨ s = 5 := by omega
  rcases h1 with rfl | rfl | rfl | rfl | rfl | rfl
  all_goals
    simp only [tab, tSucc]
    go_enter Try.func53, Try.ntmps53
    go_wp2
    go_ret
    exact ⟨rfl, (Below.refl _ _).alloc (Nat.le_refl _) _⟩

set_option maxHeartbeats 8000000 in
theorem rule2 (s : Nat) (hs : s < 6) (W : World) : Calls Try.prog 53 #[.int .i64 s, .agg #[.int .u8 35, .int .u8 97, .int .u8 35]] W fun e w' => e = .returned (.int .i64 (tab tSucc s 2)) ∧ Below W.heap.size W w' := by
  have hcv : ∀ W : World, (convert 56 9 (.slice (some ⟨W.heap.size, 0, none⟩) 2 3)).run Try.prog (W.alloc (.cells #[.int .u8 35, .int .u8 97, .int .u8 35] 54)) = .ok (.string ⟨#[35, 97]⟩) (W.alloc (.cells #[.int .u8 35, .int .u8 97, .int .u8 35] 54)) := fun W => conv2 W 35 97 35
  have h1 : s = 0 ∨ s = 1 ∨ s = 2 ∨ s = 3 ∨ s = 4 ∨ s = 5 := by omega
  rcases h1 with rfl | rfl | rfl | rfl | rfl | rfl
  all_goals
    simp only [tab, tSucc]
    go_enter Try.func53, Try.ntmps53
    go_wp2
    go_ret
    exact ⟨rfl, (Below.refl _ _).alloc (Nat.le_refl _) _⟩

set_option maxHeartbeats 8000000 in
theorem rule3 (s : Nat) (hs : s < 6) (W : World) : Calls Try.prog 53 #[.int .i64 s, .agg #[.int .u8 97, .int .u8 98, .int .u8 35]] W fun e w' => e = .returned (.int .i64 (tab tSucc s 3)) ∧ Below W.heap.size W w' := by
  have hcv : ∀ W : World, (convert 56 9 (.slice (some ⟨W.heap.size, 0, none⟩) 2 3)).run Try.prog (W.alloc (.cells #[.int .u8 97, .int .u8 98, .int .u8 35] 54)) = .ok (.string ⟨#[97, 98]⟩) (W.alloc (.cells #[.int .u8 97, .int .u8 98, .int .u8 35] 54)) := fun W => conv2 W 97 98 35
  have h1 : s = 0 ∨ s = 1 ∨ s = 2 ∨ s = 3 ∨ s = 4 ∨ s = 5 := by omega
  rcases h1 with rfl | rfl | rfl | rfl | rfl | rfl
  all_goals
    simp only [tab, tSucc]
    go_enter Try.func53, Try.ntmps53
    go_wp2
    go_ret
    exact ⟨rfl, (Below.refl _ _).alloc (Nat.le_refl _) _⟩

set_option maxHeartbeats 8000000 in
theorem rule4 (s : Nat) (hs : s < 6) (W : World) : Calls Try.prog 53 #[.int .i64 s, .agg #[.int .u8 98, .int .u8 98, .int .u8 35]] W fun e w' => e = .returned (.int .i64 (tab tSucc s 4)) ∧ Below W.heap.size W w' := by
  have hcv : ∀ W : World, (convert 56 9 (.slice (some ⟨W.heap.size, 0, none⟩) 2 3)).run Try.prog (W.alloc (.cells #[.int .u8 98, .int .u8 98, .int .u8 35] 54)) = .ok (.string ⟨#[98, 98]⟩) (W.alloc (.cells #[.int .u8 98, .int .u8 98, .int .u8 35] 54)) := fun W => conv2 W 98 98 35
  have h1 : s = 0 ∨ s = 1 ∨ s = 2 ∨ s = 3 ∨ s = 4 ∨ s = 5 := by omega
  rcases h1 with rfl | rfl | rfl | rfl | rfl | rfl
  all_goals
    simp only [tab, tSucc]
    go_enter Try.func53, Try.ntmps53
    go_wp2
    go_ret
    exact ⟨rfl, (Below.refl _ _).alloc (Nat.le_refl _) _⟩

set_option maxHeartbeats 8000000 in
theorem rule5 (s : Nat) (hs : s < 6) (W : World) : Calls Try.prog 53 #[.int .i64 s, .agg #[.int .u8 35, .int .u8 98, .int .u8 35]] W fun e w' => e = .returned (.int .i64 (tab tSucc s 5)) ∧ Below W.heap.size W w' := by
  have hcv : ∀ W : World, (convert 56 9 (.slice (some ⟨W.heap.size, 0, none⟩) 2 3)).run Try.prog (W.alloc (.cells #[.int .u8 35, .int .u8 98, .int .u8 35] 54)) = .ok (.string ⟨#[35, 98]⟩) (W.alloc (.cells #[.int .u8 35, .int .u8 98, .int .u8 35] 54)) := fun W => conv2 W 35 98 35
  have h1 : s = 0 ∨ s = 1 ∨ s = 2 ∨ s = 3 ∨ s = 4 ∨ s = 5 := by omega
  rcases h1 with rfl | rfl | rfl | rfl | rfl | rfl
  all_goals
    simp only [tab, tSucc]
    go_enter Try.func53, Try.ntmps53
    go_wp2
    go_ret
    exact ⟨rfl, (Below.refl _ _).alloc (Nat.le_refl _) _⟩

set_option maxHeartbeats 8000000 in
theorem rule6 (s : Nat) (hs : s < 6) (W : World) : Calls Try.prog 53 #[.int .i64 s, .agg #[.int .u8 97, .int .u8 35, .int .u8 35]] W fun e w' => e = .returned (.int .i64 (tab tSucc s 6)) ∧ Below W.heap.size W w' := by
  have hcv : ∀ W : World, (convert 56 9 (.slice (some ⟨W.heap.size, 0, none⟩) 2 3)).run Try.prog (W.alloc (.cells #[.int .u8 97, .int .u8 35, .int .u8 35] 54)) = .ok (.string ⟨#[97, 35]⟩) (W.alloc (.cells #[.int .u8 97, .int .u8 35, .int .u8 35] 54)) := fun W => conv2 W 97 35 35
  have h1 : s = 0 ∨ s = 1 ∨ s = 2 ∨ s = 3 ∨ s = 4 ∨ s = 5 := by omega
  rcases h1 with rfl | rfl | rfl | rfl | rfl | rfl
  all_goals
    simp only [tab, tSucc]
    go_enter Try.func53, Try.ntmps53
    go_wp2
    go_ret
    exact ⟨rfl, (Below.refl _ _).alloc (Nat.le_refl _) _⟩

set_option maxHeartbeats 8000000 in
theorem rule7 (s : Nat) (hs : s < 6) (W : World) : Calls Try.prog 53 #[.int .i64 s, .agg #[.int .u8 98, .int .u8 35, .int .u8 35]] W fun e w' => e = .returned (.int .i64 (tab tSucc s 7)) ∧ Below W.heap.size W w' := by
  have hcv : ∀ W : World, (convert 56 9 (.slice (some ⟨W.heap.size, 0, none⟩) 2 3)).run Try.prog (W.alloc (.cells #[.int .u8 98, .int .u8 35, .int .u8 35] 54)) = .ok (.string ⟨#[98, 35]⟩) (W.alloc (.cells #[.int .u8 98, .int .u8 35, .int .u8 35] 54)) := fun W => conv2 W 98 35 35
  have h1 : s = 0 ∨ s = 1 ∨ s = 2 ∨ s = 3 ∨ s = 4 ∨ s = 5 := by omega
  rcases h1 with rfl | rfl | rfl | rfl | rfl | rfl
  all_goals
    simp only [tab, tSucc]
    go_enter Try.func53, Try.ntmps53
    go_wp2
    go_ret
    exact ⟨rfl, (Below.refl _ _).alloc (Nat.le_refl _) _⟩

theorem succRule (s c : Nat) (hs : s < 6) (hc : c < 8) (W : World) : Calls Try.prog 53 #[.int .i64 s, lettersV 2 c] W fun e w' => e = .returned (.int .i64 (tab tSucc s c)) ∧ Below W.heap.size W w' := by
  have h2 : c = 0 ∨ c = 1 ∨ c = 2 ∨ c = 3 ∨ c = 4 ∨ c = 5 ∨ c = 6 ∨ c = 7 := by omega
  rcases h2 with rfl | rfl | rfl | rfl | rfl | rfl | rfl | rfl
  · exact rule0 s hs W
  · exact rule1 s hs W
  · exact rule2 s hs W
  · exact rule3 s hs W
  · exact rule4 s hs W
  · exact rule5 s hs W
  · exact rule6 s hs W
  · exact rule7 s hs W
end Go.Proofs.Ytpdplfgljjkjbaa.SuccRule
