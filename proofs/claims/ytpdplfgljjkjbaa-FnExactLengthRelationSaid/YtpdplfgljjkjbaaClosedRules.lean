
/- The rules of the known relations, letter by letter.
   Conditions: stated at each theorem. -/
import Derived.Deep.QuietTactic
import Derived.BigQuiet
import Derived.Test.YtpdplfgljjkjbaaClosedImpl
namespace Go.Proofs.Ytpdplfgljjkjbaa.ClosedRules
set_option linter.unusedVariables false
set_option linter.unusedSimpArgs false
set_option maxRecDepth 100000
open Go.RowKit Mem Copy Rel Valid Heap Bld ColMath Columns Numbers ToL TidyAuto TidyRight SpecRight SpecTidyRel ImplRight Automaton Known Sim ResKit Closed ClosedImpl

set_option maxHeartbeats 8000000 in
theorem equalRule (s c : Nat) (hs : s < 2) (hc : c < 8) (W : World) (p4 p5 : Nat) (c4 : W.cell? ⟨p4, 0, none⟩ = some (.int .i64 0)) (c5 : W.cell? ⟨p5, 0, none⟩ = some (.int .i64 1)) (l4 : p4 < W.heap.size) (l5 : p5 < W.heap.size) : Calls Try.prog 71 #[.int .i64 s, lettersV 2 c, .pointer (some ⟨p4, 0, none⟩), .pointer (some ⟨p5, 0, none⟩)] W fun e w' => e = .returned (.int .i64 (tab tEqual s c)) ∧ Below W.heap.size W w' := by
  have h1 : s = 0 ∨ s = 1 := by omega
  have h2 : c = 0 ∨ c = 1 ∨ c = 2 ∨ c = 3 ∨ c = 4 ∨ c = 5 ∨ c = 6 ∨ c = 7 := by omega
  rcases h1 with rfl | rfl <;> rcases h2 with rfl | rfl | rfl | rfl | rfl | rfl | rfl | rfl
  all_goals
    simp only [lettersV, letT, letA, pow3, tab, tEqual]
    go_enter Try.func71, Try.ntmps71
    go_wp2
    go_quiet (fail)
    all_goals go_wp2
    all_goals
      go_ret
      exact ⟨rfl, by first | exact (Below.refl _ _).alloc (Nat.le_refl _) _ | exact below_drewN ((Below.refl _ _).alloc (Nat.le_refl _) _) _⟩

set_option maxHeartbeats 8000000 in
theorem lenRule (s c : Nat) (hs : s < 3) (hc : c < 8) (W : World) (p4 p5 : Nat) (c4 : W.cell? ⟨p4, 0, none⟩ = some (.int .i64 0)) (c5 : W.cell? ⟨p5, 0, none⟩ = some (.int .i64 1)) (l4 : p4 < W.heap.size) (l5 : p5 < W.heap.size) : Calls Try.prog 73 #[.int .i64 s, lettersV 2 c, .pointer (some ⟨p4, 0, none⟩), .pointer (some ⟨p5, 0, none⟩)] W fun e w' => e = .returned (.int .i64 (tab tLen1 s c)) ∧ Below W.heap.size W w' := by
  have h1 : s = 0 ∨ s = 1 ∨ s = 2 := by omega
  have h2 : c = 0 ∨ c = 1 ∨ c = 2 ∨ c = 3 ∨ c = 4 ∨ c = 5 ∨ c = 6 ∨ c = 7 := by omega
  rcases h1 with rfl | rfl | rfl <;> rcases h2 with rfl | rfl | rfl | rfl | rfl | rfl | rfl | rfl
  all_goals
    simp only [lettersV, letT, letA, pow3, tab, tLen1]
    go_enter Try.func73, Try.ntmps73
    go_wp2
    all_goals
      go_ret
      exact ⟨rfl, by first | exact (Below.refl _ _).alloc (Nat.le_refl _) _ | exact below_drewN ((Below.refl _ _).alloc (Nat.le_refl _) _) _⟩

set_option maxHeartbeats 8000000 in
theorem orderRule (s c : Nat) (hs : s < 5) (hc : c < 8) (W : World) : Calls Try.prog 52 #[.int .i64 s, lettersV 2 c] W fun e w' => e = .returned (.int .i64 (tab tOrder s c)) ∧ Below W.heap.size W w' := by
  have h1 : s = 0 ∨ s = 1 ∨ s = 2 ∨ s = 3 ∨ s = 4 := by omega
  have h2 : c = 0 ∨ c = 1 ∨ c = 2 ∨ c = 3 ∨ c = 4 ∨ c = 5 ∨ c = 6 ∨ c = 7 := by omega
  rcases h1 with rfl | rfl | rfl | rfl | rfl <;> rcases h2 with rfl | rfl | rfl | rfl | rfl | rfl | rfl | rfl
  all_goals
    simp only [lettersV, letT, letA, pow3, tab, tOrder]
    go_enter Try.func52, Try.ntmps52
    go_wp2
    all_goals
      go_ret
      exact ⟨rfl, by first | exact (Below.refl _ _).alloc (Nat.le_refl _) _ | exact below_drewN ((Below.refl _ _).alloc (Nat.le_refl _) _) _⟩

theorem allRule (k : Nat) (c : Nat) (W : World) : Calls Try.prog 58 #[.int .i64 0, lettersV k c] W fun e w' => e = .returned (.int .i64 0) ∧ Below W.heap.size W w' := by
  unfold lettersV
  go_enter Try.func58, Try.ntmps58
  go_wp2
  go_ret
  exact ⟨rfl, (Below.refl _ _).alloc (Nat.le_refl _) _⟩
end Go.Proofs.Ytpdplfgljjkjbaa.ClosedRules
