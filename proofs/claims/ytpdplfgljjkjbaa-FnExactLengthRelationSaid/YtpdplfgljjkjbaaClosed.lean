
/- The known relations of two tapes: the program's automata and the model's have the same tidy ones.
   Conditions: none. -/
import Derived.Test.YtpdplfgljjkjbaaAutomaton
import Derived.Test.YtpdplfgljjkjbaaKnown
import Derived.Test.YtpdplfgljjkjbaaResKit
namespace Go.Proofs.Ytpdplfgljjkjbaa.Closed
set_option linter.unusedVariables false
set_option linter.unusedSimpArgs false
set_option maxRecDepth 100000
open Go.RowKit Mem Copy Rel Valid Heap Bld ToL TidyAuto TidyRight SpecRight SpecTidyRel Automaton Known Sim ResKit

def tab (T : List (List Nat)) (s c : Nat) : Int := (((T.getD s []).getD c 0 : Nat) : Int)

def tEqual : List (List Nat) := [[0, 1, 1, 1, 0, 1, 1, 1], [1, 1, 1, 1, 1, 1, 1, 1]]
def mEqual : List (List Int) := [[0, 0, 0], [0, 4, 0]]
def iEqual : L := ⟨2, 0, [true, false], tEqual⟩
def sEqual : L := ⟨2, 0, [true, false], [[0, 1, 1, 1, 0, 1, 1, 1], [1, 1, 1, 1, 1, 1, 1, 1]]⟩
def rEqual : R := ⟨2, 0, [true, false], autN 2 2 (tab tEqual)⟩
theorem iEqual_ok : iEqual.Ok := ⟨by decide, by decide, by decide, by decide, by decide +kernel, by decide +kernel⟩
theorem sEqual_ok : sEqual.Ok := ⟨by decide, by decide, by decide, by decide, by decide +kernel, by decide +kernel⟩
theorem sEqual_rel : relOf sEqual = ⟨2, 0, [true] ++ [false], kn 1 mEqual⟩ := by kernel_rfl
theorem rEqual_ok : okB rEqual = true := by decide +kernel
theorem rEqual_L : toL rEqual = iEqual := by kernel_rfl
theorem simEqual : tidyAcc iEqual = tidyAcc sEqual ∧ tidyNext iEqual = tidyNext sEqual :=
  simB_tidy (T := [(0, 0, 0), (1, 1, 0), (1, 1, 1), (1, 1, 2)]) (by decide +kernel) iEqual_ok sEqual_ok (by decide +kernel)
theorem tidyEqual : tidyA rEqual = tidyAcc sEqual ∧ tidyN rEqual = tidyNext sEqual ∧ tidyK rEqual = 2 ∧ tidyC rEqual = 0 := by
  have h := small (r := rEqual) rEqual_ok (by decide)
  rw [rEqual_L] at h
  exact ⟨h.1.trans simEqual.1, h.2.1.trans simEqual.2, h.2.2⟩
theorem lenEqual : (tidyAcc sEqual).length ≤ 150 := by
  have := tidyAcc_len sEqual_ok
  have h : sEqual.acc.length = 2 := rfl
  omega

def tPrefix : List (List Nat) := [[0, 1, 0, 1, 0, 0, 1, 1], [1, 1, 1, 1, 1, 1, 1, 1]]
def mPrefix : List (List Int) := [[0, 0, 0], [0, 4, 0], [0, 2, 1], [0, 5, 1], [1, 2, 1], [1, 5, 1]]
def iPrefix : L := ⟨2, 0, [true, false], tPrefix⟩
def sPrefix : L := ⟨2, 0, [true, true, false], [[0, 2, 1, 2, 0, 1, 2, 2], [2, 2, 1, 2, 2, 1, 2, 2], [2, 2, 2, 2, 2, 2, 2, 2]]⟩
def rPrefix : R := ⟨2, 0, [true, false], autN 2 2 (tab tPrefix)⟩
theorem iPrefix_ok : iPrefix.Ok := ⟨by decide, by decide, by decide, by decide, by decide +kernel, by decide +kernel⟩
theorem sPrefix_ok : sPrefix.Ok := ⟨by decide, by decide, by decide, by decide, by decide +kernel, by decide +kernel⟩
theorem sPrefix_rel : relOf sPrefix = ⟨2, 0, [true, true] ++ [false], kn 2 mPrefix⟩ := by kernel_rfl
theorem rPrefix_ok : okB rPrefix = true := by decide +kernel
theorem rPrefix_L : toL rPrefix = iPrefix := by kernel_rfl
theorem simPrefix : tidyAcc iPrefix = tidyAcc sPrefix ∧ tidyNext iPrefix = tidyNext sPrefix :=
  simB_tidy (T := [(0, 0, 0), (1, 2, 0), (0, 1, 1), (1, 2, 2), (1, 2, 1)]) (by decide +kernel) iPrefix_ok sPrefix_ok (by decide +kernel)
theorem tidyPrefix : tidyA rPrefix = tidyAcc sPrefix ∧ tidyN rPrefix = tidyNext sPrefix ∧ tidyK rPrefix = 2 ∧ tidyC rPrefix = 0 := by
  have h := small (r := rPrefix) rPrefix_ok (by decide)
  rw [rPrefix_L] at h
  exact ⟨h.1.trans simPrefix.1, h.2.1.trans simPrefix.2, h.2.2⟩
theorem lenPrefix : (tidyAcc sPrefix).length ≤ 150 := by
  have := tidyAcc_len sPrefix_ok
  have h : sPrefix.acc.length = 3 := rfl
  omega

def tOrder : List (List Nat) := [[0, 2, 3, 1, 0, 3, 4, 4], [1, 1, 3, 1, 1, 3, 4, 4], [2, 2, 3, 2, 2, 3, 4, 4], [3, 3, 3, 3, 3, 3, 4, 4], [4, 4, 3, 4, 4, 3, 4, 4]]
def mOrder : List (List Int) := [[0, 0, 0], [0, 4, 0], [0, 3, 1], [0, 1, 2], [3, 2, 3], [3, 5, 3], [0, 2, 3], [0, 5, 3], [1, 2, 3], [1, 5, 3], [1, 0, 1], [1, 1, 1], [1, 3, 1], [1, 4, 1], [2, 2, 3], [2, 5, 3], [2, 0, 2], [2, 1, 2], [2, 3, 2], [2, 4, 2]]
def iOrder : L := ⟨2, 0, [false, true, false, true, false], tOrder⟩
def sOrder : L := ⟨2, 0, [false, true, false, true, false], [[0, 2, 3, 1, 0, 3, 4, 4], [1, 1, 3, 1, 1, 3, 4, 4], [2, 2, 3, 2, 2, 3, 4, 4], [4, 4, 3, 4, 4, 3, 4, 4], [4, 4, 4, 4, 4, 4, 4, 4]]⟩
def rOrder : R := ⟨2, 0, [false, true, false, true, false], autN 2 5 (tab tOrder)⟩
theorem iOrder_ok : iOrder.Ok := ⟨by decide, by decide, by decide, by decide, by decide +kernel, by decide +kernel⟩
theorem sOrder_ok : sOrder.Ok := ⟨by decide, by decide, by decide, by decide, by decide +kernel, by decide +kernel⟩
theorem sOrder_rel : relOf sOrder = ⟨2, 0, [false, true, false, true] ++ [false], kn 4 mOrder⟩ := by kernel_rfl
theorem rOrder_ok : okB rOrder = true := by decide +kernel
theorem rOrder_L : toL rOrder = iOrder := by kernel_rfl
theorem simOrder : tidyAcc iOrder = tidyAcc sOrder ∧ tidyNext iOrder = tidyNext sOrder :=
  simB_tidy (T := [(0, 0, 0), (2, 2, 0), (3, 3, 1), (1, 1, 0), (4, 4, 2)]) (by decide +kernel) iOrder_ok sOrder_ok (by decide +kernel)
theorem tidyOrder : tidyA rOrder = tidyAcc sOrder ∧ tidyN rOrder = tidyNext sOrder ∧ tidyK rOrder = 2 ∧ tidyC rOrder = 0 := by
  have h := small (r := rOrder) rOrder_ok (by decide)
  rw [rOrder_L] at h
  exact ⟨h.1.trans simOrder.1, h.2.1.trans simOrder.2, h.2.2⟩
theorem lenOrder : (tidyAcc sOrder).length ≤ 150 := by
  have := tidyAcc_len sOrder_ok
  have h : sOrder.acc.length = 5 := rfl
  omega

def tSucc : List (List Nat) := [[1, 3, 4, 2, 1, 5, 5, 5], [1, 5, 5, 2, 1, 5, 5, 5], [5, 2, 5, 5, 5, 5, 5, 5], [5, 3, 4, 5, 5, 5, 5, 5], [5, 5, 5, 5, 5, 5, 5, 5], [5, 5, 5, 5, 5, 5, 5, 5]]
def mSucc : List (List Int) := [[0, 0, 1], [0, 4, 1], [0, 3, 2], [0, 1, 3], [0, 2, 4], [1, 0, 1], [1, 4, 1], [1, 3, 2], [2, 1, 2], [3, 1, 3], [3, 2, 4]]
def iSucc : L := ⟨2, 0, [false, false, true, false, true, false], tSucc⟩
def sSucc : L := ⟨2, 0, [false, false, true, false, true, false], [[1, 3, 4, 2, 1, 5, 5, 5], [1, 5, 5, 2, 1, 5, 5, 5], [5, 2, 5, 5, 5, 5, 5, 5], [5, 3, 4, 5, 5, 5, 5, 5], [5, 5, 5, 5, 5, 5, 5, 5], [5, 5, 5, 5, 5, 5, 5, 5]]⟩
def rSucc : R := ⟨2, 0, [false, false, true, false, true, false], autN 2 6 (tab tSucc)⟩
theorem iSucc_ok : iSucc.Ok := ⟨by decide, by decide, by decide, by decide, by decide +kernel, by decide +kernel⟩
theorem sSucc_ok : sSucc.Ok := ⟨by decide, by decide, by decide, by decide, by decide +kernel, by decide +kernel⟩
theorem sSucc_rel : relOf sSucc = ⟨2, 0, [false, false, true, false, true] ++ [false], kn 5 mSucc⟩ := by kernel_rfl
theorem rSucc_ok : okB rSucc = true := by decide +kernel
theorem rSucc_L : toL rSucc = iSucc := by kernel_rfl
theorem simSucc : tidyAcc iSucc = tidyAcc sSucc ∧ tidyNext iSucc = tidyNext sSucc :=
  simB_tidy (T := [(0, 0, 0), (1, 1, 0), (3, 3, 0), (4, 4, 1), (2, 2, 0), (5, 5, 1), (5, 5, 2), (5, 5, 0)]) (by decide +kernel) iSucc_ok sSucc_ok (by decide +kernel)
theorem tidySucc : tidyA rSucc = tidyAcc sSucc ∧ tidyN rSucc = tidyNext sSucc ∧ tidyK rSucc = 2 ∧ tidyC rSucc = 0 := by
  have h := small (r := rSucc) rSucc_ok (by decide)
  rw [rSucc_L] at h
  exact ⟨h.1.trans simSucc.1, h.2.1.trans simSucc.2, h.2.2⟩
theorem lenSucc : (tidyAcc sSucc).length ≤ 150 := by
  have := tidyAcc_len sSucc_ok
  have h : sSucc.acc.length = 6 := rfl
  omega

def tLen1 : List (List Nat) := [[0, 0, 1, 0, 0, 1, 2, 2], [1, 1, 1, 1, 1, 1, 2, 2], [2, 2, 1, 2, 2, 1, 2, 2]]
def mLen1 : List (List Int) := [[0, 0, 0], [0, 1, 0], [0, 3, 0], [0, 4, 0], [0, 2, 1], [0, 5, 1], [1, 2, 1], [1, 5, 1]]
def iLen1 : L := ⟨2, 0, [true, false, false], tLen1⟩
def sLen1 : L := ⟨2, 0, [true, false, false], [[0, 0, 1, 0, 0, 1, 2, 2], [2, 2, 1, 2, 2, 1, 2, 2], [2, 2, 2, 2, 2, 2, 2, 2]]⟩
def rLen1 : R := ⟨2, 0, [true, false, false], autN 2 3 (tab tLen1)⟩
theorem iLen1_ok : iLen1.Ok := ⟨by decide, by decide, by decide, by decide, by decide +kernel, by decide +kernel⟩
theorem sLen1_ok : sLen1.Ok := ⟨by decide, by decide, by decide, by decide, by decide +kernel, by decide +kernel⟩
theorem sLen1_rel : relOf sLen1 = ⟨2, 0, [true, false] ++ [false], kn 2 mLen1⟩ := by kernel_rfl
theorem rLen1_ok : okB rLen1 = true := by decide +kernel
theorem rLen1_L : toL rLen1 = iLen1 := by kernel_rfl
theorem simLen1 : tidyAcc iLen1 = tidyAcc sLen1 ∧ tidyNext iLen1 = tidyNext sLen1 :=
  simB_tidy (T := [(0, 0, 0), (1, 1, 1), (2, 2, 2)]) (by decide +kernel) iLen1_ok sLen1_ok (by decide +kernel)
theorem tidyLen1 : tidyA rLen1 = tidyAcc sLen1 ∧ tidyN rLen1 = tidyNext sLen1 ∧ tidyK rLen1 = 2 ∧ tidyC rLen1 = 0 := by
  have h := small (r := rLen1) rLen1_ok (by decide)
  rw [rLen1_L] at h
  exact ⟨h.1.trans simLen1.1, h.2.1.trans simLen1.2, h.2.2⟩
theorem lenLen1 : (tidyAcc sLen1).length ≤ 150 := by
  have := tidyAcc_len sLen1_ok
  have h : sLen1.acc.length = 3 := rfl
  omega

def iLen2 : L := ⟨2, 0, [false, true, false], tLen1⟩
def sLen2 : L := ⟨2, 0, [false, true, false], [[0, 0, 1, 0, 0, 1, 2, 2], [2, 2, 1, 2, 2, 1, 2, 2], [2, 2, 2, 2, 2, 2, 2, 2]]⟩
def rLen2 : R := ⟨2, 0, [false, true, false], autN 2 3 (tab tLen1)⟩
theorem iLen2_ok : iLen2.Ok := ⟨by decide, by decide, by decide, by decide, by decide +kernel, by decide +kernel⟩
theorem sLen2_ok : sLen2.Ok := ⟨by decide, by decide, by decide, by decide, by decide +kernel, by decide +kernel⟩
theorem sLen2_rel : relOf sLen2 = ⟨2, 0, [false, true] ++ [false], kn 2 mLen1⟩ := by kernel_rfl
theorem rLen2_ok : okB rLen2 = true := by decide +kernel
theorem rLen2_L : toL rLen2 = iLen2 := by kernel_rfl
theorem simLen2 : tidyAcc iLen2 = tidyAcc sLen2 ∧ tidyNext iLen2 = tidyNext sLen2 :=
  simB_tidy (T := [(0, 0, 0), (1, 1, 1), (2, 2, 2)]) (by decide +kernel) iLen2_ok sLen2_ok (by decide +kernel)
theorem tidyLen2 : tidyA rLen2 = tidyAcc sLen2 ∧ tidyN rLen2 = tidyNext sLen2 ∧ tidyK rLen2 = 2 ∧ tidyC rLen2 = 0 := by
  have h := small (r := rLen2) rLen2_ok (by decide)
  rw [rLen2_L] at h
  exact ⟨h.1.trans simLen2.1, h.2.1.trans simLen2.2, h.2.2⟩
theorem lenLen2 : (tidyAcc sLen2).length ≤ 150 := by
  have := tidyAcc_len sLen2_ok
  have h : sLen2.acc.length = 3 := rfl
  omega

def iLen3 : L := ⟨2, 0, [true, true, false], tLen1⟩
def sLen3 : L := ⟨2, 0, [true, true, false], [[0, 0, 1, 0, 0, 1, 2, 2], [2, 2, 1, 2, 2, 1, 2, 2], [2, 2, 2, 2, 2, 2, 2, 2]]⟩
def rLen3 : R := ⟨2, 0, [true, true, false], autN 2 3 (tab tLen1)⟩
theorem iLen3_ok : iLen3.Ok := ⟨by decide, by decide, by decide, by decide, by decide +kernel, by decide +kernel⟩
theorem sLen3_ok : sLen3.Ok := ⟨by decide, by decide, by decide, by decide, by decide +kernel, by decide +kernel⟩
theorem sLen3_rel : relOf sLen3 = ⟨2, 0, [true, true] ++ [false], kn 2 mLen1⟩ := by kernel_rfl
theorem rLen3_ok : okB rLen3 = true := by decide +kernel
theorem rLen3_L : toL rLen3 = iLen3 := by kernel_rfl
theorem simLen3 : tidyAcc iLen3 = tidyAcc sLen3 ∧ tidyNext iLen3 = tidyNext sLen3 :=
  simB_tidy (T := [(0, 0, 0), (1, 1, 1), (2, 2, 2)]) (by decide +kernel) iLen3_ok sLen3_ok (by decide +kernel)
theorem tidyLen3 : tidyA rLen3 = tidyAcc sLen3 ∧ tidyN rLen3 = tidyNext sLen3 ∧ tidyK rLen3 = 2 ∧ tidyC rLen3 = 0 := by
  have h := small (r := rLen3) rLen3_ok (by decide)
  rw [rLen3_L] at h
  exact ⟨h.1.trans simLen3.1, h.2.1.trans simLen3.2, h.2.2⟩
theorem lenLen3 : (tidyAcc sLen3).length ≤ 150 := by
  have := tidyAcc_len sLen3_ok
  have h : sLen3.acc.length = 3 := rfl
  omega

theorem iAll_ok (k : Nat) (h1 : 1 ≤ k) (h3 : k ≤ 3) : (L.mk k 0 [true] [List.replicate (wide k) 0]).Ok := by
  have : k = 1 ∨ k = 2 ∨ k = 3 := by omega
  rcases this with rfl | rfl | rfl <;> exact ⟨by decide, by decide, by decide, by decide, by decide +kernel, by decide +kernel⟩
def rAll (k : Nat) : R := ⟨k, 0, [true], autN k 1 fun _ _ => 0⟩
theorem rAll_rel (k : Nat) (h1 : 1 ≤ k) (h3 : k ≤ 3) : relOf (L.mk k 0 [true] [List.replicate (wide k) 0]) = rAll k := by
  have : k = 1 ∨ k = 2 ∨ k = 3 := by omega
  rcases this with rfl | rfl | rfl <;> rfl
theorem rAll_ok (k : Nat) (h1 : 1 ≤ k) (h3 : k ≤ 3) : okB (rAll k) = true := by
  have : k = 1 ∨ k = 2 ∨ k = 3 := by omega
  rcases this with rfl | rfl | rfl <;> decide +kernel
theorem tidyAll (k : Nat) (h1 : 1 ≤ k) (h3 : k ≤ 3) : tidyA (rAll k) = tidyAcc (L.mk k 0 [true] [List.replicate (wide k) 0]) ∧ tidyN (rAll k) = tidyNext (L.mk k 0 [true] [List.replicate (wide k) 0]) ∧ tidyK (rAll k) = k ∧ tidyC (rAll k) = 0 := by
  have h := small (r := rAll k) (rAll_ok k h1 h3) (by show 1 ≤ 18; omega)
  have e : toL (rAll k) = L.mk k 0 [true] [List.replicate (wide k) 0] := by
    have : k = 1 ∨ k = 2 ∨ k = 3 := by omega
    rcases this with rfl | rfl | rfl <;> rfl
  rw [e] at h
  exact h
theorem lenAll (k : Nat) (h1 : 1 ≤ k) (h3 : k ≤ 3) : (tidyAcc (L.mk k 0 [true] [List.replicate (wide k) 0])).length ≤ 150 := by
  have := tidyAcc_len (iAll_ok k h1 h3)
  have h : (L.mk k 0 [true] [List.replicate (wide k) 0]).acc.length = 1 := rfl
  omega
end Go.Proofs.Ytpdplfgljjkjbaa.Closed
