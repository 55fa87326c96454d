
/- Plain facts on the numbers that classes get when their states are met.
   Conditions: stated at each theorem. -/
import Derived.Test.YtaebeglcoghehaaCN2
namespace Go.Proofs.Ytaebeglcoghehaa.TidyNum
set_option linter.unusedVariables false
set_option linter.unusedSimpArgs false
open TidyMath TidyClass TidyAuto

/-- Where the first thing of a class stands, or -1. -/
def fidx (κ : Nat → Nat) (l : List Nat) (q : Nat) : Nat := l.findIdx fun y => decide (κ y = q)
def numC (κ : Nat → Nat) (l : List Nat) (q : Nat) : Int := if fidx κ l q < l.length then ((fidx κ l q : Nat) : Int) else -1
theorem fidx_idx (κ : Nat → Nat) (l : List Nat) (x : Nat) : fidx κ l (κ x) = idx κ l x := rfl
theorem numC_at (κ : Nat → Nat) (l : List Nat) (x : Nat) : numC κ l (κ x) = if idx κ l x < l.length then ((idx κ l x : Nat) : Int) else -1 := rfl
theorem numC_none (κ : Nat → Nat) (q : Nat) : numC κ [] q = -1 := by simp [numC, fidx]
theorem numC_meet {κ : Nat → Nat} {l : List Nat} {x : Nat} (hn : ¬ idx κ l x < l.length) (q : Nat) : numC κ (meet κ l x) q = if q = κ x then (l.length : Int) else numC κ l q := by
  have hm : meet κ l x = l ++ [x] := by unfold meet; rw [if_neg hn]
  have hil : idx κ l x = l.length := by have := idx_le κ l x; omega
  rw [hm]
  by_cases e : q = κ x
  · rw [if_pos e, e, numC_at, idx_snoc, hil, if_pos (by simp)]
  · rw [if_neg e]
    unfold numC fidx
    rw [List.findIdx_append]
    have h1 : List.findIdx (fun y => decide (κ y = q)) [x] = 1 := by
      rw [List.findIdx_cons]
      have : decide (κ x = q) = false := decide_eq_false fun h => e h.symm
      rw [this]; rfl
    by_cases h : List.findIdx (fun y => decide (κ y = q)) l < l.length
    · rw [if_pos h, if_pos h, if_pos (by rw [List.length_append]; omega)]
    · rw [if_neg h, if_neg h, h1, if_neg (by rw [List.length_append]; simp; omega)]

variable {A : Au} {x0 : Nat}
/-- The classes in the end. -/
abbrev κ (A : Au) : Nat → Nat := cls A (stop A + 1)
def pt (A : Au) (x0 i c : Nat) : List Nat := part (κ A) (sucs A) x0 i c
theorem pt_zero (i : Nat) : pt A x0 i 0 = met A x0 i := part_zero _ _ _ i
theorem pt_end {i c : Nat} (hi : i < (met A x0 i).length) (hc : (A.nx (met A x0 i)[i]).length ≤ c) : pt A x0 i c = met A x0 (i + 1) :=
  part_all _ _ _ hi (by unfold sucs; rw [List.length_map]; exact hc)
theorem pt_step (hf : Fits A x0) {i c s t : Nat} (hi : i < (met A x0 i).length) (hs : (met A x0 i)[i] = s) (hc : c < (A.nx s).length) (ht : (A.nx s)[c] = t) :
    pt A x0 i (c + 1) = meet (κ A) (pt A x0 i c) t ∧ (tidRow A x0 s).take (c + 1) = (tidRow A x0 s).take c ++ [((idx (κ A) (pt A x0 i c) t : Nat) : Int)] := by
  subst hs
  have hl : c < (sucs A (met A x0 i)[i]).length := by unfold sucs; rw [List.length_map]; exact hc
  have hg : (sucs A (met A x0 i)[i])[c] = some t := by
    have h2 : (sucs A (met A x0 i)[i])[c]? = some (some t) := by unfold sucs; rw [List.getElem?_map, List.getElem?_eq_getElem hc, ht]; rfl
    obtain ⟨_, h3⟩ := List.getElem?_eq_some_iff.1 h2
    exact h3
  refine ⟨?_, ?_⟩
  · show part _ _ _ i (c + 1) = _
    rw [part_step _ _ _ hi hl]
    show meetO _ _ ((sucs A (met A x0 i)[i])[c]) = _
    rw [hg]; rfl
  · have h1 : c < (tidRow A x0 (met A x0 i)[i]).length := by unfold tidRow; rw [List.length_map]; exact hc
    rw [List.take_succ_eq_append_getElem h1]
    congr 2
    have h2 : (tidRow A x0 (met A x0 i)[i])[c]? = some ((idx (κ A) (tid A x0) t : Nat) : Int) := by unfold tidRow; rw [List.getElem?_map, List.getElem?_eq_getElem hc, ht]; rfl
    obtain ⟨_, h3⟩ := List.getElem?_eq_some_iff.1 h2
    rw [h3]
    have := part_num (κ A) (sucs A) x0 (met_few hf) hi hl hg
    exact congrArg Int.ofNat this.symm
theorem pt_get {i c : Nat} (hi : i < (met A x0 i).length) : ∃ h : i < (pt A x0 i c).length, (pt A x0 i c)[i] = (met A x0 i)[i] := by
  have hp := part_from (κ A) (sucs A) x0 i c
  exact ⟨Nat.lt_of_lt_of_le hi hp.length_le, prefix_get hp hi⟩
theorem pt_few (hf : Fits A x0) {i c : Nat} (hi : i < (met A x0 i).length) : (pt A x0 i c).length ≤ most A :=
  Nat.le_trans (part_prefix (κ A) (sucs A) x0 (met_few hf) hi).length_le (met_few hf _)
theorem met_get (hf : Fits A x0) {i : Nat} (hi : i < (met A x0 i).length) : ∃ h : i < (tid A x0).length, (tid A x0)[i] = (met A x0 i)[i] := by
  have hp := end_prefix (κ A) (sucs A) x0 (met_few hf) i
  exact ⟨Nat.lt_of_lt_of_le hi hp.length_le, prefix_get hp hi⟩
theorem met_end (hf : Fits A x0) {i : Nat} (hi : (met A x0 i).length ≤ i) : met A x0 i = tid A x0 := (end_len (κ A) (sucs A) x0 (met_few hf) hi).symm
theorem met_step (i : Nat) : (met A x0 i).length ≤ (met A x0 (i + 1)).length := (bfs_step _ _ _ i).length_le
end Go.Proofs.Ytaebeglcoghehaa.TidyNum
