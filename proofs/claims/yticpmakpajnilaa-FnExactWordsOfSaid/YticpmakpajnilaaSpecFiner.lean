
/- What the model's functions on classes of states hand back.
   Conditions: the relation's rows have one length, and lead to states; the classes are read as XMem's text says. -/
import Derived.Test.YticpmakpajnilaaValid
import Derived.Test.YticpmakpajnilaaHeap
import Derived.Test.YticpmakpajnilaaTidyAuto
import Derived.Deep.QuietTactic
import Derived.BigQuiet
namespace Go.Proofs.Yticpmakpajnilaa.SpecFiner
set_option linter.unusedVariables false
set_option linter.unusedSimpArgs false
open Go.RowKit Mem Copy Rel Valid Heap TidyMath TidyClass TidyAuto

/-- A list of numbers below 2^63 as Go has it. -/
def ofN (l : List Nat) : List Int := l.map Int.ofNat
theorem ofN_length (l : List Nat) : (ofN l).length = l.length := by simp [ofN]
theorem ofN_get (l : List Nat) {i : Nat} (h : i < l.length) : (ofN l).getD i 0 = ((l.getD i 0 : Nat) : Int) := by simp [ofN, List.getD, h]
def tabN (n : Nat) (c : Nat → Nat) : List Int := ofN ((List.range n).map c)
theorem tabN_length (n : Nat) (c : Nat → Nat) : (tabN n c).length = n := by simp [tabN, ofN]
theorem tabN_get (n : Nat) (c : Nat → Nat) {i : Nat} (h : i < n) : (tabN n c).getD i 0 = ((c i : Nat) : Int) := by simp [tabN, ofN, List.getD, h]

theorem map_take_succ {α β : Type} (f : α → β) (l : List α) (d : α) (k : Nat) (h : k < l.length) : (l.take (k + 1)).map f = (l.take k).map f ++ [f (l.getD k d)] := by
  rw [take_succ_getD l d k h, List.map_append]; rfl
theorem map_differ {f : Nat → Nat} {l m : List Nat} {k : Nat} (hl : k < l.length) (hm : k < m.length) (h : f (l.getD k 0) ≠ f (m.getD k 0)) : ¬ l.map f = m.map f := by
  intro e
  have := congrArg (fun x => x[k]?) e
  simp [hl, hm] at this
  simp [List.getD, hl, hm] at h
  exact h this

/-- What is asked of the relation's rows. -/
def RowsOk (nx : List (List Nat)) (n W : Nat) : Prop := nx.length = n ∧ ∀ s, s < n → (nx.getD s []).length = W ∧ ∀ k, k < W → (nx.getD s []).getD k 0 < n
def auOf (nx : List (List Nat)) (n : Nat) (acc : Nat → Bool) : Au := ⟨n, acc, fun s => nx.getD s []⟩
abbrev key (nx : List (List Nat)) (c : Nat → Nat) (s : Nat) : Nat × List Nat := (c s, (nx.getD s []).map c)

theorem fin_T {k : Nat} {f : Nat → Int} {T : Nat → Int} {o : Int} (hT : ∀ i, T i = if i = k then o else if i = k then -1 else if i < k then f i else 0) (ho : o = f k) (i : Nat) : T i = if i < k + 1 then f i else 0 := by
  rw [hT i]
  by_cases e : i = k
  · subst e; simp [ho]
  · by_cases h : i < k
    · have : i < k + 1 := by omega
      simp [e, h, this]
    · have : ¬ i < k + 1 := by omega
      simp [e, h, this]

end Go.Proofs.Yticpmakpajnilaa.SpecFiner
