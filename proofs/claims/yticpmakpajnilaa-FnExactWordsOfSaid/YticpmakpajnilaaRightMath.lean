
/- Columns are right just if each of them has pads where the one before it has some.
   Conditions: one to three tapes, and columns of theirs. -/
import Derived.Test.YticpmakpajnilaaTupMath
import Derived.Test.YticpmakpajnilaaTidyRight
namespace Go.Proofs.Yticpmakpajnilaa.RightMath
set_option linter.unusedVariables false
set_option linter.unusedSimpArgs false
open Mem ColMath TupMath TidyRight

theorem fol_iff : ∀ n, n < 4 → ∀ c, c < 26 → ∀ d, d < 26 → (fol (pd n c) (pd n d) = true ↔ ∀ t, t < n → c / 3 ^ t % 3 = 2 → d / 3 ^ t % 3 = 2) := by decide +kernel
theorem fol_zero : ∀ p, fol 0 p = true := fun p => by simp [fol]

/-- The pads in front of the column i. -/
def endedAt (n : Nat) (cs : List Nat) (i : Nat) : Nat := if i = 0 then 0 else pd n (cs.getD (i - 1) 0)

theorem dg_nat (c t : Nat) (ht : t < 3) : dg (c : Int) t = ((c / 3 ^ t % 3 : Nat) : Int) := by
  have : t = 0 ∨ t = 1 ∨ t = 2 := by omega
  rcases this with rfl | rfl | rfl <;> simp [dg, pow3]

theorem getD_nat (cs : List Nat) (i : Nat) : (cs.map Int.ofNat).getD i 0 = ((cs.getD i 0 : Nat) : Int) := by
  by_cases h : i < cs.length
  · simp [List.getD, h]
  · simp [List.getD, h]

theorem wd_full (cs : List Int) (t : Nat) (h : ∀ i, i < cs.length → ¬ dg (cs.getD i 0) t = 2) : (wd cs t).length = cs.length := by
  unfold wd
  rw [List.length_map, List.filter_eq_self.2]
  intro c hc
  obtain ⟨i, hi, rfl⟩ := List.getElem_of_mem hc
  have := h i hi
  simp only [List.getD, List.getElem?_eq_getElem hi, Option.getD_some] at this
  simpa using this
theorem wd_short (cs : List Int) (t : Nat) (i : Nat) (hi : i < cs.length) (h : dg (cs.getD i 0) t = 2) : (wd cs t).length < cs.length := by
  unfold wd
  rw [List.length_map]
  apply Nat.lt_of_le_of_ne (List.length_filter_le _ _)
  intro e
  have h1 := List.length_filter_eq_length_iff.1 e (cs.getD i 0) (by simp [List.getD, hi])
  have h2 : (dg (cs.getD i 0) t != 2) = true := h1
  rw [h] at h2; cases h2

variable {n : Nat} {cs : List Nat}
/-- If each column may follow, they are right. -/
theorem right_all (hn : n < 4) (hc : ∀ i, i < cs.length → cs.getD i 0 < 26) (h : ∀ i, i < cs.length → fol (endedAt n cs i) (pd n (cs.getD i 0)) = true) : rightB n (cs.map Int.ofNat) = true := by
  have step : ∀ i t, t < n → i + 1 < cs.length → cs.getD i 0 / 3 ^ t % 3 = 2 → cs.getD (i + 1) 0 / 3 ^ t % 3 = 2 := by
    intro i t ht hi hd
    have h1 := h (i + 1) hi
    unfold endedAt at h1
    rw [if_neg (by omega), Nat.add_sub_cancel] at h1
    exact (fol_iff n hn _ (hc i (by omega)) _ (hc (i + 1) hi)).1 h1 t ht hd
  have chain : ∀ j i t, t < n → i + j < cs.length → cs.getD i 0 / 3 ^ t % 3 = 2 → cs.getD (i + j) 0 / 3 ^ t % 3 = 2 := by
    intro j
    induction j with
    | zero => intro i t _ _ hd; exact hd
    | succ j ih => intro i t ht hi hd; exact step (i + j) t ht hi (ih i t ht (by omega) hd)
  refine right_good fun i t hi ht => ?_
  rw [List.length_map] at hi
  unfold stepOk
  rw [getD_nat, dg_nat _ _ (by omega)]
  by_cases hd : cs.getD i 0 / 3 ^ t % 3 = 2
  · rw [hd]; rfl
  · have : (wd ((cs.map Int.ofNat).take i) t).length = ((cs.map Int.ofNat).take i).length := wd_full _ _ fun j hj => by
      rw [List.length_take, List.length_map] at hj
      have e : ((cs.map Int.ofNat).take i).getD j 0 = ((cs.getD j 0 : Nat) : Int) := by
        rw [← getD_nat]
        simp [List.getD, List.getElem?_take, show j < i by omega]
      rw [e, dg_nat _ _ (by omega)]
      intro h2
      have h2' : cs.getD j 0 / 3 ^ t % 3 = 2 := by omega
      have := chain (i - j) j t ht (by omega) h2'
      rw [show j + (i - j) = i by omega] at this
      exact hd this
    rw [this, List.length_take, List.length_map]
    simp; omega
/-- If one may not, they are not. -/
theorem right_not (hn : n < 4) (hc : ∀ i, i < cs.length → cs.getD i 0 < 26) {i : Nat} (hi : i < cs.length) (h : fol (endedAt n cs i) (pd n (cs.getD i 0)) = false) : rightB n (cs.map Int.ofNat) = false := by
  have h0 : i ≠ 0 := by
    intro e; subst e
    rw [endedAt, if_pos rfl, fol_zero] at h; cases h
  unfold endedAt at h
  rw [if_neg h0] at h
  have hne : ¬ ∀ t, t < n → cs.getD (i - 1) 0 / 3 ^ t % 3 = 2 → cs.getD i 0 / 3 ^ t % 3 = 2 := by
    intro ha
    rw [(fol_iff n hn _ (hc (i - 1) (by omega)) _ (hc i hi)).2 ha] at h; cases h
  obtain ⟨t, hne⟩ := Classical.not_forall.1 hne
  obtain ⟨ht, hne⟩ := Classical.not_imp.1 hne
  obtain ⟨h1, h2⟩ := Classical.not_imp.1 hne
  refine right_bad (i := i) (t := t) (by rw [List.length_map]; exact hi) ht ?_
  unfold stepOk
  rw [getD_nat, dg_nat _ _ (by omega)]
  have hs : (wd ((cs.map Int.ofNat).take i) t).length < ((cs.map Int.ofNat).take i).length := wd_short _ _ (i - 1) (by rw [List.length_take, List.length_map]; omega) (by
    have e : ((cs.map Int.ofNat).take i).getD (i - 1) 0 = ((cs.getD (i - 1) 0 : Nat) : Int) := by
      rw [← getD_nat]
      simp [List.getD, List.getElem?_take, show i - 1 < i by omega]
    rw [e, dg_nat _ _ (by omega)]; omega)
  rw [List.length_take, List.length_map, Nat.min_eq_left (by omega)] at hs
  rw [Bool.or_eq_false_iff]
  refine ⟨?_, by rw [decide_eq_true hs]; rfl⟩
  rw [beq_eq_false_iff_ne]
  intro e
  exact h2 (by omega)
end Go.Proofs.Yticpmakpajnilaa.RightMath
