
/- Bounds that a law sets for two relations.
   Conditions: stated at each theorem. -/
import Derived.Test.YtpnlocnbcdgamaaRel
namespace Go.Proofs.Ytpnlocnbcdgamaa.SameLaw0
set_option linter.unusedVariables false
set_option linter.unusedSimpArgs false
open Go.RowKit Mem Rel

theorem szRowsTo_low (xss : List (List Int)) : ∀ left : Int, -1 ≤ left → szRowsTo left xss ≤ left := by
  induction xss with
  | nil => intro left _; exact Int.le_refl _
  | cons y r ih =>
    intro left h
    unfold szRowsTo
    by_cases hc : left < (y.length : Int)
    · rw [if_pos hc]; omega
    · rw [if_neg hc]
      have := ih (left - y.length) (by omega)
      omega

theorem szRel_low {left : Int} {r : R} (h : 0 ≤ left) : szRel left r ≤ left := by
  unfold szRel
  by_cases h1 : left < (r.accept.length : Int)
  · rw [if_pos h1]; omega
  · rw [if_neg h1]
    unfold szRows
    by_cases h2 : left - r.accept.length < (r.next.length : Int)
    · rw [if_pos h2]; omega
    · rw [if_neg h2]
      have := szRowsTo_low r.next (left - r.accept.length - r.next.length) (by omega)
      omega

theorem short_of' {r : R} {left : Int} (hl : left ≤ 1048576) (h : 0 ≤ szRel left r) : Short r := by
  obtain ⟨a, b, c⟩ := szRel_bounds h
  exact ⟨by omega, by omega, fun i hi => by have := c i hi; omega⟩

end Go.Proofs.Ytpnlocnbcdgamaa.SameLaw0
