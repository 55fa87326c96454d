
/- Whether a relation has no tuples: what is asked.
   Conditions: stated at each theorem. -/
import Derived.Test.YtpnlocnbcdgamaaFirstK
import Derived.Test.YtpnlocnbcdgamaaEqI
namespace Go.Proofs.Ytpnlocnbcdgamaa.EmptyK
set_option linter.unusedVariables false
set_option linter.unusedSimpArgs false
set_option linter.ambiguousOpen false
set_option maxRecDepth 100000
open Go.RowKit Mem Copy Rel Valid Heap Columns Bld ToL TidyMath TidyClass TidyAuto TidyRight SpecFiner SpecRight PairMath First FirstTidy FirstI FirstK Alike EqI

noncomputable def emptyV (r : R) : Bool := okB r && !(firstX (tidL (toL r))).isSome
def emptyC (r : R) : Int := if okB r = true then 0 else 1
/-- The relation without tuples. -/
def noL (k : Nat) : L := ⟨k, 0, [false], [List.replicate (wide k) 0]⟩
theorem noL_ok {k : Nat} (h1 : 1 ≤ k) (h3 : k ≤ 3) : okB (relOf (noL k)) = true ∧ toL (relOf (noL k)) = noL k := by
  have : k = 1 ∨ k = 2 ∨ k = 3 := by omega
  rcases this with rfl | rfl | rfl
  all_goals exact ⟨by decide, rfl⟩
theorem r_k {r : R} (h : okB r = true) : ∃ k : Nat, r.tapes = (k : Int) ∧ 1 ≤ k ∧ k ≤ 3 ∧ (toL r).k = k := by
  have e := (okL' h).1
  refine ⟨(toL r).k, ?_, e.2.k0, e.2.k3, rfl⟩
  have := congrArg R.tapes e.1
  exact this.symm
theorem eq_no {r : R} {k : Nat} (h : okB r = true) (hk : r.tapes = (k : Int)) (h1 : 1 ≤ k) (h3 : k ≤ 3) : alikeC r (relOf (noL k)) = 0 ∧ eqV r (relOf (noL k)) = emptyV r := by
  obtain ⟨n1, n2⟩ := noL_ok h1 h3
  have h0 : alikeC r (relOf (noL k)) = 0 := by
    unfold alikeC
    rw [if_pos h, if_pos n1, if_pos (show r.tapes = (relOf (noL k)).tapes from hk)]
  refine ⟨h0, ?_⟩
  have e := (okL' h).1
  have en := (okL' n1).1.2
  rw [n2] at en
  have hkl : (toL r).k = (noL k).k := by show r.tapes.toNat = k; rw [hk]; rfl
  have hx : firstX (tidL (toL r)) = firstPP ne2 (toL r) (noL k) := by
    refine firstX_congr rfl fun p hp => ?_
    rw [none_takes en (fun b hb => by
      have : b ∈ [false] := hb
      simpa using this) p (by rw [← hkl]; exact hp)]
    show Tk (toL r) p = _
    unfold ne2
    cases Tk (toL r) p <;> rfl
  unfold eqV emptyV apartB
  rw [decide_eq_true h0, h, n2, hx]
end Go.Proofs.Ytpnlocnbcdgamaa.EmptyK
