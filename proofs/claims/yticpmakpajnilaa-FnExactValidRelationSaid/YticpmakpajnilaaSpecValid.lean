
/- What the model answers where it looks whether a relation is valid.
   Conditions: the relation is read as XRel's text says. -/
import Derived.Test.YticpmakpajnilaaValid
namespace Go.Proofs.Yticpmakpajnilaa.SpecValid
open Go.RowKit Mem Rel Columns Valid

theorem specValid (v : Value) (r : R) (w : World) (B : Nat) (h : RelAt w B v r) (hB : B ≤ w.heap.size) :
    Calls Try.prog 22 #[v] w fun e w' => e = .returned (.bool (okB r)) ∧ Below w.heap.size w w' := by
  obtain ⟨va, vn, rfl, ha, hn⟩ := h
  have HC := Lib.hid (specOk r w.heap.size _ B (RelPtr.boxed ha hn hB 34))
  clear ha hn
  go_enter Try.func22, Try.ntmps22
  go_wp2_with (go_at_call 61; refine (HC.out).mono ?_; rintro e w' ⟨rfl, n1, rfl⟩)
  go_ret
  exact ⟨rfl, below_drewN ((Below.refl _ _).alloc (Nat.le_refl _) _) _⟩

end Go.Proofs.Yticpmakpajnilaa.SpecValid
