
/- How a list of numbers that a law is given reads in memory.
   Conditions: none. -/
import Derived.Test.YticpmakpajnilaaRead
namespace Go.Proofs.Yticpmakpajnilaa.ReadI
open Go.RowKit Mem Rel Readings Go.Joins Go.Deep Go.ChangeShapes Go.WideShapes

theorem read_ints {H : Type} {enc : TypeId × Value → H} {w : World} {r : Reach} {b0 : Nat} {v : Value} {d : DataW H} {p : List MemPlace} (hv : Value.okWide Try.prog w r b0 41 v)
    (h : DataW.Trod enc Try.prog w 0 (fun _ => true) true 41 v d p) : ∃ xs, Ints w w.heap.size v xs := by
  obtain ⟨a0, len0, cap0, rfl⟩ := okWide_slice Try.underlying41 hv
  obtain ⟨fuel, hf⟩ := h
  rcases open_ints Try.underlying41 Try.underlying2 (by kernel_rfl) hf with ⟨hcs, _⟩ | ⟨a, len, cap, zs, hcs, _, hl, hm, hz, _, hcell, _⟩
  · simp [Value.cells] at hcs
    obtain ⟨rfl, rfl, rfl⟩ := hcs
    exact ⟨[], Sl_nil _ _ _ _ _⟩
  · simp [Value.cells] at hcs
    obtain ⟨rfl, rfl, rfl⟩ := hcs
    simp only [if_true] at hz
    have hlen : (zs.take len0).length = len0 := by rw [List.length_take]; omega
    have hg : ∀ i, i < len0 → (zs.take len0).getD i 0 = zs.getD i 0 := fun i hi => by simp [List.getD, hi]
    refine ⟨zs.take len0, ?_⟩
    unfold Ints
    rw [hlen]
    exact Sl_of_addr (by omega) fun i hi => by rw [hcell i (by omega), hg i hi]
end Go.Proofs.Yticpmakpajnilaa.ReadI
