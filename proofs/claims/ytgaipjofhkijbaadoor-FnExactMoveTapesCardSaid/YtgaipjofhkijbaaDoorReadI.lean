
/- How a list of numbers that a law is given reads in memory.
   Conditions: none. -/
import Derived.Test.YtgaipjofhkijbaaDoorIM26
namespace Go.Proofs.YtgaipjofhkijbaaDoor.ReadI
set_option maxRecDepth 100000
open Go.RowKit Mem Rel Readings Go.Joins Go.Deep Go.ChangeShapes Go.WideShapes

theorem read_ints {H : Type} {enc : TypeId × Value → H} {w : World} {r : Reach} {b0 : Nat} {v : Value} {d : DataW H} {p : List MemPlace} (hv : Value.okWide Tryd.prog w r b0 34 v)
    (h : DataW.Trod enc Tryd.prog w 0 (fun _ => true) true 34 v d p) : ∃ xs, Ints w w.heap.size v xs := by
  obtain ⟨a0, len0, cap0, rfl⟩ := okWide_slice Tryd.underlying34 hv
  obtain ⟨fuel, hf⟩ := h
  rcases open_ints Tryd.underlying34 Tryd.underlying2 (by kernel_rfl) hf with ⟨hcs, _⟩ | ⟨a, len, cap, zs, hcs, _, hl, hm, hz, _, hcell, _⟩
  · simp [Value.cells] at hcs
    obtain ⟨rfl, rfl, rfl⟩ := hcs
    exact ⟨[], Sl_nil _ _ _ _ _⟩
  · simp [Value.cells] at hcs
    obtain ⟨rfl, rfl, rfl⟩ := hcs
    simp only [if_true] at hz
    have hlen : (zs.take len0).length = len0 := by rw [List.length_take]; omega
    have hg : ∀ i, i < len0 → (zs.take len0).getD i 0 = zs.getD i 0 := fun i hi => by simp [List.getD, hi]
    refine ⟨zs.take len0, ?_⟩
    unfold Ints
    rw [hlen]
    exact Sl_of_addr (by omega) fun i hi => by rw [hcell i (by omega), hg i hi]
end Go.Proofs.YtgaipjofhkijbaaDoor.ReadI
