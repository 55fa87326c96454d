
/- How an argument that is a list of texts reads in memory.
   Conditions: none. -/
import Derived.Test.YticpmakpajnilaaRead
import Derived.Test.YticpmakpajnilaaStrs
namespace Go.Proofs.Yticpmakpajnilaa.ReadS
open Go.RowKit Mem Rel Readings Strs Go.Joins Go.Deep Go.ChangeShapes Go.WideShapes

theorem read_strs {H : Type} {enc : TypeId × Value → H} {w : World} {r : Reach} {b0 : Nat} {v : Value} {d : DataW H} {p : List MemPlace} (hv : Value.okWide Try.prog w r b0 39 v)
    (h : DataW.Trod enc Try.prog w 0 (fun _ => true) true 39 v d p) : ∃ ss, StrsAt w w.heap.size v ss := by
  obtain ⟨a0, len0, cap0, rfl⟩ := okWide_slice Try.underlying39 hv
  obtain ⟨fuel, hf⟩ := h
  rcases open_strings Try.underlying39 Try.underlying9 (by kernel_rfl) hf with ⟨hcs, _⟩ | ⟨a, len, cap, ss, hcs, _, hl, hm, hz, _, hcell, hws⟩
  · simp [Value.cells] at hcs
    obtain ⟨rfl, rfl, rfl⟩ := hcs
    exact ⟨[], Sl_nil _ _ _ _ _, fun i hi => absurd hi (Nat.not_lt_zero i)⟩
  · simp [Value.cells] at hcs
    obtain ⟨rfl, rfl, rfl⟩ := hcs
    simp only [if_true] at hz
    have hlen : (ss.take len0).length = len0 := by rw [List.length_take]; omega
    have hg : ∀ i, i < len0 → (ss.take len0).getD i ByteArray.empty = ss.getD i ByteArray.empty := fun i hi => by simp [List.getD, hi]
    refine ⟨ss.take len0, ?_, fun i hi => ?_⟩
    · rw [hlen]
      exact Sl_of_addr (by omega) fun i hi => by rw [hcell i (by omega), hg i hi]
    · rw [hlen] at hi
      rw [hg i hi]
      have e : ss.getD i ByteArray.empty = ss[i]'(by omega) := by simp [List.getD, (by omega : i < ss.length)]
      rw [e]
      exact hws _ (List.getElem_mem _)
end Go.Proofs.Yticpmakpajnilaa.ReadS
