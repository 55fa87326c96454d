
/- How the arguments of the laws read in memory: relations, lists of numbers.
   Conditions: none. -/
import Derived.Test.YtaimealknkhfbaaDoorRB4
import Derived.Lib.SmallJoins
import Derived.Deep.Matrix
import Derived.Deep.Grids
namespace Go.Proofs.YtaimealknkhfbaaDoor.Readings
set_option linter.unusedVariables false
set_option maxRecDepth 20000
set_option linter.unusedSimpArgs false
open Go.RowKit Mem Rel Go.Joins Go.Deep Go.ChangeShapes Go.WideShapes

theorem Sl_of_addr {w : World} {a : Addr} {n cap : Nat} {f : Nat → Value} (hm : n ≤ maxLen) (h : ∀ i, i < n → w.cell? (a.add i) = some (f i)) : Sl w w.heap.size (.slice (some a) n cap) n f := by
  obtain ⟨b, off, spot⟩ := a
  by_cases h0 : n = 0
  · subst h0
    exact ⟨_, 0, 0, cap, rfl, hm, fun h => absurd h (Nat.lt_irrefl 0), fun i hi => absurd hi (Nat.not_lt_zero i)⟩
  · have hspot : spot = none := by
      have := World.cell?_spot (h 0 (by omega))
      simpa [Addr.add] using this
    subst hspot
    have hp : ∀ i, (⟨b, off, none⟩ : Addr).add i = ⟨b, off + i, none⟩ := by intro i; unfold Addr.add; split <;> simp_all
    refine ⟨_, b, off, cap, rfl, hm, fun _ => ⟨rfl, ?_⟩, fun i hi => ?_⟩
    · have := World.block_lt_of_cell? w _ (h 0 (by omega))
      rwa [hp] at this
    · have := h i hi
      rwa [hp] at this

theorem Sl_nil (w : World) (B : Nat) (a : Option Addr) (cap : Nat) (f : Nat → Value) : Sl w B (.slice a 0 cap) 0 f :=
  ⟨a, 0, 0, cap, rfl, Nat.zero_le _, fun h => absurd h (Nat.lt_irrefl 0), fun i hi => absurd hi (Nat.not_lt_zero i)⟩

section
variable {H : Type} {enc : TypeId × Value → H} {w : World}

theorem read_bools {fuel : Nat} {v : Value} {x : DataW H × List MemPlace} (h : DataW.trod enc Tryd.prog w 0 (fun _ => true) true fuel 22 [v] = some x) : ∃ bs, Bools w w.heap.size v bs := by
  rcases open_bools Tryd.underlying22 Tryd.underlying4 (by kernel_rfl) h with ⟨hcs, _⟩ | ⟨a, len, cap, Z, hcs, _, hl, hm, _, hcell⟩
  · simp at hcs; subst hcs
    exact ⟨[], Sl_nil _ _ _ _ _⟩
  · simp at hcs; subst hcs
    refine ⟨(List.range len).map Z, ?_⟩
    unfold Bools
    simp only [List.length_map, List.length_range]
    refine Sl_of_addr (by omega) fun i hi => ?_
    rw [hcell i (by simpa using (by omega : i < cap))]
    simp [List.getD, hi]

theorem read_rows {fuel : Nat} {v : Value} {x : DataW H × List MemPlace} (h : DataW.trod enc Tryd.prog w 0 (fun _ => true) true fuel 23 [v] = some x) : ∃ xss, IntRows w w.heap.size v xss := by
  rcases open_int_rows Tryd.underlying23 Tryd.underlying52 Tryd.underlying2 (by kernel_rfl) (by kernel_rfl) h with ⟨hcs, _⟩ | ⟨a, len, cap, A, L, C, Z, hcs, _, hl, hm, _, hcell⟩
  · simp at hcs; subst hcs
    exact ⟨[], fun _ => .slice none 0 0, Sl_nil _ _ _ _ _, fun i hi => absurd hi (Nat.not_lt_zero i)⟩
  · simp at hcs; subst hcs
    refine ⟨(List.range len).map fun r => (Z r).take (L r), fun r => .slice (A r) (L r) (C r), ?_, fun i hi => ?_⟩
    · simp only [List.length_map, List.length_range]
      exact Sl_of_addr (by omega) fun i hi => (hcell i (by omega)).1
    · simp only [List.length_map, List.length_range] at hi
      obtain ⟨_, h2, h3, h4, _, h6, h7⟩ := hcell i (by omega)
      have e : ((List.range len).map fun r => (Z r).take (L r)).getD i [] = (Z i).take (L i) := by simp [List.getD, hi]
      rw [e]
      unfold Ints
      have hlen : ((Z i).take (L i)).length = L i := by rw [List.length_take]; omega
      rw [hlen]
      show Sl w w.heap.size (.slice (A i) (L i) (C i)) (L i) _
      cases hA : A i with
      | none =>
        have := h6 hA
        have h0 : L i = 0 := by omega
        rw [h0]
        exact Sl_nil _ _ _ _ _
      | some a' =>
        refine Sl_of_addr (n := L i) (by omega) fun j hj => ?_
        rw [(h7 a' hA).2 j (by omega)]
        simp [List.getD, hj]

theorem read_rel {r : Reach} {b0 : Nat} {v : Value} {d : DataW H} {p : List MemPlace} (hv : Value.okWide Tryd.prog w r b0 25 v) (h : DataW.Trod enc Tryd.prog w 0 (fun _ => true) true 25 v d p) :
    ∃ R, RelAt w w.heap.size v R := by
  obtain ⟨v0, v1, v2, v3, y0, y1, y2, y3, n, rfl, _, _, h0, h1, h2, h3⟩ := open_agg4 Tryd.underlying25 (by kernel_rfl) (by kernel_rfl) hv h
  obtain ⟨t, e0, _, _⟩ := DataW.trod_int Tryd.underlying2 h0
  obtain ⟨s, e1, _, _⟩ := DataW.trod_int Tryd.underlying2 h1
  simp at e0 e1
  subst e0 e1
  obtain ⟨bs, hb⟩ := read_bools h2
  obtain ⟨xss, hx⟩ := read_rows h3
  exact ⟨⟨t, s, bs, xss⟩, v2, v3, rfl, hb, hx⟩
end
end Go.Proofs.YtaimealknkhfbaaDoor.Readings
