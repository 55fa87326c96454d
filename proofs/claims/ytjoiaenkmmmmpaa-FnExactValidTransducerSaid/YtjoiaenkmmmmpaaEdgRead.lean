
/- How a transducer that is a law's argument reads in memory.
   Conditions: none. -/
import Derived.Test.YtjoiaenkmmmmpaaEdg
import Derived.Test.YtjoiaenkmmmmpaaRead
import Derived.Deep.Fields
import Derived.ChangeSame
namespace Go.Proofs.Ytjoiaenkmmmmpaa.EdgRead
set_option linter.unusedVariables false
set_option maxRecDepth 20000
set_option linter.unusedSimpArgs false
open Go.RowKit Mem Rel Edg Readings Go.Joins Go.Deep Go.ChangeShapes Go.WideShapes

theorem cells4 {P : Program} (hC : P.cellsOf 78 = 4) {cs : List Value} (h : cs.length = P.cellsOf 78) : ∃ a b c d, cs = [a, b, c, d] := by
  rw [hC] at h
  match cs, h with
  | [a, b, c, d], _ => exact ⟨a, b, c, d, rfl⟩

section
variable {H : Type} {enc : TypeId × Value → H} {w : World}

theorem read_edge {a : Addr} {fuel : Nat} {cs : List Value} {x : DataW H × List MemPlace} (hc : w.cells? 0 a (Try.prog.cellsOf 78) = some cs) (h : DataW.trod enc Try.prog w 0 (fun _ => true) true fuel 78 cs = some x) :
    ∃ e : E, e.Fits ∧ w.cell? (a.add 0) = some (.int .i64 e.src) ∧ w.cell? (a.add 1) = some (.int .i64 e.dst) ∧ w.cell? (a.add 2) = some (.string e.inn) ∧ w.cell? (a.add 3) = some (.string e.out) := by
  have hC : Try.prog.cellsOf 78 = 4 := by kernel_rfl
  have hI : Try.prog.cellsOf 2 = 1 := by kernel_rfl
  have hS : Try.prog.cellsOf 9 = 1 := by kernel_rfl
  obtain ⟨ys, n, -, -, hl, hyl, hf⟩ := DataW.trod_struct Try.underlying78 h
  obtain ⟨-, -, hcell⟩ := World.cells?_some hc
  obtain ⟨c0, c1, c2, c3, rfl⟩ := cells4 hC hl
  rw [hC] at hcell
  match ys, hyl with
  | [y0, y1, y2, y3], _ =>
    have h0 : DataW.trod enc Try.prog w 0 (fun _ => true) true n 2 (List.take (Try.prog.cellsOf 2) [c0, c1, c2, c3]) = some y0 := hf 0 _ rfl
    have h1 : DataW.trod enc Try.prog w 0 (fun _ => true) true n 2 (List.take (Try.prog.cellsOf 2) [c1, c2, c3]) = some y1 := hf 1 _ rfl
    have h2 : DataW.trod enc Try.prog w 0 (fun _ => true) true n 9 (List.take (Try.prog.cellsOf 9) [c2, c3]) = some y2 := hf 2 _ rfl
    have h3 : DataW.trod enc Try.prog w 0 (fun _ => true) true n 9 (List.take (Try.prog.cellsOf 9) [c3]) = some y3 := hf 3 _ rfl
    rw [hI] at h0 h1
    rw [hS] at h2 h3
    obtain ⟨n0, e0, -, -⟩ := DataW.trod_int Try.underlying2 h0
    obtain ⟨n1, e1, -, -⟩ := DataW.trod_int Try.underlying2 h1
    obtain ⟨s2, e2, -, m2⟩ := DataW.trod_string Try.underlying9 h2
    obtain ⟨s3, e3, -, m3⟩ := DataW.trod_string Try.underlying9 h3
    simp at e0 e1 e2 e3
    subst e0 e1 e2 e3
    exact ⟨⟨n0, n1, s2, s3⟩, ⟨m2, m3⟩, hcell 0 (by omega), hcell 1 (by omega), hcell 2 (by omega), hcell 3 (by omega)⟩

theorem add_add' (a : Addr) (i j : Nat) : (a.add i).add j = a.add (i + j) := by
  unfold Addr.add
  by_cases hi : i = 0 <;> by_cases hj : j = 0 <;> simp [hi, hj, Nat.add_assoc]

theorem edges_of_addr {a : Addr} {n cap : Nat} {e : Nat → E} (hm : n ≤ maxLen)
    (h : ∀ i, i < n → (e i).Fits ∧ ∀ j v, (j = 0 ∧ v = .int .i64 (e i).src) ∨ (j = 1 ∧ v = .int .i64 (e i).dst) ∨ (j = 2 ∧ v = .string (e i).inn) ∨ (j = 3 ∧ v = .string (e i).out) → w.cell? (a.add (i * 4 + j)) = some v) :
    Edges w w.heap.size (.slice (some a) n cap) ((List.range n).map e) := by
  have hg : ∀ i, i < n → ((List.range n).map e).getD i noE = e i := fun i hi => by simp [List.getD, hi]
  obtain ⟨b, off, spot⟩ := a
  unfold Edges
  simp only [List.length_map, List.length_range]
  by_cases h0 : n = 0
  · subst h0
    exact ⟨_, 0, 0, cap, rfl, hm, fun h => absurd h (Nat.lt_irrefl 0), fun i hi => absurd hi (Nat.not_lt_zero i)⟩
  · have hz := (h 0 (by omega)).2 0 _ (.inl ⟨rfl, rfl⟩)
    have hspot : spot = none := by
      have := World.cell?_spot hz
      simpa [Addr.add] using this
    subst hspot
    have hp : ∀ i, (⟨b, off, none⟩ : Addr).add i = ⟨b, off + i, none⟩ := by intro i; unfold Addr.add; split <;> simp_all
    refine ⟨_, b, off, cap, rfl, hm, fun _ => ⟨rfl, ?_⟩, fun i hi => ?_⟩
    · have := World.block_lt_of_cell? w _ hz
      rwa [hp] at this
    · obtain ⟨hf, hc⟩ := h i hi
      rw [hg i hi]
      refine ⟨⟨?_, ?_, ?_, ?_⟩, hf⟩
      · have := hc 0 _ (.inl ⟨rfl, rfl⟩); rwa [hp] at this
      · have := hc 1 _ (.inr (.inl ⟨rfl, rfl⟩)); rwa [hp, ← Nat.add_assoc] at this
      · have := hc 2 _ (.inr (.inr (.inl ⟨rfl, rfl⟩))); rwa [hp, ← Nat.add_assoc] at this
      · have := hc 3 _ (.inr (.inr (.inr ⟨rfl, rfl⟩))); rwa [hp, ← Nat.add_assoc] at this

theorem read_edges {fuel : Nat} {v : Value} {x : DataW H × List MemPlace} (h : DataW.trod enc Try.prog w 0 (fun _ => true) true fuel 23 [v] = some x) : ∃ es, Edges w w.heap.size v es := by
  have hC : Try.prog.cellsOf 78 = 4 := by kernel_rfl
  rcases open_slice Try.underlying23 h with ⟨hcs, _⟩ | ⟨a, len, cap, m, n, D, Pl, hcs, _, hl, hm, hmm, _, hi⟩
  · simp at hcs; subst hcs
    exact ⟨[], none, 0, 0, 0, rfl, Nat.zero_le _, fun h => absurd h (Nat.lt_irrefl 0), fun i hi => absurd hi (Nat.not_lt_zero i)⟩
  · simp at hcs; subst hcs
    have hlm : len ≤ m := by rw [hmm]; simpa using hl
    have key : ∀ i, ∃ e : E, i < len → e.Fits ∧ w.cell? ((a.add (i * 4)).add 0) = some (.int .i64 e.src) ∧ w.cell? ((a.add (i * 4)).add 1) = some (.int .i64 e.dst) ∧ w.cell? ((a.add (i * 4)).add 2) = some (.string e.inn) ∧ w.cell? ((a.add (i * 4)).add 3) = some (.string e.out) := by
      intro i
      by_cases hil : i < len
      · obtain ⟨cs', hc', ht'⟩ := hi i (by omega)
        obtain ⟨e, h1, h2⟩ := read_edge hc' ht'
        rw [hC] at h2
        exact ⟨e, fun _ => ⟨h1, h2⟩⟩
      · exact ⟨noE, fun h => absurd h hil⟩
    refine ⟨(List.range len).map fun i => (key i).choose, edges_of_addr (by omega) fun i hil => ?_⟩
    obtain ⟨h1, h2, h3, h4, h5⟩ := (key i).choose_spec hil
    refine ⟨h1, fun j v hv => ?_⟩
    rw [← add_add']
    rcases hv with ⟨rfl, rfl⟩ | ⟨rfl, rfl⟩ | ⟨rfl, rfl⟩ | ⟨rfl, rfl⟩
    · exact h2
    · exact h3
    · exact h4
    · exact h5

theorem read_tr {r : Reach} {b0 : Nat} {v : Value} {d : DataW H} {p : List MemPlace} (hv : Value.okWide Try.prog w r b0 25 v) (h : DataW.Trod enc Try.prog w 0 (fun _ => true) true 25 v d p) :
    ∃ t, TrAt w w.heap.size v t := by
  obtain ⟨v0, v1, v2, y0, y1, y2, n, rfl, _, _, h0, h1, h2⟩ := open_agg3 Try.underlying25 (by kernel_rfl) (by kernel_rfl) hv h
  obtain ⟨s, e0, _, _⟩ := DataW.trod_int Try.underlying2 h0
  simp at e0
  subst e0
  obtain ⟨bs, hb⟩ := read_bools h1
  obtain ⟨es, he⟩ := read_edges h2
  exact ⟨⟨s, bs, es⟩, v1, v2, rfl, hb, he⟩
end
end Go.Proofs.Ytjoiaenkmmmmpaa.EdgRead
