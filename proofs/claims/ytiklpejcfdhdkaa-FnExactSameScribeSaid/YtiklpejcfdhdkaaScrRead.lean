
/- How a scribe that is a law's argument reads in memory.
   Conditions: none. -/
import Derived.Test.YtiklpejcfdhdkaaScr
import Derived.Test.YtiklpejcfdhdkaaRead
import Derived.OpenShut
import Derived.Deep.Fields
import Derived.ChangeSame
namespace Go.Proofs.Ytiklpejcfdhdkaa.ScrRead
set_option linter.unusedVariables false
set_option maxRecDepth 20000
set_option linter.unusedSimpArgs false
open Go.RowKit Mem Rel Scr Readings Go.Joins Go.Deep Go.ChangeShapes Go.WideShapes

theorem add_add' (a : Addr) (i j : Nat) : (a.add i).add j = a.add (i + j) := by
  unfold Addr.add
  by_cases hi : i = 0 <;> by_cases hj : j = 0 <;> simp [hi, hj, Nat.add_assoc]
section
variable {H : Type} {enc : TypeId × Value → H} {w : World}

theorem cells2I {P : Program} (hC : P.cellsOf 54 = 2) {cs : List Value} (h : cs.length = P.cellsOf 54) : ∃ a b, cs = [a, b] := by
  rw [hC] at h
  match cs, h with
  | [a, b], _ => exact ⟨a, b, rfl⟩
theorem read_pairI {a : Addr} {fuel : Nat} {cs : List Value} {x : DataW H × List MemPlace} (hc : w.cells? 0 a (Try.prog.cellsOf 54) = some cs) (h : DataW.trod enc Try.prog w 0 (fun _ => true) true fuel 54 cs = some x) :
    ∃ e : ArrI.D, e.Fits ∧ w.cell? (a.add 0) = some (.int .i64 e.x) ∧ w.cell? (a.add 1) = some (.int .i64 e.y) := by
  have hC : Try.prog.cellsOf 54 = 2 := by kernel_rfl
  have hI : Try.prog.cellsOf 2 = 1 := by kernel_rfl
  obtain ⟨ys, n, -, -, hl, hyl, hf⟩ := DataW.trod_array Try.underlying54 h
  obtain ⟨-, -, hcell⟩ := World.cells?_some hc
  obtain ⟨c0, c1, rfl⟩ := cells2I hC hl
  rw [hC] at hcell
  match ys, hyl with
  | [y0, y1], _ =>
  have h0 := hf 0 (by decide)
  have h1 := hf 1 (by decide)
  rw [hI] at h0 h1
  simp only [Nat.zero_mul, Nat.one_mul, List.drop_zero, List.drop_succ_cons, List.take_succ_cons, List.take_zero, List.getElem?_cons_zero, List.getElem?_cons_succ] at h0 h1
  obtain ⟨n0, e0, -, -⟩ := DataW.trod_int Try.underlying2 h0
  obtain ⟨n1, e1, -, -⟩ := DataW.trod_int Try.underlying2 h1
  simp at e0 e1
  subst e0 e1
  exact ⟨⟨n0, n1⟩, True.intro, hcell 0 (by omega), hcell 1 (by omega)⟩

theorem ds_of_addrI {a : Addr} {n cap : Nat} {e : Nat → ArrI.D} (hm : n ≤ maxLen)
    (h : ∀ i, i < n → (e i).Fits ∧ w.cell? (a.add (i * 2 + 0)) = some (.int .i64 (e i).x) ∧ w.cell? (a.add (i * 2 + 1)) = some (.int .i64 (e i).y)) :
    ArrI.Ds w w.heap.size (.slice (some a) n cap) ((List.range n).map e) := by
  have hg : ∀ i, i < n → ((List.range n).map e).getD i ArrI.noD = e i := fun i hi => by simp [List.getD, hi]
  obtain ⟨b, off, spot⟩ := a
  unfold ArrI.Ds
  simp only [List.length_map, List.length_range]
  by_cases h0 : n = 0
  · subst h0
    exact ⟨_, 0, 0, cap, rfl, hm, fun h => absurd h (Nat.lt_irrefl 0), fun i hi => absurd hi (Nat.not_lt_zero i)⟩
  · have hz := (h 0 (by omega)).2.1
    have hspot : spot = none := by
      have := World.cell?_spot hz
      simpa [Addr.add] using this
    subst hspot
    have hp : ∀ i, (⟨b, off, none⟩ : Addr).add i = ⟨b, off + i, none⟩ := by intro i; unfold Addr.add; split <;> simp_all
    refine ⟨_, b, off, cap, rfl, hm, fun _ => ⟨rfl, ?_⟩, fun i hi => ?_⟩
    · have := World.block_lt_of_cell? w _ hz
      rwa [hp] at this
    · obtain ⟨hf, h1, h2⟩ := h i hi
      rw [hg i hi]
      refine ⟨⟨?_, ?_⟩, hf⟩
      · rwa [hp] at h1
      · rwa [hp, ← Nat.add_assoc] at h2

theorem read_dsI {fuel : Nat} {v : Value} {x : DataW H × List MemPlace} (h : DataW.trod enc Try.prog w 0 (fun _ => true) true fuel 23 [v] = some x) : ∃ es, ArrI.Ds w w.heap.size v es := by
  have hC : Try.prog.cellsOf 54 = 2 := by kernel_rfl
  rcases open_slice Try.underlying23 h with ⟨hcs, _⟩ | ⟨a, len, cap, m, n, D, Pl, hcs, _, hl, hm, hmm, _, hi⟩
  · simp at hcs; subst hcs
    exact ⟨[], none, 0, 0, 0, rfl, Nat.zero_le _, fun h => absurd h (Nat.lt_irrefl 0), fun i hi => absurd hi (Nat.not_lt_zero i)⟩
  · simp at hcs; subst hcs
    have hlm : len ≤ m := by rw [hmm]; simpa using hl
    have key : ∀ i, ∃ e : ArrI.D, i < len → e.Fits ∧ w.cell? ((a.add (i * 2)).add 0) = some (.int .i64 e.x) ∧ w.cell? ((a.add (i * 2)).add 1) = some (.int .i64 e.y) := by
      intro i
      by_cases hil : i < len
      · obtain ⟨cs', hc', ht'⟩ := hi i (by omega)
        obtain ⟨e, h1, h2⟩ := read_pairI hc' ht'
        rw [hC] at h2
        exact ⟨e, fun _ => ⟨h1, h2⟩⟩
      · exact ⟨ArrI.noD, fun h => absurd h hil⟩
    refine ⟨(List.range len).map fun i => (key i).choose, ds_of_addrI (by omega) fun i hil => ?_⟩
    obtain ⟨h1, h2, h3⟩ := (key i).choose_spec hil
    exact ⟨h1, by rw [← add_add']; exact h2, by rw [← add_add']; exact h3⟩

theorem cells2S {P : Program} (hC : P.cellsOf 55 = 2) {cs : List Value} (h : cs.length = P.cellsOf 55) : ∃ a b, cs = [a, b] := by
  rw [hC] at h
  match cs, h with
  | [a, b], _ => exact ⟨a, b, rfl⟩
theorem read_pairS {a : Addr} {fuel : Nat} {cs : List Value} {x : DataW H × List MemPlace} (hc : w.cells? 0 a (Try.prog.cellsOf 55) = some cs) (h : DataW.trod enc Try.prog w 0 (fun _ => true) true fuel 55 cs = some x) :
    ∃ e : ArrS.D, e.Fits ∧ w.cell? (a.add 0) = some (.string e.x) ∧ w.cell? (a.add 1) = some (.string e.y) := by
  have hC : Try.prog.cellsOf 55 = 2 := by kernel_rfl
  have hI : Try.prog.cellsOf 9 = 1 := by kernel_rfl
  obtain ⟨ys, n, -, -, hl, hyl, hf⟩ := DataW.trod_array Try.underlying55 h
  obtain ⟨-, -, hcell⟩ := World.cells?_some hc
  obtain ⟨c0, c1, rfl⟩ := cells2S hC hl
  rw [hC] at hcell
  match ys, hyl with
  | [y0, y1], _ =>
  have h0 := hf 0 (by decide)
  have h1 := hf 1 (by decide)
  rw [hI] at h0 h1
  simp only [Nat.zero_mul, Nat.one_mul, List.drop_zero, List.drop_succ_cons, List.take_succ_cons, List.take_zero, List.getElem?_cons_zero, List.getElem?_cons_succ] at h0 h1
  obtain ⟨n0, e0, -, m0⟩ := DataW.trod_string Try.underlying9 h0
  obtain ⟨n1, e1, -, m1⟩ := DataW.trod_string Try.underlying9 h1
  simp at e0 e1
  subst e0 e1
  exact ⟨⟨n0, n1⟩, ⟨m0, m1⟩, hcell 0 (by omega), hcell 1 (by omega)⟩

theorem ds_of_addrS {a : Addr} {n cap : Nat} {e : Nat → ArrS.D} (hm : n ≤ maxLen)
    (h : ∀ i, i < n → (e i).Fits ∧ w.cell? (a.add (i * 2 + 0)) = some (.string (e i).x) ∧ w.cell? (a.add (i * 2 + 1)) = some (.string (e i).y)) :
    ArrS.Ds w w.heap.size (.slice (some a) n cap) ((List.range n).map e) := by
  have hg : ∀ i, i < n → ((List.range n).map e).getD i ArrS.noD = e i := fun i hi => by simp [List.getD, hi]
  obtain ⟨b, off, spot⟩ := a
  unfold ArrS.Ds
  simp only [List.length_map, List.length_range]
  by_cases h0 : n = 0
  · subst h0
    exact ⟨_, 0, 0, cap, rfl, hm, fun h => absurd h (Nat.lt_irrefl 0), fun i hi => absurd hi (Nat.not_lt_zero i)⟩
  · have hz := (h 0 (by omega)).2.1
    have hspot : spot = none := by
      have := World.cell?_spot hz
      simpa [Addr.add] using this
    subst hspot
    have hp : ∀ i, (⟨b, off, none⟩ : Addr).add i = ⟨b, off + i, none⟩ := by intro i; unfold Addr.add; split <;> simp_all
    refine ⟨_, b, off, cap, rfl, hm, fun _ => ⟨rfl, ?_⟩, fun i hi => ?_⟩
    · have := World.block_lt_of_cell? w _ hz
      rwa [hp] at this
    · obtain ⟨hf, h1, h2⟩ := h i hi
      rw [hg i hi]
      refine ⟨⟨?_, ?_⟩, hf⟩
      · rwa [hp] at h1
      · rwa [hp, ← Nat.add_assoc] at h2

theorem read_dsS {fuel : Nat} {v : Value} {x : DataW H × List MemPlace} (h : DataW.trod enc Try.prog w 0 (fun _ => true) true fuel 24 [v] = some x) : ∃ es, ArrS.Ds w w.heap.size v es := by
  have hC : Try.prog.cellsOf 55 = 2 := by kernel_rfl
  rcases open_slice Try.underlying24 h with ⟨hcs, _⟩ | ⟨a, len, cap, m, n, D, Pl, hcs, _, hl, hm, hmm, _, hi⟩
  · simp at hcs; subst hcs
    exact ⟨[], none, 0, 0, 0, rfl, Nat.zero_le _, fun h => absurd h (Nat.lt_irrefl 0), fun i hi => absurd hi (Nat.not_lt_zero i)⟩
  · simp at hcs; subst hcs
    have hlm : len ≤ m := by rw [hmm]; simpa using hl
    have key : ∀ i, ∃ e : ArrS.D, i < len → e.Fits ∧ w.cell? ((a.add (i * 2)).add 0) = some (.string e.x) ∧ w.cell? ((a.add (i * 2)).add 1) = some (.string e.y) := by
      intro i
      by_cases hil : i < len
      · obtain ⟨cs', hc', ht'⟩ := hi i (by omega)
        obtain ⟨e, h1, h2⟩ := read_pairS hc' ht'
        rw [hC] at h2
        exact ⟨e, fun _ => ⟨h1, h2⟩⟩
      · exact ⟨ArrS.noD, fun h => absurd h hil⟩
    refine ⟨(List.range len).map fun i => (key i).choose, ds_of_addrS (by omega) fun i hil => ?_⟩
    obtain ⟨h1, h2, h3⟩ := (key i).choose_spec hil
    exact ⟨h1, by rw [← add_add']; exact h2, by rw [← add_add']; exact h3⟩

theorem read_sc {r : Reach} {b0 : Nat} {v : Value} {d : DataW H} {p : List MemPlace} (hv : Value.okWide Try.prog w r b0 26 v) (h : DataW.Trod enc Try.prog w 0 (fun _ => true) true 26 v d p) :
    ∃ x, ScAt w w.heap.size v x := by
  obtain ⟨v0, v1, v2, y0, y1, y2, n, rfl, _, _, h0, h1, h2⟩ := open_agg3 Try.underlying26 (by kernel_rfl) (by kernel_rfl) hv h
  obtain ⟨bs, hb⟩ := read_bools h0
  obtain ⟨ds, hd⟩ := read_dsI h1
  obtain ⟨es, he⟩ := read_dsS h2
  exact ⟨⟨bs, ds, es⟩, v0, v1, v2, rfl, hb, hd, he⟩
end
end Go.Proofs.Ytiklpejcfdhdkaa.ScrRead
