
/- What the model's function that makes the automaton of right columns hands back.
   Conditions: the relation has the form that is asked, and at most 100000 states. -/
import Derived.Test.YtaimealknkhfbaaDoorRB7
import Derived.Test.YtaimealknkhfbaaDoorRB6
import Derived.Deep.RegionWith
import Derived.Deep.QuietTactic
import Derived.BigQuiet
import Derived.Deep.DeepCutAuto
import Derived.StillTailTactics
namespace Go.Proofs.YtaimealknkhfbaaDoor.SpecRight
set_option linter.unusedVariables false
set_option linter.unusedSimpArgs false
open Go.RowKit Mem Copy Rel Valid Heap Columns TidyMath TidyClass TidyAuto TidyRight SpecFiner SpecEnded Bld

/-- A relation as Go has it. -/
def relOf (l : L) : R := ⟨l.k, l.start, l.acc, l.nx.map ofN⟩
/-- A place as a number, and back. -/
def code (z : Nat) (p : Nat × Nat) : Nat := p.1 * z + p.2
def place (z x : Nat) : Nat × Nat := (x / z, x % z)
theorem place_code {z : Nat} {p : Nat × Nat} (h : p.2 < z) : place z (code z p) = p := by
  unfold place code
  refine Prod.ext ?_ ?_
  · show (p.1 * z + p.2) / z = p.1
    rw [Nat.mul_comm, Nat.mul_add_div (by omega), Nat.div_eq_of_lt h, Nat.add_zero]
  · show (p.1 * z + p.2) % z = p.2
    rw [Nat.mul_comm, Nat.mul_add_mod, Nat.mod_eq_of_lt h]
theorem code_place (z x : Nat) : code z (place z x) = x := by
  unfold place code
  rw [Nat.mul_comm]; exact Nat.div_add_mod x z
theorem code_lt {z n : Nat} {p : Nat × Nat} (h1 : p.1 < n) (h2 : p.2 < z) : code z p < n * z := by
  unfold code
  calc p.1 * z + p.2 < p.1 * z + z := by omega
    _ = (p.1 + 1) * z := by rw [Nat.add_mul, Nat.one_mul]
    _ ≤ n * z := Nat.mul_le_mul_right z h1
/-- The table of numbers of places. -/
def numT (z : Nat) (l : List (Nat × Nat)) (x : Nat) : Int := if idx id l (place z x) < l.length then ((idx id l (place z x) : Nat) : Int) else -1
/-- The list of places. -/
def cv (z : Nat) (l : List (Nat × Nat)) : List Nat := l.map (code z)
theorem cv_length (z : Nat) (l : List (Nat × Nat)) : (cv z l).length = l.length := by simp [cv]
theorem cv_get (z : Nat) (l : List (Nat × Nat)) {i : Nat} (h : i < l.length) : (cv z l).getD i 0 = code z l[i] := by simp [cv, List.getD, h]
theorem numT_none {z : Nat} {x : Nat} : numT z [] x = -1 := by simp [numT, idx]
theorem numT_meet {z : Nat} {l : List (Nat × Nat)} {p : Nat × Nat} (hp : p.2 < z) (hn : ¬ idx id l p < l.length) (x : Nat) : numT z (meet id l p) x = if x = code z p then (l.length : Int) else numT z l x := by
  have hm : meet id l p = l ++ [p] := by unfold meet; rw [if_neg hn]
  rw [hm]
  have hil : idx id l p = l.length := by have := idx_le id l p; omega
  by_cases e : x = code z p
  · rw [if_pos e, e]
    unfold numT
    rw [place_code hp]
    have h1 : idx id (l ++ [p]) p = l.length := by rw [idx_snoc, hil]
    rw [h1, if_pos (by simp)]
  · rw [if_neg e]
    have hne : place z x ≠ p := fun h => e (by rw [← h, code_place])
    unfold numT
    by_cases h : idx id l (place z x) < l.length
    · rw [idx_append id h, if_pos h, if_pos (by rw [List.length_append]; omega)]
    · have h2 : ¬ idx id (l ++ [p]) (place z x) < (l ++ [p]).length := by
        intro hc
        have hk := idx_key id hc
        have hm : (l ++ [p])[idx id (l ++ [p]) (place z x)] ∈ l ++ [p] := List.getElem_mem hc
        rw [show (l ++ [p])[idx id (l ++ [p]) (place z x)] = place z x from hk] at hm
        rcases List.mem_append.1 hm with hm | hm
        · exact h (idx_lt_of_mem id hm rfl)
        · rw [List.mem_singleton] at hm; exact hne hm
      rw [if_neg h, if_neg h2]
theorem quiet_of {P : Program} {f : FuncId} {args : Array Value} {v : Value} (W : World) (h : ∀ W, Calls P f args W fun e w' => e = .returned v ∧ W = w') :
    ∀ q, Calls P f args (W.drewN q) fun e w' => e = .returned v ∧ ∃ n, w' = (W.drewN q).drewN n :=
  fun q => (h _).mono fun _ _ ⟨he, hw⟩ => ⟨he, 0, by rw [← hw]; rfl⟩
/-- A row on the way: -1 for what is not right. -/
def row0 (l : L) (p : Nat × Nat) : List Int := (succR l p).map fun | some q => (num l q : Int) | none => -1
theorem row0_length (l : L) (p : Nat × Nat) : (row0 l p).length = wide l.k := by unfold row0; rw [List.length_map, succR_length]

/-- What one column more does to the list of places and to the row. -/
theorem part_no {l : L} {i c : Nat} (hib : i < (places l i).length) (hc : c < wide l.k) (h : fol (places l i)[i].2 (pd l.k c) = false) :
    TidyClass.part id (succR l) (l.start, 0) i (c + 1) = TidyClass.part id (succR l) (l.start, 0) i c ∧ (row0 l (places l i)[i]).take (c + 1) = (row0 l (places l i)[i]).take c ++ [-1] := by
  have hg := succR_get l (places l i)[i] hc
  rw [h, if_neg (by decide)] at hg
  refine ⟨?_, ?_⟩
  · rw [part_step id (succR l) (l.start, 0) hib (by rw [succR_length]; exact hc)]
    show meetO id _ ((succR l (places l i)[i])[c]'(by rw [succR_length]; exact hc)) = _
    rw [hg]; rfl
  · rw [take_succ_getD _ (-1) c (by rw [row0_length]; exact hc)]
    congr 2
    unfold row0
    rw [List.getD, List.getElem?_map, List.getElem?_eq_getElem (by rw [succR_length]; exact hc), hg]; rfl
theorem part_yes {l : L} (hl : l.Ok) {i c : Nat} (hib : i < (places l i).length) (hc : c < wide l.k) (h : fol (places l i)[i].2 (pd l.k c) = true) {q : Nat × Nat} (hq : q = ((l.nx.getD (places l i)[i].1 []).getD c 0, pd l.k c)) :
    TidyClass.part id (succR l) (l.start, 0) i (c + 1) = meet id (TidyClass.part id (succR l) (l.start, 0) i c) q ∧ (row0 l (places l i)[i]).take (c + 1) = (row0 l (places l i)[i]).take c ++ [((idx id (TidyClass.part id (succR l) (l.start, 0) i c) q : Nat) : Int)] ∧ D l q := by
  have hg := succR_get l (places l i)[i] hc
  rw [h, if_pos rfl, ← hq] at hg
  have hcl : c < (succR l (places l i)[i]).length := by rw [succR_length]; exact hc
  refine ⟨?_, ?_, ?_⟩
  · rw [part_step id (succR l) (l.start, 0) hib hcl]
    show meetO id _ ((succR l (places l i)[i])[c]'hcl) = _
    rw [hg]; rfl
  · rw [take_succ_getD _ (-1) c (by rw [row0_length]; exact hc)]
    congr 2
    unfold row0
    rw [List.getD, List.getElem?_map, List.getElem?_eq_getElem hcl, hg]
    show ((num l q : Nat) : Int) = _
    rw [part_num id (succR l) (l.start, 0) (places_len hl) hib hcl hg]; rfl
  · exact D_succ hl (places l i)[i] (places_D hl i _ (List.getElem_mem hib)) q (by rw [← hg]; exact List.getElem_mem hcl)
theorem part_get {l : L} {i c : Nat} (hib : i < (places l i).length) : (TidyClass.part id (succR l) (l.start, 0) i c).getD i (0, 0) = (places l i)[i] ∧ i < (TidyClass.part id (succR l) (l.start, 0) i c).length := by
  have hp := part_from id (succR l) (l.start, 0) i c
  have hlt : i < (TidyClass.part id (succR l) (l.start, 0) i c).length := Nat.lt_of_lt_of_le hib hp.length_le
  refine ⟨?_, hlt⟩
  rw [List.getD, List.getElem?_eq_getElem hlt, Option.getD_some]
  exact prefix_get hp hib
/-- A row of which the first columns have been mended. -/
def rowV (l : L) (p : Nat × Nat) (c : Nat) : List Value := ((rowM l p).take c).map (fun x => Value.int .i64 ((x : Nat) : Int)) ++ ((row0 l p).drop c).map (Value.int .i64)
theorem rowM_length (l : L) (p : Nat × Nat) : (rowM l p).length = wide l.k := by unfold rowM; rw [List.length_map, succR_length]
theorem rowV_length (l : L) (p : Nat × Nat) (c : Nat) (hc : c ≤ wide l.k) : (rowV l p c).length = wide l.k := by
  unfold rowV
  rw [List.length_append, List.length_map, List.length_map, List.length_take, List.length_drop, rowM_length, row0_length]; omega
theorem rowV_zero (l : L) (p : Nat × Nat) : rowV l p 0 = (row0 l p).map (Value.int .i64) := by simp [rowV]
theorem rowV_end (l : L) (p : Nat × Nat) : rowV l p (wide l.k) = (ofN (rowM l p)).map (Value.int .i64) := by
  unfold rowV
  rw [List.take_of_length_le (by rw [rowM_length]; exact Nat.le_refl _), List.drop_of_length_le (by rw [row0_length]; exact Nat.le_refl _)]
  simp [ofN]
theorem rows_at (l : L) (p : Nat × Nat) {c : Nat} (hc : c < wide l.k) : ((row0 l p).getD c 0 = -1 ∧ (rowM l p).getD c 0 = (F l).length) ∨ (0 ≤ (row0 l p).getD c 0 ∧ (row0 l p).getD c 0 = (((rowM l p).getD c 0 : Nat) : Int)) := by
  have hcl : c < (succR l p).length := by rw [succR_length]; exact hc
  unfold row0 rowM
  rw [List.getD, List.getD, List.getElem?_map, List.getElem?_map, List.getElem?_eq_getElem hcl]
  cases (succR l p)[c] with
  | none => exact .inl ⟨rfl, rfl⟩
  | some q => exact .inr ⟨Int.natCast_nonneg _, rfl⟩
theorem rowV_get (l : L) (p : Nat × Nat) {c : Nat} (hc : c < wide l.k) (h : c < (rowV l p c).length) : (rowV l p c)[c] = .int .i64 ((row0 l p).getD c 0) := by
  have e : (((rowM l p).take c).map (fun x => Value.int .i64 ((x : Nat) : Int))).length = c := by rw [List.length_map, List.length_take, rowM_length]; omega
  have h0 : c < (row0 l p).length := by rw [row0_length]; exact hc
  have h2 : (((rowM l p).take c).map (fun x => Value.int .i64 ((x : Nat) : Int)) ++ ((row0 l p).drop c).map (Value.int .i64))[c]? = some (.int .i64 ((row0 l p).getD c 0)) := by
    rw [List.getElem?_append_right (by rw [e]; exact Nat.le_refl _), e, Nat.sub_self]
    simp [List.getD, h0]
  obtain ⟨h3, h4⟩ := List.getElem?_eq_some_iff.1 h2
  exact h4
theorem rowV_step (l : L) (p : Nat × Nat) {c : Nat} (hc : c < wide l.k) : (rowV l p c).set c (.int .i64 (((rowM l p).getD c 0 : Nat) : Int)) = rowV l p (c + 1) := by
  unfold rowV
  have e : (((rowM l p).take c).map (fun x => Value.int .i64 ((x : Nat) : Int))).length = c := by rw [List.length_map, List.length_take, rowM_length]; omega
  have h0 : c < (row0 l p).length := by rw [row0_length]; exact hc
  have h1 : c < (rowM l p).length := by rw [rowM_length]; exact hc
  rw [List.set_append, if_neg (by omega), e, Nat.sub_self, take_succ_getD (rowM l p) 0 c h1, List.drop_eq_getElem_cons h0, List.map_append, List.append_assoc]
  rfl
theorem rowV_keep (l : L) (p : Nat × Nat) {c : Nat} (hc : c < wide l.k) (h : (row0 l p).getD c 0 = (((rowM l p).getD c 0 : Nat) : Int)) : rowV l p c = rowV l p (c + 1) := by
  rw [← rowV_step l p hc, ← h]
  have hl : c < (rowV l p c).length := by rw [rowV_length l p c (by omega)]; exact hc
  rw [← rowV_get l p hc hl, List.set_getElem_self]
/-- The rows, of which those in front have been mended, and a part of one more. -/
def contV (l : L) (i c : Nat) (j : Nat) : List Value := rowV l ((F l).getD j (0, 0)) (if j < i then wide l.k else if j = i then c else 0)
theorem contV_next (l : L) (i j : Nat) : contV l i (wide l.k) j = contV l (i + 1) 0 j := by
  unfold contV
  by_cases h : j < i
  · rw [if_pos h, if_pos (by omega)]
  · rw [if_neg h]
    by_cases e : j = i
    · rw [if_pos e, if_pos (by omega)]
    · rw [if_neg e, if_neg (by omega), ite_self]
theorem contV_self (l : L) (i c : Nat) : contV l i c i = rowV l ((F l).getD i (0, 0)) c := by unfold contV; rw [if_neg (Nat.lt_irrefl i), if_pos rfl]
theorem contV_other (l : L) (i c d : Nat) {j : Nat} (h : j ≠ i) : contV l i c j = contV l i d j := by unfold contV; rw [if_neg h, if_neg h]
theorem set_range {α : Type} (N i : Nat) (f g : Nat → α) (x : α) (hi : i < N) (hx : x = g i) (h : ∀ j, j ≠ i → f j = g j) : ((List.range N).map f).set i x = (List.range N).map g := by
  apply List.ext_getElem
  · simp
  · intro j h1 h2
    rw [List.getElem_set]
    by_cases e : i = j
    · subst e; simp [hx]
    · rw [if_neg e]; simp [h j (fun e' => e e'.symm)]
theorem wide_eq {k : Nat} (h0 : 1 ≤ k) (h3 : k ≤ 3) : widthOf (k : Int) = ((wide k : Nat) : Int) := by
  have : k = 1 ∨ k = 2 ∨ k = 3 := by omega
  rcases this with rfl | rfl | rfl <;> rfl

theorem rows_end (l : L) (N : Nat) (hN : (F l).length = N) : (List.range N).map (contV l N 0) ++ [List.replicate (wide l.k) (Value.int .i64 ((N : Nat) : Int))] = ((nxM l).map ofN).map fun r => r.map (Value.int .i64) := by
  have h1 : (List.range N).map (contV l N 0) = ((F l).map (rowM l)).map fun r => (ofN r).map (Value.int .i64) := by
    apply List.ext_getElem
    · simp [hN]
    · intro q h1 h2
      have hq : q < N := by simpa using h1
      have hqF : q < (F l).length := by rw [hN]; exact hq
      simp only [List.getElem_map, List.getElem_range]
      unfold contV
      rw [if_pos hq, rowV_end]
      simp [List.getD, hqF]
  have h2 : List.replicate (wide l.k) (Value.int .i64 ((N : Nat) : Int)) = (ofN (List.replicate (wide l.k) (F l).length)).map (Value.int .i64) := by
    rw [hN]; simp [ofN]
  rw [h1, h2]
  unfold nxM
  simp [List.map_map, Function.comp_def]
theorem accs_end (l : L) (N : Nat) (hN : (F l).length = N) : (((F l).take N).map fun p => Value.bool (l.acc.getD p.1 false)) ++ [Value.bool false] = (accM l).map Value.bool := by
  unfold accM
  rw [List.map_append, List.map_map, List.take_of_length_le (by rw [hN]; exact Nat.le_refl _)]; rfl
/-- Behind the block of the answer the world is as it was when this had been made. -/
abbrev Kp (w wr : World) : Prop := Below (w.heap.size + 1) (w.alloc (.cells #[Value.int .i64 0, .int .i64 0, .slice none 0 0, .slice none 0 0] 27)) wr
theorem Kp.size {w wr : World} (h : Kp w wr) : w.heap.size + 1 ≤ wr.heap.size := by have := Below.size h; rwa [size_alloc'] at this
theorem Kp.base {w wr : World} (h : Kp w wr) : Below w.heap.size w wr :=
  ⟨h.os, h.tape, h.output, by have := h.size; omega, fun k hk => (h.block k (by omega)).trans (Below.heap_alloc _ _ _ hk)⟩
theorem Kp.cell {w wr : World} (h : Kp w wr) {p : Addr} (hp : p.block < w.heap.size) : wr.cell? p = w.cell? p := h.base.cell hp
theorem Kp.res {w wr : World} (h : Kp w wr) : wr.heap[w.heap.size]? = some (.cells #[Value.int .i64 0, .int .i64 0, .slice none 0 0, .slice none 0 0] 27 (0, 0)) := by
  rw [h.block _ (Nat.lt_succ_self _)]; exact heap_alloc_new _ _

set_option maxRecDepth 100000 in
set_option maxHeartbeats 8000000 in
theorem right (l : L) (hl : l.Ok) (bp : Nat) (w : World) (B : Nat) (h : RelPtr w B bp (relOf l)) (hB : B ≤ w.heap.size) (hbp : bp < w.heap.size) (hn : l.acc.length ≤ 100000) :
    Calls Tryd.prog 30 #[.pointer (some ⟨bp, 0, none⟩)] w fun e w' => ∃ va vn, e = .returned (.agg #[.int .i64 l.k, .int .i64 0, va, vn]) ∧ Built w' w.heap.size va vn (accM l) ((nxM l).map ofN) ∧ Below w.heap.size w w' := by
  obtain ⟨va, vn, c0, c1, c2, c3, hacc, hnx⟩ := h
  have HA := Lib.hid (fun W (hb : Kp w W) => hacc.below hb.base hB)
  have HN := Lib.hid (fun W (hb : Kp w W) => hnx.below hb.base hB)
  obtain ⟨aa, ba, oa, ca, rfl, hma, -, -⟩ := hacc
  obtain ⟨-, ⟨ab, bb, ob, cb, rfl, hmb, -, -⟩, -⟩ := hnx
  have k0 := hl.k0
  have k3 := hl.k3
  have hst := hl.st
  simp only [relOf] at c0 c1 c2 c3 hma hmb
  rw [List.length_map] at c3 hmb
  rw [hl.len] at c3 hmb
  obtain ⟨n, hnn⟩ : ∃ n, n = l.acc.length := ⟨_, rfl⟩
  obtain ⟨k, hk⟩ : ∃ k, k = l.k := ⟨_, rfl⟩
  obtain ⟨st, hs⟩ : ∃ st, st = l.start := ⟨_, rfl⟩
  rw [← hnn] at c2 c3 hma hmb hn hst
  rw [← hk] at c0 k0 k3
  rw [← hs] at c1 hst
  have HSS := Lib.hid hs.symm
  have HKK := Lib.hid hk
  have HNN := Lib.hid hnn
  clear hnn hk hs
  obtain ⟨z, hz⟩ : ∃ z, z = 2 ^ k := ⟨_, rfl⟩
  have hz1 : 1 ≤ z := by rw [hz]; exact Nat.one_le_two_pow
  have hz8 : z ≤ 8 := by rw [hz]; exact pow_le8 k3
  have hsh : wrap64 ((2 : Int) ^ k) = (z : Int) := by
    have : k = 1 ∨ k = 2 ∨ k = 3 := by omega
    rcases this with rfl | rfl | rfl <;> subst hz <;> first | kernel_rfl | rfl | simp [wrap64]
  have HZ8 := Lib.hid hz
  obtain ⟨m, hm⟩ : ∃ m, m = n * z := ⟨_, rfl⟩
  have hmul : (n : Int) * (z : Int) = (m : Int) := by rw [hm]; exact (Int.natCast_mul n z).symm
  have hmb : m ≤ 800000 := by rw [hm]; exact Nat.le_trans (Nat.mul_le_mul hn hz8) (by decide)
  obtain ⟨x0, hx0⟩ : ∃ x0, x0 = st * z := ⟨_, rfl⟩
  have hmul0 : (st : Int) * (z : Int) = (x0 : Int) := by rw [hx0]; exact (Int.natCast_mul st z).symm
  have hx0m : x0 < m := by rw [hx0, hm]; exact Nat.mul_lt_mul_of_pos_right hst hz1
  have HM := Lib.hid hm
  have HX0 := Lib.hid hx0
  have hmk := run_make_row' (P := Tryd.prog) 52 2 (.int .i64 0) 8 Tryd.underlying52 info2 rfl .i64 .i64 m (by omega) (by omega)
  clear hz hm hx0
  have HO0 := Lib.hid (show Own ((w.alloc (.cells #[Value.int .i64 0, .int .i64 0, .slice none 0 0, .slice none 0 0] 27)).alloc (.cells (madeCells #[Value.int .i64 0] m) 2)) (w.heap.size + 1) 2 [(.slice (some ⟨w.heap.size + 1, 0, none⟩) m m, tv m fun i => if i < 0 then -1 else 0)] by
    have h1 := Lst.made (w.alloc (.cells #[Value.int .i64 0, .int .i64 0, .slice none 0 0, .slice none 0 0] 27)) (w.heap.size + 1) 2 (.int .i64 0) m (by simp) (by unfold maxLen; omega)
    rw [tv_rep, size_alloc'] at h1
    exact Own.add (Own.nil _ _ _) h1 (fun p hp => by cases hp))
  have HB0 := Lib.hid (show Kp w ((w.alloc (.cells #[Value.int .i64 0, .int .i64 0, .slice none 0 0, .slice none 0 0] 27)).alloc (.cells (madeCells #[Value.int .i64 0] m) 2)) from (Below.refl _ _).alloc (by simp) _)
  go_enter Tryd.func30, Tryd.ntmps30
  go_wp2_with fail
  rw [hsh]
  clear hsh
  go_loopw [6] (fun i wr => ∃ j : Nat, j ≤ m ∧ i = .int .i64 j ∧ Own wr (w.heap.size + 1) 2 [(.slice (some ⟨w.heap.size + 1, 0, none⟩) m m, tv m fun i => if i < j then -1 else 0)] ∧ Kp w wr ∧ w.heap.size + 2 ≤ wr.heap.size) (fun i _ => m - (intOf i).toNat)
  case atStart => exact ⟨0, Nat.zero_le _, rfl, HO0.out, HB0.out, by simp⟩
  case round =>
    obtain ⟨j, hj, rfl, hown, hbel, hsz⟩ := hrel
    have HO := Lib.hid hown
    have HB := Lib.hid hbel
    have HSZ := Lib.hid hsz
    clear hown hbel hmk HO0 HB0 hsz
    by_cases hlt : j < m
    · have c7 := (Own.get [] [] HO.out).cellOf (i := j) (by rw [tv_length]; exact hlt)
      rw [tv_get, if_neg (Nat.lt_irrefl j)] at c7
      have f7 := (Own.get [] [] HO.out).free j
      go_wp2_with fail
      go_roundw
      case rel =>
        have h1 := Own.set [] [] (i := j) HO.out (by rw [tv_length]; exact hlt) (.int .i64 (-1))
        rw [tv_set, List.nil_append] at h1
        refine ⟨j + 1, hlt, by go_num, ?_, HB.out.setCell (by show w.heap.size + 1 ≤ w.heap.size + 1; omega) _, by simpa [World.setCell] using HSZ.out⟩
        rw [show (fun i => if i < j + 1 then (-1 : Int) else 0) = (fun i => if i = j then (-1 : Int) else if i < j then -1 else 0) from funext fun i => by
          by_cases e : i = j
          · simp [e]
          · have : (i < j + 1) = (i < j) := by apply propext; constructor <;> intro h <;> omega
            simp [e, this]]
        exact h1
      case measure => simp [intOf]; omega
    · obtain rfl : j = m := by omega
      have HO1 := Lib.hid (show Own wr (w.heap.size + 1) 2 [(.slice (some ⟨w.heap.size + 1, 0, none⟩) j j, tv j (numT z []))] from by
        have h1 := HO.out
        rw [tv_congr (S := numT z []) (fun i hi => by rw [if_pos hi, numT_none])] at h1
        exact h1)
      have hA := HA.out _ HB.out
      have hN := HN.out _ HB.out
      have hb0 := (Kp.cell HB.out (p := ⟨bp, 0, none⟩) hbp).trans c0
      have hb1 := (Kp.cell HB.out (p := ⟨bp, 1, none⟩) hbp).trans c1
      have c7 := (Own.get [] [] HO1.out).cellOf (i := x0) (by rw [tv_length]; exact hx0m)
      have f7 := (Own.get [] [] HO1.out).free x0
      rw [tv_get] at c7
      have hlb : w.heap.size + 1 < wr.heap.size := by have := HSZ.out; omega
      have hlb2 : bp < wr.heap.size := by have := HSZ.out; omega
      clear HO hA hN
      have hst0 := Lib.hid hst
      obtain ⟨Z, hZ⟩ : ∃ Z, Z = wr.heap.size := ⟨_, rfl⟩
      have HBLD := Lib.hid (show Bld (((wr.setCell ⟨w.heap.size + 1, x0, none⟩ (.int .i64 0)).alloc (.cells #[Value.int .i64 x0] 2)).alloc (.cells #[Value.int .i64 k, .int .i64 0, .slice none 0 0, .slice none 0 0] 27)) (w.heap.size + 1) (Z + 1) k 0 (.slice none 0 0) (.slice none 0 0)
          [(.slice (some ⟨w.heap.size + 1, 0, none⟩) j j, tv j (numT z (places l 0))), (.slice (some ⟨Z, 0, none⟩) 1 1, iv (cv z (places l 0)))] [] [] by
        have h1 := Own.set [] [] (i := x0) HO1.out (by rw [tv_length]; exact hx0m) (.int .i64 0)
        rw [tv_set, List.nil_append] at h1
        have hpl : places l 0 = meet id [] (st, 0) := by rw [show places l 0 = [(l.start, 0)] from rfl, HSS.out]; simp [meet, idx]
        have hx0c : x0 = code z (st, 0) := by rw [HX0.out]; rfl
        have h2 : tv j (fun i => if i = x0 then (0 : Int) else numT z [] i) = tv j (numT z (places l 0)) := by
          rw [hpl]
          refine tv_congr fun i hi => ?_
          rw [numT_meet (p := (st, 0)) hz1 (by simp [idx]), ← hx0c]
          rfl
        rw [h2] at h1
        have hsz1 : (wr.setCell ⟨w.heap.size + 1, x0, none⟩ (.int .i64 0)).heap.size = Z := by rw [hZ]; simp [World.setCell]
        have h3 := Lst.one (wr.setCell ⟨w.heap.size + 1, x0, none⟩ (.int .i64 0)) (w.heap.size + 1) 2 (.int .i64 x0) (by rw [hsz1, hZ]; have := HSZ.out; omega)
        rw [hsz1] at h3
        have h4 : iv (cv z (places l 0)) = [Value.int .i64 (x0 : Int)] := by rw [hpl, hx0c]; simp [iv, cv, meet, idx]
        have h5 := h1.addNew (w' := (wr.setCell ⟨w.heap.size + 1, x0, none⟩ (.int .i64 0)).alloc (.cells #[Value.int .i64 x0] 2)) ((Below.refl _ _).alloc (Nat.le_refl _) _) h3 (fun q hq => by rw [hsz1]; cases hq; exact Nat.le_refl _)
        have h6 : ((wr.setCell ⟨w.heap.size + 1, x0, none⟩ (.int .i64 0)).alloc (.cells #[Value.int .i64 x0] 2)).heap.size = Z + 1 := by rw [size_alloc', hsz1]
        refine ⟨?_, Lst.nil _ _ _, Lst.nil _ _ _, ?_, by rw [hZ]; have := HSZ.out; omega⟩
        · rw [h4]
          exact Own.perm (h5.alloc _) (List.Perm.swap _ _ _)
        · rw [← h6]
          exact heap_alloc_new _ _)
      have HBW := Lib.hid (show Kp w (((wr.setCell ⟨w.heap.size + 1, x0, none⟩ (.int .i64 0)).alloc (.cells #[Value.int .i64 x0] 2)).alloc (.cells #[Value.int .i64 k, .int .i64 0, .slice none 0 0, .slice none 0 0] 27)) from by
        refine Below.alloc (Below.alloc (HB.out.setCell (by show w.heap.size + 1 ≤ w.heap.size + 1; omega) _) ?_ _) ?_ _
        · simp [World.setCell]; have := HSZ.out; omega
        · simp [World.setCell]; have := HSZ.out; omega)
      have HZ := Lib.hid hZ
      go_wp2_with fail
      rw [← hZ]
      clear hZ c7 f7 hb0 hb1 hlb hlb2
      go_loopw [7, 9, 10, 11, 12, 13, 14] (fun s7 s9 _ _ _ _ _ wr' => ∃ (i : Nat) (a7 : Option Addr) (cap7 : Nat) (va vn : Value) (items : List (Value × List Value)), i ≤ (places l i).length ∧ s9 = .int .i64 i ∧ s7 = .slice a7 (places l i).length cap7 ∧
        Bld wr' (w.heap.size + 1) (Z + 1) k 0 va vn [(.slice (some ⟨w.heap.size + 1, 0, none⟩) j j, tv j (numT z (places l i))), (.slice a7 (places l i).length cap7, iv (cv z (places l i)))] items (((F l).take i).map fun p => .bool (l.acc.getD p.1 false)) ∧
        items.map Prod.snd = ((F l).take i).map (fun p => (row0 l p).map (Value.int .i64)) ∧ Kp w wr') (fun _ s9 _ _ _ _ _ _ => 800001 - (intOf s9).toNat)
      case atStart => exact ⟨0, _, _, _, _, [], Nat.zero_le _, rfl, rfl, HBLD.out, rfl, HBW.out⟩
      case round =>
        obtain ⟨i, a7, cap7, va, vn, items, hi, rfl, rfl, hbld, hit, hbel⟩ := hrel
        have HD := Lib.hid hbld
        have HI := Lib.hid hit
        have HB2 := Lib.hid hbel
        obtain ⟨len, hlen⟩ : ∃ len, len = (places l i).length := ⟨_, rfl⟩
        rw [← hlen] at HD hi
        rw [← hlen]
        have HLEN := Lib.hid hlen
        clear hbld hit hbel HBLD HBW hlen
        have HPB := Lib.hid (places_len hl)
        by_cases hlt : i < len
        · have hib : i < (places l i).length := by rw [← HLEN.out]; exact hlt
          have hiF : i < (F l).length := Nat.lt_of_lt_of_le hib (end_prefix id (succR l) (l.start, 0) HPB.out i).length_le
          have hgF : (places l i)[i] = (F l)[i] := (prefix_get (end_prefix id (succR l) (l.start, 0) HPB.out i) hib).symm
          obtain ⟨P, hP⟩ : ∃ P, P = (F l)[i] := ⟨_, rfl⟩
          have hPD : D l P := by rw [hP]; exact places_D hl _ _ (List.getElem_mem hiF)
          obtain ⟨s, e⟩ := P
          have hsn : s < n := by have := hPD.1; rw [HNN.out]; exact this
          have hez : e < z := by have := hPD.2; rw [HZ8.out, HKK.out]; exact this
          obtain ⟨x, hx⟩ : ∃ x, x = code z (s, e) := ⟨_, rfl⟩
          have hq : (x : Int) / (z : Int) = (s : Int) := by
            have := congrArg Prod.fst (place_code (z := z) (p := (s, e)) hez)
            rw [← hx] at this
            rw [← Int.natCast_ediv]; exact congrArg Int.ofNat this
          have hr : (x : Int) % (z : Int) = (e : Int) := by
            have := congrArg Prod.snd (place_code (z := z) (p := (s, e)) hez)
            rw [← hx] at this
            rw [← Int.natCast_emod]; exact congrArg Int.ofNat this
          obtain ⟨g7, rfl, -⟩ := (Own.get [_] _ HD.out.own).addr (by rw [iv_length, cv_length]; exact Nat.lt_of_le_of_lt (Nat.zero_le _) hib)
          have c7 := (Own.get [_] _ HD.out.own).cellOf (i := i) (by rw [iv_length, cv_length]; exact hib)
          rw [iv_get, cv_get _ _ hib, hgF, ← hP, ← hx] at c7
          have hb0 := (Kp.cell HB2.out (p := ⟨bp, 0, none⟩) hbp).trans c0
          have hnext := HN.out _ HB2.out
          have hacc := HA.out _ HB2.out
          have hx8 : x ≤ 800000 := by
            have : x < n * z := by rw [hx]; exact code_lt hsn hez
            rw [← HM.out] at this; omega
          have HXC := Lib.hid hx
          have HPP := Lib.hid hP
          have HGF := Lib.hid hgF
          have HIB := Lib.hid hib
          have HIF := Lib.hid hiF
          have HSZ0 := Lib.hid (HD.out.lt)
          obtain ⟨szr, hszr⟩ : ∃ szr, szr = wr.heap.size := ⟨_, rfl⟩
          have HIN := Lib.hid (show Bld (wr.alloc (.cells #[] 2)) (w.heap.size + 1) (Z + 1) k 0 va vn ((.slice (some ⟨szr, 0, none⟩) 0 0, ((row0 l (s, e)).take 0).map (Value.int .i64)) :: [(.slice (some ⟨w.heap.size + 1, 0, none⟩) j j, tv j (numT z (TidyClass.part id (succR l) (l.start, 0) i 0))), (.slice (some ⟨g7, 0, none⟩) (TidyClass.part id (succR l) (l.start, 0) i 0).length cap7, iv (cv z (TidyClass.part id (succR l) (l.start, 0) i 0)))]) items (((F l).take i).map fun p => .bool (l.acc.getD p.1 false)) by
            rw [part_zero]
            have h1 := Lst.empty wr (w.heap.size + 1) 2 (Kp.size HB2.out)
            rw [← hszr] at h1
            rw [show bfs id (succR l) (l.start, 0) i = places l i from rfl, ← HLEN.out]
            exact HD.out.addInt ((Below.refl _ _).alloc (Nat.le_refl _) _) h1 (fun q hq => by cases hq; rw [hszr]; exact Nat.le_refl _))
          have HPZ := Lib.hid (show (TidyClass.part id (succR l) (l.start, 0) i 0).length = len by rw [part_zero]; exact HLEN.out.symm)
          have HBI := Lib.hid (HB2.out.alloc ((Kp.size HB2.out)) (.cells #[] 2))
          clear hx hP hgF hnext hacc HD
          go_wp2_with fail
          rw [← hszr]
          clear hszr c7 hb0 hq hr
          go_loopw [7, 11, 12, 13, 14] (fun s7 s11 s12 _ _ wr' => ∃ (c : Nat) (a7 : Option Addr) (cap7 : Nat) (a11 : Option Addr) (cap11 : Nat), c ≤ wide l.k ∧ s12 = .int .i64 c ∧ s7 = .slice a7 (TidyClass.part id (succR l) (l.start, 0) i c).length cap7 ∧ s11 = .slice a11 c cap11 ∧
            Bld wr' (w.heap.size + 1) (Z + 1) k 0 va vn ((.slice a11 c cap11, ((row0 l (s, e)).take c).map (Value.int .i64)) :: [(.slice (some ⟨w.heap.size + 1, 0, none⟩) j j, tv j (numT z (TidyClass.part id (succR l) (l.start, 0) i c))), (.slice a7 (TidyClass.part id (succR l) (l.start, 0) i c).length cap7, iv (cv z (TidyClass.part id (succR l) (l.start, 0) i c)))]) items (((F l).take i).map fun p => .bool (l.acc.getD p.1 false)) ∧
            Kp w wr') (fun _ _ s12 _ _ _ => 26 - (intOf s12).toNat)
          case atStart => exact ⟨0, _, cap7, _, _, Nat.zero_le _, rfl, by rw [HPZ.out], rfl, HIN.out, HBI.out⟩
          case round =>
            obtain ⟨c, a7, cap7, a11, cap11, hc, rfl, rfl, rfl, hbld, hbel⟩ := hrel
            have HE := Lib.hid hbld
            have HB3 := Lib.hid hbel
            obtain ⟨len7, hlen7⟩ : ∃ len7, len7 = (TidyClass.part id (succR l) (l.start, 0) i c).length := ⟨_, rfl⟩
            rw [← hlen7] at HE
            rw [← hlen7]
            have HL7 := Lib.hid hlen7
            have hb0 := (Kp.cell HB3.out (p := ⟨bp, 0, none⟩) hbp).trans c0
            have HWD := Lib.hid (fun W => (wideAny (k : Int) (by omega) (by omega) W))
            rw [wide_eq k0 k3] at HWD
            obtain ⟨wd, hwd⟩ : ∃ wd, wd = wide k := ⟨_, rfl⟩
            rw [← hwd] at HWD
            rw [← HKK.out, ← hwd] at hc
            have hw26 : wd ≤ 26 := by have := wide_cases k0 k3; omega
            have HWW := Lib.hid hwd
            clear hbld hbel HIN HBI hlen7 hwd
            by_cases hcl : c < wd
            · have hciw : c < wide l.k := by rw [← HKK.out, ← HWW.out]; exact hcl
              have hgP : (places l i)[i]'HIB.out = (s, e) := by rw [HGF.out]; exact HPP.out.symm
              have HNO := Lib.hid (part_no HIB.out hciw)
              have HYES := Lib.hid (part_yes hl HIB.out hciw (q := ((l.nx.getD s []).getD c 0, pd l.k c)))
              rw [hgP] at HNO HYES
              have hpg := part_get (c := c) HIB.out
              rw [hgP, ← HL7.out] at hpg
              obtain ⟨g7', rfl, -⟩ := (Own.get [_, _] _ HE.out.own).addr (by rw [iv_length, cv_length, ← HL7.out]; omega)
              have c7 := (Own.get [_, _] _ HE.out.own).cellOf (i := i) (by rw [iv_length, cv_length, ← HL7.out]; exact hpg.2)
              rw [iv_get, cv_get _ _ (by rw [← HL7.out]; exact hpg.2), show (TidyClass.part id (succR l) (l.start, 0) i c)[i]'(by rw [← HL7.out]; exact hpg.2) = (s, e) from by have := hpg.1; rwa [List.getD, List.getElem?_eq_getElem (by rw [← HL7.out]; exact hpg.2), Option.getD_some] at this, ← HXC.out] at c7
              have hil7 : i < len7 := hpg.2
              have hr : (x : Int) % (z : Int) = (e : Int) := by
                have := congrArg Prod.snd (place_code (z := z) (p := (s, e)) hez)
                rw [← HXC.out] at this
                rw [← Int.natCast_emod]; exact congrArg Int.ofNat this
              have HEND := Lib.hid (fun W => ended k e c k0 k3 (by rw [HKK.out]; have := hez; rw [HZ8.out] at this; rw [← HKK.out]; exact this) (by omega) W)
              rw [HKK.out] at HEND
              obtain ⟨f, hf⟩ : ∃ f, f = fol e (pd l.k c) := ⟨_, rfl⟩
              obtain ⟨p, hp⟩ : ∃ p, p = pd l.k c := ⟨_, rfl⟩
              have HP := Lib.hid hp
              have HF := Lib.hid hf
              obtain ⟨E, hE⟩ : ∃ E : Int, E = if f = true then ((p : Nat) : Int) else -1 := ⟨_, rfl⟩
              rw [← hf, ← hp, ← hE] at HEND
              rw [← HKK.out] at HEND
              have HEE := Lib.hid hE
              have hlen8 := Lib.hid (show len7 ≤ 800000 by
                have h1 : (TidyClass.part id (succR l) (l.start, 0) i c).length ≤ (places l (l.acc.length * 8)).length := (part_prefix id (succR l) (l.start, 0) HPB.out (c := c) HIB.out).length_le
                have h2 := HPB.out (l.acc.length * 8)
                have h3 := HNN.out
                rw [HL7.out]; omega)
              clear hf hp hE hpg hgP hciw
              go_upto_region 19 with (go_at_call 32; refine (HWD.out _).mono ?_; rintro e w' ⟨rfl, rfl⟩)
              go_cut [13] (fun v wx => v = .int .i64 E ∧ ∃ m, wx = wr.drewN m)
              case first =>
                go_region_with (go_at_call 47; refine (HEND.out _).mono ?_; rintro e w' ⟨rfl, rfl⟩)
                all_goals
                  go_wp2_with fail
                  go_meet
                  exact ⟨rfl, 1, rfl⟩
              case rest =>
                obtain ⟨rfl, m, rfl⟩ := hcut
                have HE1 := Lib.hid (HE.out.drewN m)
                have HB1 := Lib.hid (below_drewN HB3.out m)
                have HRL := Lib.hid (show (((row0 l (s, e)).take c).map (Value.int .i64)).length = c by rw [List.length_map, List.length_take, row0_length, ← HKK.out, ← HWW.out]; omega)
                cases f with
                | false =>
                  have hN := HNO.out HF.out.symm
                  obtain rfl : E = -1 := HEE.out
                  have HN1 := Lib.hid hN.1
                  have HN2 := Lib.hid hN.2
                  clear hN c7 hr hb0
                  go_wp2_with (at_builtin; refine wpList_push rfl _ _ 52 rfl 2 (.int .i64 0) 8 Tryd.underlying52 info2 (by decide) (by decide) (w.heap.size + 1) _ _ (.int .i64 (-1)) (Own.get [] _ HE1.out.own) (Kp.size HB1.out) rfl (by rw [HRL.out]; omega) rfl _ rfl rfl ?_; intro v5 w5 hp5; obtain ⟨a5, n5, cp5, rfl, HN5⟩ := hp5.lst.shape'; have HE5 := Lib.hid (HE1.out.pushInt [] [_, _] hp5); have HB5 := Lib.hid (HB1.out.grown hp5.grow (Kp.size HB1.out) (fun q hq => (Own.get [] _ HE1.out.own).ge hq)); clear hp5)
                  go_roundw
                  case rel =>
                    have h5 : n5 = c + 1 := by rw [HN5.out, List.length_append, HRL.out]; rfl
                    subst h5
                    have h1 := HE5.out
                    rw [← HN1.out, List.nil_append, show (((row0 l (s, e)).take c).map (Value.int .i64) ++ [Value.int .i64 (-1)]) = ((row0 l (s, e)).take (c + 1)).map (Value.int .i64) by rw [HN2.out, List.map_append]; rfl] at h1
                    have h6 : len7 = (TidyClass.part id (succR l) (l.start, 0) i (c + 1)).length := by rw [HN1.out]; exact HL7.out
                    rw [h6] at h1
                    rw [h6]
                    exact ⟨c + 1, _, cap7, a5, cp5, by rw [← HKK.out, ← HWW.out]; exact hcl, by go_num, rfl, rfl, h1, HB5.out⟩
                  case measure => simp [intOf]; omega
                | true =>
                  have hY := HYES.out HF.out.symm trivial
                  obtain rfl : E = (p : Int) := HEE.out
                  obtain ⟨t, ht⟩ : ∃ t, t = (l.nx.getD s []).getD c 0 := ⟨_, rfl⟩
                  rw [← ht, ← HP.out] at hY
                  obtain ⟨hY1, hY2, hYD⟩ := hY
                  have htn : t < n := by rw [HNN.out]; exact hYD.1
                  have hpz : p < z := by rw [HZ8.out, HKK.out]; exact hYD.2
                  have hp8 : p ≤ 8 := by omega
                  obtain ⟨tz, htz⟩ : ∃ tz, tz = t * z := ⟨_, rfl⟩
                  have hmt : (t : Int) * (z : Int) = (tz : Int) := by rw [htz]; exact (Int.natCast_mul t z).symm
                  obtain ⟨y, hy⟩ : ∃ y, y = tz + p := ⟨_, rfl⟩
                  have hyj : y < j := by rw [HM.out, hy, htz]; exact code_lt (p := (t, p)) htn hpz
                  have hty : (tz : Int) + (p : Int) = (y : Int) := by rw [hy]; rfl
                  have htz8 : tz ≤ 800000 := by omega
                  have hyc : y = code z (t, p) := by rw [hy, htz]; rfl
                  have HYC := Lib.hid hyc
                  have HHPZ := Lib.hid hpz
                  have hnum : numT z (TidyClass.part id (succR l) (l.start, 0) i c) y = if idx id (TidyClass.part id (succR l) (l.start, 0) i c) (t, p) < len7 then ((idx id (TidyClass.part id (succR l) (l.start, 0) i c) (t, p) : Nat) : Int) else -1 := by
                    unfold numT
                    rw [hyc, place_code (p := (t, p)) hpz, ← HL7.out]
                  have cN := (Own.get [_] _ HE1.out.own).cellOf (i := y) (by rw [tv_length]; exact hyj)
                  rw [tv_get, hnum] at cN
                  have fN := (Own.get [_] _ HE1.out.own).free y
                  obtain ⟨d, hd⟩ : ∃ d, d = idx id (TidyClass.part id (succR l) (l.start, 0) i c) (t, p) := ⟨_, rfl⟩
                  rw [← hd] at cN hY2
                  have HDD := Lib.hid hd
                  have HY1 := Lib.hid hY1
                  have HY2 := Lib.hid hY2
                  have hb3 := (Kp.cell HB1.out (p := ⟨bp, 3, none⟩) hbp).trans c3
                  obtain ⟨V, ⟨a6, b6, o6, cp6, e6, -, haa6, hca6⟩, hrows⟩ := HN.out _ HB1.out
                  have e6' : ab = a6 := by injection e6
                  subst e6'
                  have hsl : s < (relOf l).next.length := by show s < (l.nx.map ofN).length; rw [List.length_map, hl.len, ← HNN.out]; exact hsn
                  obtain ⟨rfl, -⟩ := haa6 (by omega)
                  have n4 := hca6 s hsl
                  obtain ⟨a8, b8, o8, cp8, e8, -, haa8, hca8⟩ := hrows s hsl
                  have er : (relOf l).next.getD s [] = ofN (l.nx.getD s []) := by
                    show (l.nx.map ofN).getD s [] = _
                    have : s < l.nx.length := by rw [hl.len, ← HNN.out]; exact hsn
                    simp [List.getD, this]
                  rw [er, ofN_length, hl.row s (by rw [← HNN.out]; exact hsn), ← HKK.out, ← HWW.out] at e8 haa8 hca8
                  rw [e8] at n4
                  obtain ⟨rfl, -⟩ := haa8 (by omega)
                  have n5 : (wr.drewN m).cell? ⟨b8, o8 + c, none⟩ = some (.int .i64 ((ofN (l.nx.getD s [])).getD c 0)) := hca8 c hcl
                  rw [ofN_get _ (by rw [hl.row s (by rw [← HNN.out]; exact hsn), ← HKK.out, ← HWW.out]; exact hcl), ← ht] at n5
                  have hnb := (Kp.size HB1.out)
                  have hszN := lt_of_block HE1.out.at_
                  clear hca8 haa8 e8 hrows hca6 haa6 e6 hsl er hYD hY1 hY2 hd hnum ht htz hy hyc htn hpz c7 hr hb0
                  by_cases hd7 : d < len7
                  · rw [if_pos hd7] at cN
                    have HM1 := Lib.hid (show TidyClass.part id (succR l) (l.start, 0) i (c + 1) = TidyClass.part id (succR l) (l.start, 0) i c by
                      rw [HY1.out]; unfold meet; rw [if_pos (by rw [← HDD.out, ← HL7.out]; exact hd7)])
                    go_wp2_with (at_builtin; refine wpList_push rfl _ _ 52 rfl 2 (.int .i64 0) 8 Tryd.underlying52 info2 (by decide) (by decide) (w.heap.size + 1) _ _ (.int .i64 d) (Own.get [] _ HE1.out.own) (Kp.size HB1.out) rfl (by rw [HRL.out]; omega) rfl _ rfl rfl ?_; intro v5 w5 hp5; obtain ⟨a5, n5', cp5, rfl, HN5⟩ := hp5.lst.shape'; have HE5 := Lib.hid (HE1.out.pushInt [] [_, _] hp5); have HB5 := Lib.hid (HB1.out.grown hp5.grow (Kp.size HB1.out) (fun q hq => (Own.get [] _ HE1.out.own).ge hq)); clear hp5)
                    go_roundw
                    case rel =>
                      have h5 : n5' = c + 1 := by rw [HN5.out, List.length_append, HRL.out]; rfl
                      subst h5
                      have h1 := HE5.out
                      rw [← HM1.out, List.nil_append, show (((row0 l (s, e)).take c).map (Value.int .i64) ++ [Value.int .i64 (d : Int)]) = ((row0 l (s, e)).take (c + 1)).map (Value.int .i64) by rw [HY2.out, List.map_append]; rfl] at h1
                      have h6 : len7 = (TidyClass.part id (succR l) (l.start, 0) i (c + 1)).length := by rw [HM1.out]; exact HL7.out
                      rw [h6] at h1
                      rw [h6]
                      exact ⟨c + 1, _, cap7, a5, cp5, by rw [← HKK.out, ← HWW.out]; exact hcl, by go_num, rfl, rfl, h1, HB5.out⟩
                    case measure => simp [intOf]; omega
                  · rw [if_neg hd7] at cN
                    have hde : d = len7 := by have := idx_le id (TidyClass.part id (succR l) (l.start, 0) i c) (t, p); rw [← HDD.out, ← HL7.out] at this; omega
                    have HDE := Lib.hid hde
                    have hnidx : ¬ idx id (TidyClass.part id (succR l) (l.start, 0) i c) (t, p) < (TidyClass.part id (succR l) (l.start, 0) i c).length := by rw [← HDD.out, ← HL7.out]; exact hd7
                    have HE2 := Lib.hid (HE1.out.setInt [_] [_] (i := y) (by rw [tv_length]; exact hyj) (.int .i64 (len7 : Nat)))
                    have HB2' := Lib.hid (HB1.out.setCell (p := ⟨w.heap.size + 1, y, none⟩) (by show w.heap.size + 1 ≤ w.heap.size + 1; omega) (.int .i64 (len7 : Nat)))
                    have HM1 := Lib.hid (show TidyClass.part id (succR l) (l.start, 0) i (c + 1) = TidyClass.part id (succR l) (l.start, 0) i c ++ [(t, p)] by
                      rw [HY1.out]; unfold meet; rw [if_neg hnidx])
                    have HT1 := Lib.hid (show (tv j (numT z (TidyClass.part id (succR l) (l.start, 0) i c))).set y (.int .i64 (len7 : Nat)) = tv j (numT z (TidyClass.part id (succR l) (l.start, 0) i (c + 1))) by
                      rw [tv_set, HY1.out]
                      refine tv_congr fun i' hi' => ?_
                      rw [numT_meet (p := (t, p)) HHPZ.out hnidx, ← HYC.out, ← HL7.out])
                    rw [HT1.out] at HE2
                    have HLL := Lib.hid (show (iv (cv z (TidyClass.part id (succR l) (l.start, 0) i c))).length = len7 by rw [iv_length, cv_length]; exact HL7.out.symm)
                    clear hde hd7 hnidx
                    go_wp2_with (first
                      | (at_builtin; refine wpList_push rfl _ _ 52 rfl 2 (.int .i64 0) 8 Tryd.underlying52 info2 (by decide) (by decide) (w.heap.size + 1) (.slice (some ⟨g7', 0, none⟩) len7 cap7) _ (.int .i64 y) (Own.get [_, _] _ HE2.out.own) (Kp.size HB2'.out) rfl (by rw [HLL.out]; have := hlen8.out; omega) rfl _ rfl (by simp [World.setCell]) ?_; intro v5 w5 hp5; obtain ⟨a5, n5', cp5, rfl, HN5⟩ := hp5.lst.shape'; have HE5 := Lib.hid (HE2.out.pushInt [_, _] [] hp5); have HB5 := Lib.hid (HB2'.out.grown hp5.grow (Kp.size HB2'.out) (fun q hq => (Own.get [_, _] _ HE2.out.own).ge hq)); clear hp5; have cN5 := (Own.get [_] _ HE5.out.own).cellOf (i := y) (by rw [tv_length]; exact hyj); rw [tv_get, show numT z (TidyClass.part id (succR l) (l.start, 0) i (c + 1)) y = (len7 : Int) by rw [HY1.out, numT_meet (p := (t, p)) HHPZ.out (by rw [← HDD.out, ← HL7.out, HDE.out]; exact Nat.lt_irrefl _), if_pos HYC.out, ← HL7.out]] at cN5; have hl5 := lt_of_block HE5.out.at_)
                      | (at_builtin; refine wpList_push rfl _ _ 52 rfl 2 (.int .i64 0) 8 Tryd.underlying52 info2 (by decide) (by decide) (w.heap.size + 1) (.slice a11 c cap11) _ (.int .i64 len7) (Own.get [] _ HE5.out.own) (Kp.size HB5.out) rfl (by rw [HRL.out]; omega) rfl _ rfl rfl ?_; intro v6 w6 hp6; obtain ⟨a6, n6, cp6, rfl, HN6⟩ := hp6.lst.shape'; have HE6 := Lib.hid (HE5.out.pushInt [] [_, _] hp6); have HB6 := Lib.hid (HB5.out.grown hp6.grow (Kp.size HB5.out) (fun q hq => (Own.get [] _ HE5.out.own).ge hq)); clear hp6))
                    go_roundw
                    case rel =>
                      have h6 : n6 = c + 1 := by rw [HN6.out, List.length_append, HRL.out]; rfl
                      subst h6
                      have h7 : n5' = (TidyClass.part id (succR l) (l.start, 0) i (c + 1)).length := by rw [HN5.out, HM1.out, List.length_append, List.length_append, HLL.out, HL7.out]; rfl
                      have h1 := HE6.out
                      rw [List.nil_append, show (((row0 l (s, e)).take c).map (Value.int .i64) ++ [Value.int .i64 (len7 : Int)]) = ((row0 l (s, e)).take (c + 1)).map (Value.int .i64) by rw [HY2.out, List.map_append, HDE.out]; rfl,
                        show iv (cv z (TidyClass.part id (succR l) (l.start, 0) i c)) ++ [Value.int .i64 (y : Int)] = iv (cv z (TidyClass.part id (succR l) (l.start, 0) i (c + 1))) by rw [iv_push, HM1.out, HYC.out]; unfold cv; rw [List.map_append]; rfl, h7] at h1
                      rw [h7]
                      exact ⟨c + 1, _, cp5, a6, cp6, by rw [← HKK.out, ← HWW.out]; exact hcl, by go_num, rfl, rfl, h1, HB6.out⟩
                    case measure => simp [intOf]; omega
            · obtain rfl : c = wd := by omega
              have hb2 := (Kp.cell HB3.out (p := ⟨bp, 2, none⟩) hbp).trans c2
              obtain ⟨a9, b9, o9, cp9, e9, -, haa9, hca9⟩ := HA.out _ HB3.out
              have e9' : aa = a9 := by injection e9
              subst e9'
              have hsl : s < (relOf l).accept.length := by show s < l.acc.length; rw [← HNN.out]; exact hsn
              obtain ⟨rfl, -⟩ := haa9 (by omega)
              have hac : wr.cell? ⟨b9, o9 + s, none⟩ = some (.bool ((relOf l).accept.getD s false)) := hca9 s hsl
              obtain ⟨u, hu⟩ : ∃ u, u = l.acc.getD s false := ⟨_, rfl⟩
              have hu' : u = (relOf l).accept.getD s false := hu
              rw [← hu'] at hac
              have HU := Lib.hid hu
              have k2 := HE.out.c2
              have k3' := HE.out.c3
              have hZl := HE.out.lt
              have hfz := cells_free HE.out.at_ 2
              have hfz3 := cells_free HE.out.at_ 3
              clear hca9 haa9 e9 hu hu' hsl
              go_upto_region 27 with (go_at_call 32; refine (HWD.out _).mono ?_; rintro e w' ⟨rfl, rfl⟩)
              have HED := Lib.hid HE.out.drew
              have HBD := Lib.hid HB3.out.drew
              have HAL := Lib.hid (show (((F l).take i).map fun p => Value.bool (l.acc.getD p.1 false)).length ≤ 100000000 by rw [List.length_map, List.length_take]; have := HPB.out (l.acc.length * 8); have := HNN.out; unfold F; omega)
              have HIL := Lib.hid (show (items.map Prod.fst).length ≤ 100000000 by
                have := congrArg List.length HI.out
                rw [List.length_map, List.length_map, List.length_take] at this
                have h8 := HPB.out (l.acc.length * 8)
                have h9 := HNN.out
                unfold F at this
                rw [List.length_map, this]; omega)
              have HSZ8 := Lib.hid (show i < 800000 by have h8 := HPB.out i; have h9 := HNN.out; have h10 := HLEN.out; omega)
              have HFT := Lib.hid (take_succ_getD (F l) (s, e) i HIF.out)
              have HFG := Lib.hid (show (F l).getD i (s, e) = (s, e) by rw [List.getD, List.getElem?_eq_getElem HIF.out, Option.getD_some]; exact HPP.out.symm)
              have HPE := Lib.hid (show TidyClass.part id (succR l) (l.start, 0) i c = places l (i + 1) from part_all id (succR l) (l.start, 0) HIB.out (by rw [succR_length, ← HKK.out, HWW.out]; exact Nat.le_refl _))
              go_cut [] (fun wx => ∃ va', Bld wx (w.heap.size + 1) (Z + 1) k 0 va' vn ((.slice a11 c cap11, ((row0 l (s, e)).take c).map (Value.int .i64)) :: [(.slice (some ⟨w.heap.size + 1, 0, none⟩) j j, tv j (numT z (TidyClass.part id (succR l) (l.start, 0) i c))), (.slice a7 len7 cap7, iv (cv z (TidyClass.part id (succR l) (l.start, 0) i c)))]) items ((((F l).take i).map fun p => .bool (l.acc.getD p.1 false)) ++ [.bool u]) ∧ Kp w wx)
              case first =>
                go_region_law (refine step_push rfl _ _ 22 rfl 4 (.bool false) 1 Tryd.underlying22 info4 (by decide) (by decide) (w.heap.size + 1) va _ (.bool u) HED.out.acc (Kp.size HBD.out) rfl HAL.out (by simp [Act.eval, Act.put]) _ (by simp [Act.eval, Act.put]) rfl ?_; intro v4 w4 hp4; obtain ⟨a4, n4, cp4, rfl, HN4⟩ := hp4.lst.shape'; have o4 := HED.out.obAcc hp4; have q2 := (cells_get o4 2); have z2 := cells_free o4 2; have hl4 := (lt_of_block o4); have HE4 := Lib.hid (HED.out.pushAcc hp4); have HB4 := Lib.hid ((HBD.out.grown hp4.grow (Kp.size HBD.out) (fun q hq => HED.out.acc.ge hq)).setCell (p := ⟨Z + 1, 2, none⟩) HED.out.obB (.slice a4 n4 cp4)); simp at q2; clear hp4 o4)
                all_goals
                  go_wp2_with fail
                  go_meet
                  exact ⟨_, HE4.out, HB4.out⟩
              case rest =>
                obtain ⟨va4, hcb, hcb2⟩ := hcut
                have HE4 := Lib.hid hcb
                have HB4 := Lib.hid hcb2
                have q3 := hcb.c3
                have hl4 := hcb.lt
                have z3 := cells_free hcb.at_ 3
                clear hcb hcb2
                have hi8 := HSZ8.out
                go_wp2_with (at_builtin; refine wpList_push rfl _ _ 23 rfl 52 (.slice none 0 0) 24 Tryd.underlying23 info54 (by decide) (by decide) (w.heap.size + 1) vn _ (.slice a11 c cap11) HE4.out.nxt (Kp.size HB4.out) rfl HIL.out rfl _ rfl rfl ?_; intro v5 w5 hp5; obtain ⟨a5, n5, cp5, rfl, HN5⟩ := hp5.lst.shape'; have o5 := HE4.out.obNext hp5; have q5 := (cells_get o5 3); have z5 := cells_free o5 3; have hl5 := (lt_of_block o5); have HE5 := Lib.hid (HE4.out.pushNext [] [_, _] hp5); have HB5 := Lib.hid ((HB4.out.grown hp5.grow (Kp.size HB4.out) (fun q hq => HE4.out.nxt.ge hq)).setCell (p := ⟨Z + 1, 3, none⟩) HE4.out.obB (.slice a5 n5 cp5)); simp at q5; clear hp5 o5)
                go_roundw
                case rel =>
                  have h1 := HE5.out
                  rw [List.nil_append] at h1
                  have h3 : [Value.bool u] = List.map (fun p : Nat × Nat => Value.bool (l.acc.getD p.1 false)) [(s, e)] := by rw [HU.out]; rfl
                  rw [h3, ← List.map_append] at h1
                  have h5 : (F l).take (i + 1) = (F l).take i ++ [(s, e)] := by rw [HFT.out, HFG.out]
                  rw [← h5, HPE.out] at h1
                  have h6 : len7 = (places l (i + 1)).length := by rw [HL7.out, HPE.out]
                  rw [h6] at h1
                  rw [h6]
                  refine ⟨i + 1, a7, cap7, _, _, _, ?_, ?_, rfl, h1, ?_, HB5.out⟩
                  · have h2 := (bfs_step id (succR l) (l.start, 0) i).length_le; have h3 := HIB.out; show i + 1 ≤ (bfs id (succR l) (l.start, 0) (i + 1)).length; exact Nat.le_trans h3 h2
                  · go_num
                  · rw [h5, List.map_append, List.map_append, HI.out]
                    have h4 : (row0 l (s, e)).take c = row0 l (s, e) := List.take_of_length_le (by rw [row0_length, ← HKK.out, HWW.out]; exact Nat.le_refl _)
                    rw [h4]; rfl
                case measure => have := HSZ8.out; simp [intOf]; omega
        · obtain rfl : i = len := by omega
          have hFe : places l i = F l := by
            have := end_len id (succR l) (l.start, 0) HPB.out (i := i) (Nat.le_of_eq HLEN.out.symm)
            exact this.symm
          have HFL := Lib.hid (show (F l).length = i by rw [← hFe]; exact HLEN.out.symm)
          have HF0 := Lib.hid (show items.map Prod.snd = (List.range i).map (contV l 0 0) by
            rw [HI.out]
            apply List.ext_getElem
            · simp [HFL.out]
            · intro j h1 h2
              have hj : j < i := by simpa using h2
              have hjF : j < (F l).length := by rw [HFL.out]; exact hj
              simp only [List.getElem_map, List.getElem_take, List.getElem_range]
              unfold contV
              rw [if_neg (Nat.not_lt_zero j), ite_self, rowV_zero]
              simp [List.getD, hjF])
          have hil : items.length = i := by have := congrArg List.length HF0.out; simpa using this
          have HILN := Lib.hid hil
          have k3' := HD.out.c3
          have hZl := HD.out.lt
          have hi8 : i ≤ 800000 := by have h8 := HPB.out i; have h9 := HNN.out; have h10 := HLEN.out; omega
          obtain ⟨an, nn, cn, rfl, HNNN⟩ := HD.out.nxt.shape'
          have hnn' : nn = i := by rw [HNNN.out, List.length_map, HILN.out]
          subst hnn'
          clear hFe hil hlt hi
          go_wp2_with fail
          go_loopw [16, 17] (fun s16 _ wr' => ∃ (i2 : Nat) (items2 : List (Value × List Value)), i2 ≤ nn ∧ s16 = .int .i64 i2 ∧ items2.map Prod.fst = items.map Prod.fst ∧ items2.map Prod.snd = (List.range nn).map (contV l i2 0) ∧
            Bld wr' (w.heap.size + 1) (Z + 1) k 0 va (.slice an nn cn) [(.slice (some ⟨w.heap.size + 1, 0, none⟩) j j, tv j (numT z (places l nn))), (.slice a7 nn cap7, iv (cv z (places l nn)))] items2 (((F l).take nn).map fun p => .bool (l.acc.getD p.1 false)) ∧ Kp w wr') (fun s16 _ _ => nn - (intOf s16).toNat)
          case atStart => exact ⟨0, items, Nat.zero_le _, rfl, rfl, HF0.out, HD.out, HB2.out⟩
          case round =>
            obtain ⟨i2, items2, hi2, rfl, hfst, hsnd, hbld, hbel⟩ := hrel
            have HD2 := Lib.hid hbld
            have HB5 := Lib.hid hbel
            have HFS := Lib.hid hfst
            have HSN := Lib.hid hsnd
            have q3 := hbld.c3
            have hlb := hbld.lt
            clear hbld hbel hfst hsnd k3' hZl HD HF0 HI
            by_cases hl2 : i2 < nn
            · obtain ⟨wd, hwd⟩ : ∃ wd, wd = wide l.k := ⟨_, rfl⟩
              have hw26 : wd ≤ 26 := by rw [hwd]; have := wide_cases hl.k0 hl.k3; omega
              have hw2 : 2 ≤ wd := by rw [hwd]; have := wide_cases hl.k0 hl.k3; omega
              have HWW := Lib.hid hwd
              clear hwd
              go_wp2_with fail
              go_loopw [17] (fun s17 wr' => ∃ (c : Nat) (items3 : List (Value × List Value)), c ≤ wd ∧ s17 = .int .i64 c ∧ items3.map Prod.fst = items.map Prod.fst ∧ items3.map Prod.snd = (List.range nn).map (contV l i2 c) ∧
                Bld wr' (w.heap.size + 1) (Z + 1) k 0 va (.slice an nn cn) [(.slice (some ⟨w.heap.size + 1, 0, none⟩) j j, tv j (numT z (places l nn))), (.slice a7 nn cap7, iv (cv z (places l nn)))] items3 (((F l).take nn).map fun p => .bool (l.acc.getD p.1 false)) ∧ Kp w wr') (fun s17 _ => wd - (intOf s17).toNat)
              case atStart => exact ⟨0, items2, Nat.zero_le _, rfl, HFS.out, HSN.out, HD2.out, HB5.out⟩
              case round =>
                obtain ⟨c, items3, hc, rfl, hfst, hsnd, hbld, hbel⟩ := hrel
                have HD3 := Lib.hid hbld
                have HB6 := Lib.hid hbel
                have HF3 := Lib.hid hfst
                have HS3 := Lib.hid hsnd
                have hl3 : items3.length = nn := by have := congrArg List.length hsnd; simpa using this
                have h3i : i2 < items3.length := by rw [hl3]; exact hl2
                have hsn : items3[i2].2 = rowV l ((F l).getD i2 (0, 0)) c := by
                  have := congrArg (fun x => x[i2]?) hsnd
                  simp [h3i, hl2] at this
                  rw [this, contV_self]
                have hit := hbld.item h3i
                obtain ⟨gr, capr, hv, -, -, -⟩ := hit.view (by rw [hsn, rowV_length _ _ _ (by rw [← HWW.out]; exact hc), ← HWW.out]; omega)
                rw [hsn, rowV_length _ _ _ (by rw [← HWW.out]; exact hc), ← HWW.out] at hv
                have hpair : items3[i2] = (.slice (some ⟨gr, 0, none⟩) wd capr, rowV l ((F l).getD i2 (0, 0)) c) := Prod.ext hv hsn
                have HPAIR := Lib.hid hpair
                have H3I := Lib.hid h3i
                rw [hpair] at hit
                obtain ⟨gn, rfl, hgn⟩ := hbld.nxt.addr (by rw [List.length_map, hl3]; omega)
                have n4 := hbld.nxt.cellOf (i := i2) (by rw [List.length_map]; exact h3i)
                rw [List.getElem_map, hpair] at n4
                have n4' : wr.cell? ⟨gn, i2, none⟩ = some (.slice (some ⟨gr, 0, none⟩) wd capr) := n4
                have q3 := hbld.c3
                have hlb := hbld.lt
                have HL3 := Lib.hid hl3
                clear hfst hsnd hv hsn hpair n4 HD2 HB5 HFS HSN hl3
                by_cases hcw : c < wd
                · have hcl := Lib.hid (show c < wide l.k by rw [← HWW.out]; exact hcw)
                  have hlen := Lib.hid (show c < (rowV l ((F l).getD i2 (0, 0)) c).length by rw [rowV_length _ _ _ (by have := hcl.out; omega)]; exact hcl.out)
                  have cr := hit.cellOf (i := c) hlen.out
                  rw [rowV_get _ _ hcl.out hlen.out] at cr
                  have fr := hit.free c
                  have hra := rows_at l ((F l).getD i2 (0, 0)) hcl.out
                  have HKEEP := Lib.hid (rowV_keep l ((F l).getD i2 (0, 0)) hcl.out)
                  have HSTEP := Lib.hid (rowV_step l ((F l).getD i2 (0, 0)) hcl.out)
                  obtain ⟨x0', hx0'⟩ : ∃ x, x = (row0 l ((F l).getD i2 (0, 0))).getD c 0 := ⟨_, rfl⟩
                  obtain ⟨y0, hy0⟩ : ∃ y, y = (rowM l ((F l).getD i2 (0, 0))).getD c 0 := ⟨_, rfl⟩
                  rw [← hx0'] at cr hra HKEEP
                  rw [← hy0] at hra HKEEP HSTEP
                  clear hx0' hy0 hbld hbel hit
                  rcases hra with ⟨rfl, hy0⟩ | ⟨h0, hxy⟩
                  · have hy0' : y0 = nn := by rw [hy0]; exact HFL.out
                    have HD4 := Lib.hid (HD3.out.setItem H3I.out HPAIR.out hlen.out (.int .i64 (nn : Nat)))
                    have HB7 := Lib.hid (HB6.out.setCell (p := ⟨gr, c, none⟩) (by
                      have := (HD3.out.item H3I.out)
                      rw [HPAIR.out] at this
                      exact this.ge (k := gr) rfl) (.int .i64 (nn : Nat)))
                    rw [← hy0'] at HD4
                    rw [HSTEP.out, hy0'] at HD4
                    have HFST := Lib.hid (show (items3.set i2 (.slice (some ⟨gr, 0, none⟩) wd capr, rowV l ((F l).getD i2 (0, 0)) (c + 1))).map Prod.fst = items.map Prod.fst by
                      rw [List.map_set, ← HF3.out]
                      have : (Value.slice (some ⟨gr, 0, none⟩) wd capr, rowV l ((F l).getD i2 (0, 0)) (c + 1)).1 = (items3.map Prod.fst)[i2]'(by rw [List.length_map]; exact H3I.out) := by rw [List.getElem_map, HPAIR.out]
                      rw [this, List.set_getElem_self])
                    have HSND := Lib.hid (show (items3.set i2 (.slice (some ⟨gr, 0, none⟩) wd capr, rowV l ((F l).getD i2 (0, 0)) (c + 1))).map Prod.snd = (List.range nn).map (contV l i2 (c + 1)) by
                      rw [List.map_set, HS3.out]
                      exact set_range nn i2 _ _ _ hl2 (contV_self l i2 (c + 1)).symm (fun j hj => contV_other l i2 c (c + 1) hj))
                    clear hy0 hy0'
                    go_wp2_with fail
                    go_roundw
                    case rel => exact ⟨c + 1, _, hcw, by go_num, HFST.out, HSND.out, HD4.out, HB7.out⟩
                    case measure => simp [intOf]; omega
                  · have HSND := Lib.hid (show items3.map Prod.snd = (List.range nn).map (contV l i2 (c + 1)) by
                      rw [HS3.out]
                      refine List.map_congr_left fun j hj => ?_
                      by_cases e : j = i2
                      · subst e; rw [contV_self, contV_self, HKEEP.out hxy]
                      · exact contV_other l i2 c (c + 1) e)
                    clear hxy
                    go_wp2_with fail
                    go_roundw
                    case rel => exact ⟨c + 1, _, hcw, by go_num, HF3.out, HSND.out, HD3.out, HB6.out⟩
                    case measure => simp [intOf]; omega
                · obtain rfl : c = wd := by omega
                  have HSND := Lib.hid (show items3.map Prod.snd = (List.range nn).map (contV l (i2 + 1) 0) by
                    rw [HS3.out, HWW.out]
                    exact List.map_congr_left fun j hj => contV_next l i2 j)
                  clear hbld hbel hit
                  go_wp2_with fail
                  go_roundw
                  case rel => exact ⟨i2 + 1, _, hl2, by go_num, HF3.out, HSND.out, HD3.out, HB6.out⟩
                  case measure => simp [intOf]; omega
            · obtain rfl : i2 = nn := by omega
              obtain ⟨szr, hszr⟩ : ∃ szr, szr = wr.heap.size := ⟨_, rfl⟩
              have HIN := Lib.hid (show Bld (wr.alloc (.cells #[] 2)) (w.heap.size + 1) (Z + 1) k 0 va (.slice an i2 cn) ((.slice (some ⟨szr, 0, none⟩) 0 0, List.replicate 0 (Value.int .i64 (i2 : Nat))) :: [(.slice (some ⟨w.heap.size + 1, 0, none⟩) j j, tv j (numT z (places l i2))), (.slice a7 i2 cap7, iv (cv z (places l i2)))]) items2 (((F l).take i2).map fun p => .bool (l.acc.getD p.1 false)) by
                have h1 := Lst.empty wr (w.heap.size + 1) 2 (Kp.size HB5.out)
                rw [← hszr] at h1
                exact HD2.out.addInt ((Below.refl _ _).alloc (Nat.le_refl _) _) h1 (fun q hq => by cases hq; rw [hszr]; exact Nat.le_refl _))
              have HBI := Lib.hid (HB5.out.alloc ((Kp.size HB5.out)) (.cells #[] 2))
              have HWD := Lib.hid (fun W => (wideAny (k : Int) (by omega) (by omega) W))
              rw [wide_eq k0 k3] at HWD
              obtain ⟨wd, hwd⟩ : ∃ wd, wd = wide k := ⟨_, rfl⟩
              rw [← hwd] at HWD
              have hw26 : wd ≤ 26 := by rw [hwd]; have := wide_cases k0 k3; omega
              have HWW := Lib.hid hwd
              clear hwd HD2
              go_wp2_with fail
              rw [← hszr]
              clear hszr
              go_loopw [18, 19] (fun s18 s19 wr' => ∃ (c : Nat) (a18 : Option Addr) (cap18 : Nat), c ≤ wd ∧ s19 = .int .i64 c ∧ s18 = .slice a18 c cap18 ∧
                Bld wr' (w.heap.size + 1) (Z + 1) k 0 va (.slice an i2 cn) ((.slice a18 c cap18, List.replicate c (Value.int .i64 (i2 : Nat))) :: [(.slice (some ⟨w.heap.size + 1, 0, none⟩) j j, tv j (numT z (places l i2))), (.slice a7 i2 cap7, iv (cv z (places l i2)))]) items2 (((F l).take i2).map fun p => .bool (l.acc.getD p.1 false)) ∧ Kp w wr') (fun _ s19 _ => 26 - (intOf s19).toNat)
              case atStart => exact ⟨0, _, _, Nat.zero_le _, rfl, rfl, HIN.out, HBI.out⟩
              case round =>
                obtain ⟨c, a18, cap18, hc, rfl, rfl, hbld, hbel⟩ := hrel
                have HE := Lib.hid hbld
                have HB6 := Lib.hid hbel
                have hb0 := (Kp.cell HB6.out (p := ⟨bp, 0, none⟩) hbp).trans c0
                have HRL := Lib.hid (show (List.replicate c (Value.int .i64 (i2 : Nat))).length = c by simp)
                clear hbld hbel HIN HBI HB5
                by_cases hcl : c < wd
                · go_wp2_with (first | (go_at_call 32; refine (HWD.out _).mono ?_; rintro e w' ⟨rfl, rfl⟩) | (at_builtin; refine wpList_push rfl _ _ 52 rfl 2 (.int .i64 0) 8 Tryd.underlying52 info2 (by decide) (by decide) (w.heap.size + 1) _ _ (.int .i64 (i2 : Nat)) (Own.get [] _ HE.out.own) (Kp.size HB6.out) rfl (by rw [HRL.out]; omega) rfl _ rfl rfl ?_; intro v5 w5 hp5; obtain ⟨a5, n5, cp5, rfl, HN5⟩ := hp5.lst.shape'; have HE5 := Lib.hid (HE.out.pushInt [] [_, _] hp5); have HB7 := Lib.hid (HB6.out.grown hp5.grow (Kp.size HB6.out) (fun q hq => (Own.get [] _ HE.out.own).ge hq)); clear hp5))
                  go_roundw
                  case rel =>
                    have h5 : n5 = c + 1 := by rw [HN5.out, List.length_append, HRL.out]; rfl
                    subst h5
                    have h1 := HE5.out
                    rw [List.nil_append, show List.replicate c (Value.int .i64 (i2 : Nat)) ++ [Value.int .i64 (i2 : Nat)] = List.replicate (c + 1) (Value.int .i64 (i2 : Nat)) from (List.replicate_succ' ..).symm] at h1
                    exact ⟨c + 1, a5, cp5, hcl, by go_num, rfl, h1, HB7.out⟩
                  case measure => simp [intOf]; omega
                · obtain rfl : c = wd := by omega
                  have k2 := HE.out.c2
                  have k3' := HE.out.c3
                  have hZl := HE.out.lt
                  have hfz := cells_free HE.out.at_ 2
                  have hfz3 := cells_free HE.out.at_ 3
                  have HAL := Lib.hid (show (((F l).take i2).map fun p => Value.bool (l.acc.getD p.1 false)).length ≤ 100000000 by rw [List.length_map, List.length_take, HFL.out]; omega)
                  have HIL := Lib.hid (show (items2.map Prod.fst).length ≤ 100000000 by rw [HFS.out, List.length_map, HILN.out]; omega)
                  go_upto_region 43 with (go_at_call 32; refine (HWD.out _).mono ?_; rintro e w' ⟨rfl, rfl⟩)
                  go_upto_region 44 with (at_builtin; refine wpList_push rfl _ _ 22 rfl 4 (.bool false) 1 Tryd.underlying22 info4 (by decide) (by decide) (w.heap.size + 1) va _ (.bool false) HE.out.acc (Kp.size HB6.out) rfl HAL.out rfl _ rfl rfl ?_; intro v4 w4 hp4; obtain ⟨a4, n4, cp4, rfl, HN4⟩ := hp4.lst.shape'; have o4 := HE.out.obAcc hp4; have q2 := (cells_get o4 2); have z2 := cells_free o4 2; have hl4 := (lt_of_block o4); have HE4 := Lib.hid (HE.out.pushAcc hp4); have HB8 := Lib.hid ((HB6.out.grown hp4.grow (Kp.size HB6.out) (fun q hq => HE.out.acc.ge hq)).setCell (p := ⟨Z + 1, 2, none⟩) HE.out.obB (.slice a4 n4 cp4)); simp at q2; clear hp4 o4; have q3 := HE4.out.c3)
                  go_wp2_with (at_builtin; refine wpList_push rfl _ _ 23 rfl 52 (.slice none 0 0) 24 Tryd.underlying23 info54 (by decide) (by decide) (w.heap.size + 1) (.slice an i2 cn) _ (.slice a18 c cap18) HE4.out.nxt (Kp.size HB8.out) rfl HIL.out rfl _ rfl (by simp [World.setCell]) ?_; intro v5 w5 hp5; obtain ⟨a5, n5, cp5, rfl, HN5⟩ := hp5.lst.shape'; have o5 := HE4.out.obNext hp5; have q5 := (cells_get o5 3); have z5 := cells_free o5 3; have hl5 := (lt_of_block o5); have HE5 := Lib.hid (HE4.out.pushNext [] [_, _] hp5); have HB9 := Lib.hid ((HB8.out.grown hp5.grow (Kp.size HB8.out) (fun q hq => HE4.out.nxt.ge hq)).setCell (p := ⟨Z + 1, 3, none⟩) HE4.out.obB (.slice a5 n5 cp5)); simp at q5; clear hp5 o5; have y0 := cells_get HE5.out.at_ 0; have y1 := cells_get HE5.out.at_ 1; have y2 := cells_get HE5.out.at_ 2; have y3 := cells_get HE5.out.at_ 3; have r0 := cells_get (Kp.res HB9.out) 0; have r1 := cells_get (Kp.res HB9.out) 1; have r2 := cells_get (Kp.res HB9.out) 2; have r3 := cells_get (Kp.res HB9.out) 3; have f0 := cells_free (Kp.res HB9.out) 0; have f1 := cells_free (Kp.res HB9.out) 1; have f2 := cells_free (Kp.res HB9.out) 2; have f3 := cells_free (Kp.res HB9.out) 3; simp at y0 y1 y2 y3 r0 r1 r2 r3)
                  clear HA HN HM HX0 HSS
                  have p0 := cells_set (Kp.res HB9.out) 0 (.int .i64 k)
                  have p1 := cells_set p0 1 (.int .i64 0)
                  have p2 := cells_set p1 2 (.slice a4 n4 cp4)
                  have p3 := cells_set p2 3 (.slice a5 n5 cp5)
                  simp at p3
                  have g0 := cells_get p3 0
                  have g1 := cells_get p3 1
                  have g2 := cells_get p3 2
                  have g3 := cells_get p3 3
                  simp at g0 g1 g2 g3
                  have HBL := Lib.hid (show Built (w5.setCell ⟨Z + 1, 3, none⟩ (.slice a5 n5 cp5)) (w.heap.size + 1) (.slice a4 n4 cp4) (.slice a5 n5 cp5) (accM l) ((nxM l).map ofN) from Built.of_bld HE5.out (accs_end l i2 HFL.out) (by
                      rw [List.map_append, HSN.out, ← rows_end l i2 HFL.out, ← HKK.out, ← HWW.out]; rfl))
                  have HKF := Lib.hid HKK.out
                  clear y0 y1 y2 y3 r0 r1 r2 r3 f0 f1 f2 f3 q2 q3 q5 z2 z5 p0 p1 p2
                  refine bodyPost_ret (v := .agg #[.int .i64 k, .int .i64 0, .slice a4 n4 cp4, .slice a5 n5 cp5]) (by simp [results, Tryd.results30, go_sem, g0, g1, g2, g3]) rfl ⟨.slice a4 n4 cp4, .slice a5 n5 cp5, by rw [HKF.out], ?_, ?_⟩
                  · exact (((((HBL.out.setLow (a := ⟨w.heap.size, 0, none⟩) (Nat.lt_succ_self _) _).setLow (a := ⟨w.heap.size, 1, none⟩) (Nat.lt_succ_self _) _).setLow (a := ⟨w.heap.size, 2, none⟩) (Nat.lt_succ_self _) _).setLow (a := ⟨w.heap.size, 3, none⟩) (Nat.lt_succ_self _) _).mono (Nat.le_succ _))
                  · exact (((((Kp.base HB9.out).setCell (p := ⟨w.heap.size, 0, none⟩) (Nat.le_refl _) _).setCell (p := ⟨w.heap.size, 1, none⟩) (Nat.le_refl _) _).setCell (p := ⟨w.heap.size, 2, none⟩) (Nat.le_refl _) _).setCell (p := ⟨w.heap.size, 3, none⟩) (Nat.le_refl _) _)
end Go.Proofs.YtaimealknkhfbaaDoor.SpecRight
