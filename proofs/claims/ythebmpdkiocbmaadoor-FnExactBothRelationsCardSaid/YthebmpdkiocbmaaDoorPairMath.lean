
/- Plain facts: the tidy automaton is an automaton again; the automaton of pairs of states of two automata.
   Conditions: stated at each theorem. -/
import Derived.Test.YthebmpdkiocbmaaDoorSpecRight
namespace Go.Proofs.YthebmpdkiocbmaaDoor.PairMath
set_option linter.unusedVariables false
set_option linter.unusedSimpArgs false
open TidyMath TidyClass TidyAuto TidyRight SpecFiner SpecRight

/-- The tidy automaton. -/
def tidL (l : L) : L := ⟨l.k, 0, tidyAcc l, (tid (auM l) 0).map fun s => ((auM l).nx s).map fun t => idx (cls (auM l) (stop (auM l) + 1)) (tid (auM l) 0) t⟩
theorem tidL_rel (l : L) : relOf (tidL l) = ⟨l.k, 0, tidyAcc l, tidyNext l⟩ := by
  unfold relOf tidL tidyNext tidNext tidRow
  simp only [List.map_map]
  congr 1
  refine List.map_congr_left fun s _ => ?_
  show ofN (List.map _ _) = List.map _ _
  unfold ofN
  rw [List.map_map]
  rfl
theorem tidyAcc_pos (l : L) : 0 < (tidyAcc l).length := by
  unfold tidyAcc tidAcc
  rw [List.length_map]
  exact bfs_pos _ _ _ _
theorem auM_row {l : L} (h : l.Ok) {s : Nat} (hs : s < (auM l).n) : ((auM l).nx s).length = wide l.k := by
  have hs' : s < (F l).length + 1 := hs
  by_cases e : s < (F l).length
  · rw [auM_nx e]
    unfold rowM
    rw [List.length_map, succR_length]
  · obtain rfl : s = (F l).length := by omega
    rw [auM_dead, List.length_replicate]
theorem tidL_ok {l : L} (h : l.Ok) : (tidL l).Ok := by
  have hF := fits h
  have hlen : (tidL l).acc.length = (tid (auM l) 0).length := by unfold tidL tidyAcc tidAcc; rw [List.length_map]
  have hrow : ∀ s (hs : s < (tid (auM l) 0).length), (tidL l).nx.getD s [] = ((auM l).nx (tid (auM l) 0)[s]).map fun t => idx (cls (auM l) (stop (auM l) + 1)) (tid (auM l) 0) t := by
    intro s hs
    unfold tidL
    simp [List.getD, hs]
  have hin : ∀ s (hs : s < (tid (auM l) 0).length), (tid (auM l) 0)[s] < (auM l).n := fun s hs => met_lt hF _ _ (List.getElem_mem hs)
  refine ⟨h.k0, h.k3, tidyAcc_pos l, ?_, fun s hs => ?_, fun s hs c hc => ?_⟩
  · rw [hlen]; unfold tidL; rw [List.length_map]
  · rw [hlen] at hs
    rw [hrow s hs, List.length_map, auM_row h (hin s hs)]
    rfl
  · rw [hlen] at hs ⊢
    rw [hrow s hs]
    have hr := auM_row h (hin s hs)
    have hc' : c < ((auM l).nx (tid (auM l) 0)[s]).length := by rw [hr]; exact hc
    have e : (((auM l).nx (tid (auM l) 0)[s]).map fun t => idx (cls (auM l) (stop (auM l) + 1)) (tid (auM l) 0) t).getD c 0 = idx (cls (auM l) (stop (auM l) + 1)) (tid (auM l) 0) (((auM l).nx (tid (auM l) 0)[s])[c]) := by
      simp [List.getD, hc']
    rw [e]
    have hB := met_few hF
    have hjb := end_before _ _ _ hB (i := s) hs
    have hget : (bfs (cls (auM l) (stop (auM l) + 1)) (sucs (auM l)) 0 s)[s] = (tid (auM l) 0)[s] := (prefix_get (end_prefix _ _ _ hB _) hjb).symm
    refine bfs_found (cls (auM l) (stop (auM l) + 1)) (sucs (auM l)) 0 (i := most (auM l)) (j := s) (Nat.lt_of_lt_of_le hs (hB _)) hjb _ ?_
    rw [hget]
    exact List.mem_map_of_mem (List.getElem_mem hc')

/-- The automaton of pairs. -/
def pairL (t : Bool → Bool → Bool) (l m : L) : L :=
  ⟨l.k, l.start * m.acc.length + m.start,
   (List.range (l.acc.length * m.acc.length)).map fun x => t (l.acc.getD (x / m.acc.length) false) (m.acc.getD (x % m.acc.length) false),
   (List.range (l.acc.length * m.acc.length)).map fun x => (List.range (wide l.k)).map fun c => (l.nx.getD (x / m.acc.length) []).getD c 0 * m.acc.length + (m.nx.getD (x % m.acc.length) []).getD c 0⟩
theorem pair_lt {a b n m : Nat} (ha : a < n) (hb : b < m) : a * m + b < n * m := by
  have h1 : a * m + b < (a + 1) * m := by rw [Nat.add_mul]; omega
  exact Nat.lt_of_lt_of_le h1 (Nat.mul_le_mul_right m ha)
theorem pairL_len (t : Bool → Bool → Bool) (l m : L) : (pairL t l m).acc.length = l.acc.length * m.acc.length := by simp [pairL]
theorem pairL_ok (t : Bool → Bool → Bool) {l m : L} (hl : l.Ok) (hm : m.Ok) (hk : l.k = m.k) : (pairL t l m).Ok := by
  have hpos : 0 < m.acc.length := Nat.lt_of_le_of_lt (Nat.zero_le _) hm.st
  refine ⟨hl.k0, hl.k3, ?_, ?_, fun x hx => ?_, fun x hx c hc => ?_⟩
  · rw [pairL_len]; exact pair_lt hl.st hm.st
  · rw [pairL_len]; simp [pairL]
  · rw [pairL_len] at hx
    simp [pairL, List.getD, hx]
  · rw [pairL_len] at hx ⊢
    have hc' : c < wide l.k := hc
    have e : ((pairL t l m).nx.getD x []).getD c 0 = (l.nx.getD (x / m.acc.length) []).getD c 0 * m.acc.length + (m.nx.getD (x % m.acc.length) []).getD c 0 := by
      simp [pairL, List.getD, hx, hc']
    rw [e]
    exact pair_lt (hl.lt _ (Nat.div_lt_of_lt_mul (by rw [Nat.mul_comm]; exact hx)) c hc') (hm.lt _ (Nat.mod_lt _ hpos) c (by rw [← hk]; exact hc'))
theorem pair_div {p q n : Nat} (hq : q < n) : (p * n + q) / n = p := by
  rw [Nat.mul_comm, Nat.mul_add_div (by omega), Nat.div_eq_of_lt hq, Nat.add_zero]
theorem pair_mod {p q n : Nat} (hq : q < n) : (p * n + q) % n = q := by
  rw [Nat.mul_comm, Nat.mul_add_mod, Nat.mod_eq_of_lt hq]
/-- A row of the automaton of pairs. -/
def rowPQ (l m : L) (p q : Nat) : List Int := (List.range (wide l.k)).map fun c => (((l.nx.getD p []).getD c 0 * m.acc.length + (m.nx.getD q []).getD c 0 : Nat) : Int)
theorem rel_next_len (t : Bool → Bool → Bool) (l m : L) : (relOf (pairL t l m)).next.length = l.acc.length * m.acc.length := by simp [pairL, relOf]
theorem acc_next (t : Bool → Bool → Bool) (l m : L) {p q : Nat} (hp : p < l.acc.length) (hq : q < m.acc.length) :
    (pairL t l m).acc.take (p * m.acc.length + q + 1) = (pairL t l m).acc.take (p * m.acc.length + q) ++ [t (l.acc.getD p false) (m.acc.getD q false)] := by
  have hx := pair_lt hp hq
  rw [List.take_succ_eq_append_getElem (by rw [pairL_len]; exact hx)]
  congr 2
  simp only [pairL, List.getElem_map, List.getElem_range]
  rw [pair_div hq, pair_mod hq]
theorem next_next (t : Bool → Bool → Bool) (l m : L) {p q : Nat} (hp : p < l.acc.length) (hq : q < m.acc.length) :
    (relOf (pairL t l m)).next.take (p * m.acc.length + q + 1) = (relOf (pairL t l m)).next.take (p * m.acc.length + q) ++ [rowPQ l m p q] := by
  have hx := pair_lt hp hq
  rw [List.take_succ_eq_append_getElem (by rw [rel_next_len]; exact hx)]
  congr 2
  simp only [relOf, pairL, List.getElem_map, List.getElem_range]
  rw [pair_div hq, pair_mod hq]
  unfold ofN rowPQ
  rw [List.map_map]
  rfl
theorem mul_le_pair {a b n m : Nat} (ha : a < n) (hb : b < m) (h : n * m ≤ 1000) : a * m ≤ 1000 ∧ a * m + b ≤ 1000 := by
  have := pair_lt ha hb
  omega
theorem sides {n m : Nat} (hn : 0 < n) (hm : 0 < m) (h : n * m ≤ 1000) : n ≤ 1000 ∧ m ≤ 1000 :=
  ⟨Nat.le_trans (Nat.le_mul_of_pos_right n hm) h, Nat.le_trans (Nat.le_mul_of_pos_left m hn) h⟩
end Go.Proofs.YthebmpdkiocbmaaDoor.PairMath
