
/- Automata of pairs, the two sides changed; a tidy automaton as a relation that has the form.
   Conditions: stated at each theorem. -/
import Derived.Test.YtaimealknkhfbaaDoorRB28
import Derived.Test.YtaimealknkhfbaaDoorRB2
import Derived.Test.YtaimealknkhfbaaDoorRB9
import Derived.Test.YtaimealknkhfbaaDoorRB21
namespace Go.Proofs.YtaimealknkhfbaaDoor.PairSwap
set_option linter.unusedVariables false
set_option linter.unusedSimpArgs false
open Go.RowKit Mem Rel Columns Valid TidyMath TidyAuto TidyRight SpecFiner SpecRight Sim PairMath ToL ImplTidied

theorem pair_nx (t : Bool → Bool → Bool) (l m : L) {p q c : Nat} (hp : p < l.acc.length) (hq : q < m.acc.length) (hc : c < wide l.k) :
    ((pairL t l m).nx.getD (p * m.acc.length + q) []).getD c 0 = (l.nx.getD p []).getD c 0 * m.acc.length + (m.nx.getD q []).getD c 0 := by
  have hx := pair_lt hp hq
  have e : ((pairL t l m).nx.getD (p * m.acc.length + q) []).getD c 0 = (l.nx.getD ((p * m.acc.length + q) / m.acc.length) []).getD c 0 * m.acc.length + (m.nx.getD ((p * m.acc.length + q) % m.acc.length) []).getD c 0 := by
    simp [pairL, List.getD, hx, hc]
  rw [e, pair_div hq, pair_mod hq]
theorem pair_acc (t : Bool → Bool → Bool) (l m : L) {p q : Nat} (hp : p < l.acc.length) (hq : q < m.acc.length) :
    (pairL t l m).acc.getD (p * m.acc.length + q) false = t (l.acc.getD p false) (m.acc.getD q false) := by
  have hx := pair_lt hp hq
  have e : (pairL t l m).acc.getD (p * m.acc.length + q) false = t (l.acc.getD ((p * m.acc.length + q) / m.acc.length) false) (m.acc.getD ((p * m.acc.length + q) % m.acc.length) false) := by
    simp [pairL, List.getD, hx]
  rw [e, pair_div hq, pair_mod hq]
theorem swap_tidy {t : Bool → Bool → Bool} (ht : ∀ a b, t a b = t b a) {l m : L} (hl : l.Ok) (hm : m.Ok) (hk : l.k = m.k) : tidyAcc (pairL t l m) = tidyAcc (pairL t m l) ∧ tidyNext (pairL t l m) = tidyNext (pairL t m l) := by
  refine Pla.tidy (T := fun x y _ => ∃ p q, p < l.acc.length ∧ q < m.acc.length ∧ x = p * m.acc.length + q ∧ y = q * l.acc.length + p) ⟨hk, fun x y e hT => ?_, fun x y e hT c hc hf => ?_⟩ (pairL_ok t hl hm hk) (pairL_ok t hm hl hk.symm) ⟨_, _, hl.st, hm.st, rfl, rfl⟩
  · obtain ⟨p, q, hp, hq, rfl, rfl⟩ := hT
    rw [pair_acc t l m hp hq, pair_acc t m l hq hp, ht]
  · obtain ⟨p, q, hp, hq, rfl, rfl⟩ := hT
    have hc' : c < wide l.k := hc
    have hc2 : c < wide m.k := by rw [← hk]; exact hc'
    rw [pair_nx t l m hp hq hc', pair_nx t m l hq hp hc2]
    exact ⟨_, _, hl.lt p hp c hc', hm.lt q hq c hc2, rfl, rfl⟩
theorem toNat_ofN (x : List Nat) : (ofN x).map Int.toNat = x := by
  unfold ofN
  rw [List.map_map]
  conv => rhs; rw [← List.map_id x]
  exact List.map_congr_left fun y _ => rfl
theorem toL_relOf (l : L) : toL (relOf l) = l := by
  have e : (l.nx.map ofN).map (fun x => x.map Int.toNat) = l.nx := by
    rw [List.map_map]
    conv => rhs; rw [← List.map_id l.nx]
    exact List.map_congr_left fun x _ => toNat_ofN x
  cases l with
  | mk k st acc nx =>
    show L.mk _ _ _ _ = _
    have e' : (nx.map ofN).map (fun x => x.map Int.toNat) = nx := e
    rw [show (relOf ⟨k, st, acc, nx⟩).next.map (fun x => x.map Int.toNat) = nx from e']
    rfl
theorem ok_rel {l : L} (hl : l.Ok) (hn : l.acc.length ≤ 150) : okB (relOf l) = true := by
  have hst := hl.st
  have hw := wide_eq hl.k0 hl.k3
  have h0 := hl.k0
  have h3 := hl.k3
  unfold okB formB headB
  rw [Bool.and_eq_true, Bool.and_eq_true]
  refine ⟨decide_eq_true (by show (l.acc.length : Int) ≤ 150; omega), ?_, ?_⟩
  · rw [Bool.and_eq_true, Bool.and_eq_true, Bool.and_eq_true]
    refine ⟨⟨⟨decide_eq_true (by show (1 : Int) ≤ (l.k : Nat) ∧ ((l.k : Nat) : Int) ≤ 3; omega), decide_eq_true ?_⟩, decide_eq_true (by show (0 : Int) ≤ (l.start : Nat) ∧ ((l.start : Nat) : Int) ≤ (l.acc.length : Int) - 1; omega)⟩, decide_eq_true ?_⟩
    · show (1 : Int) ≤ (l.acc.length : Int)
      omega
    · show ((l.nx.map ofN).length : Int) = (l.acc.length : Int)
      rw [List.length_map, hl.len]
  · rw [List.all_eq_true]
    intro x hx
    obtain ⟨row, hrow, rfl⟩ := List.mem_map.1 hx
    obtain ⟨s, hs, rfl⟩ := List.getElem_of_mem hrow
    have hs' : s < l.acc.length := by rw [← hl.len]; exact hs
    have hg : l.nx.getD s [] = l.nx[s] := by simp [List.getD, hs]
    have hr := hl.row s hs'
    rw [hg] at hr
    unfold rowOk
    rw [Bool.and_eq_true]
    refine ⟨decide_eq_true ?_, ?_⟩
    · show ((ofN l.nx[s]).length : Int) = widthOf ((l.k : Nat) : Int)
      rw [hw, ofN_length, hr]
    · rw [List.all_eq_true]
      intro y hy
      obtain ⟨z, hz, rfl⟩ := List.mem_map.1 hy
      obtain ⟨c, hc, rfl⟩ := List.getElem_of_mem hz
      have hlt := hl.lt s hs' c (by rw [← hr]; exact hc)
      rw [hg] at hlt
      have hlt2 : (l.nx[s])[c] < l.acc.length := by simpa [List.getD, hc] using hlt
      exact decide_eq_true (by show (0 : Int) ≤ (((l.nx[s])[c] : Nat) : Int) ∧ (((l.nx[s])[c] : Nat) : Int) ≤ (l.acc.length : Int) - 1; omega)
end Go.Proofs.YtaimealknkhfbaaDoor.PairSwap
