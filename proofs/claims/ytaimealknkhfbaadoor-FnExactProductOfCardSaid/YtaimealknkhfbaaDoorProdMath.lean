
/- An automaton with one tape more, tidied before or not.
   Conditions: stated at each theorem. -/
import Derived.Test.YtaimealknkhfbaaDoorTakesRun
namespace Go.Proofs.YtaimealknkhfbaaDoor.ProdMath
set_option linter.unusedVariables false
set_option linter.unusedSimpArgs false
set_option maxRecDepth 100000
open Go.RowKit TidyMath TidyAuto TidyRight PairMath First FirstTidy TapeMath TakesRun

/-- The pads that are known without the new tape are known with it. -/
def padB (k a e e' : Nat) : Bool := decide (e < 8) && decide (e' < 2 ^ k) && (List.range k).all fun t => !(e'.testBit t) || e.testBit (if t < a then t else t + 1)
def padFine : Bool := (List.range 3).all fun k => k == 0 || (List.range (k + 1)).all fun a => (List.range 8).all fun e => (List.range 8).all fun e' => (List.range (wide (k + 1))).all fun c =>
  !(padB k a e e' && fol e (pd (k + 1) c)) || (if leftN (k + 1) a c = wide k then padB k a (pd (k + 1) c) e' else fol e' (pd k (leftN (k + 1) a c)) && padB k a (pd (k + 1) c) (pd k (leftN (k + 1) a c)))
theorem padFine_true : padFine = true := by decide +kernel
theorem pad_step {k a e e' c : Nat} (h1 : 1 ≤ k) (h2 : k ≤ 2) (ha : a ≤ k) (hc : c < wide (k + 1)) (hf : fol e (pd (k + 1) c) = true) (hp : padB k a e e' = true) :
    (leftN (k + 1) a c = wide k → padB k a (pd (k + 1) c) e' = true) ∧ (leftN (k + 1) a c ≠ wide k → fol e' (pd k (leftN (k + 1) a c)) = true ∧ padB k a (pd (k + 1) c) (pd k (leftN (k + 1) a c)) = true) := by
  have h := padFine_true
  unfold padFine at h
  have hb := hp
  unfold padB at hb
  rw [Bool.and_eq_true, Bool.and_eq_true] at hb
  have he := of_decide_eq_true hb.1.1
  have he' := of_decide_eq_true hb.1.2
  have he8 : e' < 8 := by
    have : k = 1 ∨ k = 2 := by omega
    rcases this with rfl | rfl
    · have : (2 : Nat) ^ 1 = 2 := rfl
      omega
    · have : (2 : Nat) ^ 2 = 4 := rfl
      omega
  have hk := List.all_eq_true.1 h k (List.mem_range.2 (by omega))
  rw [Bool.or_eq_true] at hk
  rcases hk with hk | hk
  · simp at hk; omega
  · have g1 := List.all_eq_true.1 hk a (List.mem_range.2 (by omega))
    have g2 := List.all_eq_true.1 g1 e (List.mem_range.2 he)
    have g3 := List.all_eq_true.1 g2 e' (List.mem_range.2 he8)
    have g4 := List.all_eq_true.1 g3 c (List.mem_range.2 hc)
    rw [hp, hf] at g4
    refine ⟨fun hh => ?_, fun hh => ?_⟩
    · rw [if_pos hh] at g4; simpa using g4
    · rw [if_neg hh] at g4; simpa using g4
theorem pad_zero (k a : Nat) : padB k a 0 0 = true := by
  unfold padB
  rw [Bool.and_eq_true, Bool.and_eq_true]
  refine ⟨⟨by decide, decide_eq_true (Nat.pos_of_ne_zero (by have := Nat.one_le_two_pow (n := k); omega))⟩, List.all_eq_true.2 fun t _ => by simp⟩
/-- One tape more: tidied before or not, the tidy automaton is the same. -/
theorem tidL_left {l : L} (h : l.Ok) (h2 : l.k ≤ 2) {a : Nat} (ha : a ≤ l.k) : tidL (reL (tidL l) (l.k + 1) (leftN (l.k + 1) a)) = tidL (reL l (l.k + 1) (leftN (l.k + 1) a)) := by
  obtain ⟨e1, e2⟩ := tidy_reL h (j := l.k + 1) (φ := leftN (l.k + 1) a) (by omega) (by omega) (fun c hc => (left_fin h.k0 h2 ha hc).1) (fun e e' => padB l.k a e e' = true) (pad_zero _ _) (fun e e' c hc hf hp => pad_step h.k0 h2 ha hc hf hp)
  exact tidL_eq rfl e1 e2
/-- An automaton with so many tapes more, behind its own (z) or before them. -/
def growA (z : Bool) (l : L) : Nat := if z = true then l.k else 0
theorem growA_le (z : Bool) (l : L) : growA z l ≤ l.k := by unfold growA; split <;> omega
def grow (z : Bool) (l : L) : Nat → L
  | 0 => l
  | i + 1 => reL (grow z l i) ((grow z l i).k + 1) (leftN ((grow z l i).k + 1) (growA z (grow z l i)))
theorem grow_k (z : Bool) (l : L) (i : Nat) : (grow z l i).k = l.k + i := by
  induction i with
  | zero => rfl
  | succ i ih => show (grow z l i).k + 1 = _; omega
theorem grow_acc (z : Bool) (l : L) (i : Nat) : (grow z l i).acc = l.acc := by
  induction i with
  | zero => rfl
  | succ i ih => exact ih
theorem grow_start (z : Bool) (l : L) (i : Nat) : (grow z l i).start = l.start := by
  induction i with
  | zero => rfl
  | succ i ih => exact ih
theorem grow_ok {l : L} (h : l.Ok) (z : Bool) (i : Nat) : l.k + i ≤ 3 → (grow z l i).Ok := by
  induction i with
  | zero => exact fun _ => h
  | succ i ih =>
    intro hi
    have h1 := ih (by omega)
    have hk := grow_k z l i
    have h0 := h1.k0
    exact reL_ok h1 (by omega) (by omega) fun c hc => (left_fin h1.k0 (by omega) (growA_le z _) hc).1
/-- A tape more of the tidy one, tidied: the tidy one of a tape more. -/
theorem grow_tid {l : L} (h : l.Ok) (z : Bool) (i : Nat) (hi : l.k + i + 1 ≤ 3) : tidL (reL (tidL (grow z l i)) ((grow z l i).k + 1) (leftN ((grow z l i).k + 1) (growA z (grow z l i)))) = tidL (grow z l (i + 1)) := by
  have h1 := grow_ok h z i (by omega)
  have hk := grow_k z l i
  exact tidL_left h1 (by omega) (growA_le z _)
end Go.Proofs.YtaimealknkhfbaaDoor.ProdMath
