
/- Plain facts on the columns of a tuple of words.
   Conditions: none. -/
import Derived.Test.YthebmpdkiocbmaaDoorWordMath
import Derived.Test.YthebmpdkiocbmaaDoorMem
namespace Go.Proofs.YthebmpdkiocbmaaDoor.ColMath
set_option linter.unusedVariables false
set_option linter.unusedSimpArgs false
open WordMath Mem

/-- What a word has in a column: 0, 1, or 2 for the pad. -/
def dig (s : ByteArray) (i : Nat) : Int := if h : i < s.size then ((s[i]'h).toNat : Int) - 97 else 2
def pow3 : Nat → Int
  | 0 => 1
  | k + 1 => 3 * pow3 k
def colTo (ss : List ByteArray) (i : Nat) : Nat → Int
  | 0 => 0
  | k + 1 => colTo ss i k + dig (ss.getD k ByteArray.empty) i * pow3 k
def someTo (ss : List ByteArray) (i k : Nat) : Bool := (ss.take k).any fun s => decide (i < s.size)
def width : List ByteArray → Nat
  | [] => 0
  | s :: r => max s.size (width r)
/-- The columns of a tuple. -/
def cols (ss : List ByteArray) : List Int := (List.range (width ss)).map fun i => colTo ss i ss.length

theorem some_width (ss : List ByteArray) (i : Nat) : (ss.any fun s => decide (i < s.size)) = decide (i < width ss) := by
  induction ss with
  | nil => simp [width]
  | cons s r ih =>
    rw [List.any_cons, ih, show width (s :: r) = max s.size (width r) from rfl, Bool.eq_iff_iff]
    simp only [Bool.or_eq_true, decide_eq_true_eq]
    omega

theorem someTo_all (ss : List ByteArray) (i k : Nat) (h : ss.length ≤ k) : someTo ss i k = decide (i < width ss) := by
  unfold someTo
  rw [List.take_of_length_le h, some_width]

theorem someTo_zero (ss : List ByteArray) (i : Nat) : someTo ss i 0 = false := rfl

theorem someTo_succ (ss : List ByteArray) (i k : Nat) (h : k < ss.length) : someTo ss i (k + 1) = (someTo ss i k || decide (i < (ss.getD k ByteArray.empty).size)) := by
  unfold someTo
  rw [take_succ_getD ss ByteArray.empty k h, List.any_append]
  simp

theorem width_le (ss : List ByteArray) (h : ss.all wordB = true) : width ss ≤ 40 := by
  induction ss with
  | nil => exact Nat.zero_le _
  | cons s r ih =>
    rw [List.all_cons, Bool.and_eq_true] at h
    have h1 : s.size ≤ 40 := by
      have := h.1
      unfold wordB at this
      rw [Bool.and_eq_true] at this
      exact of_decide_eq_true this.2
    have := ih h.2
    rw [show width (s :: r) = max s.size (width r) from rfl]
    omega

theorem letter_at {s : ByteArray} (h : wordB s = true) {i : Nat} (hi : i < s.size) : letter (s[i]'hi) = true := by
  unfold wordB good at h
  rw [Bool.and_eq_true] at h
  have := List.all_eq_true.1 h.1 (s[i]'hi) (by
    have : s[i]'hi = s.data.toList[i]'(by simpa using hi) := rfl
    rw [this]; exact List.getElem_mem _)
  exact this

theorem word_byte {s : ByteArray} (h : wordB s = true) {i : Nat} (hi : i < s.size) : ((s[i]'hi).toNat : Int) = 97 ∨ ((s[i]'hi).toNat : Int) = 98 := letter_or _ (letter_at h hi)

theorem dig_in {s : ByteArray} {i : Nat} (hi : i < s.size) : dig s i = ((s[i]'hi).toNat : Int) - 97 := by unfold dig; rw [dif_pos hi]
theorem dig_out {s : ByteArray} {i : Nat} (hi : ¬ i < s.size) : dig s i = 2 := by unfold dig; rw [dif_neg hi]

theorem dig_bound {s : ByteArray} (h : wordB s = true) (i : Nat) : 0 ≤ dig s i ∧ dig s i ≤ 2 := by
  by_cases hi : i < s.size
  · rw [dig_in hi]; rcases word_byte h hi with e | e <;> omega
  · rw [dig_out hi]; omega

theorem word_getD {ss : List ByteArray} (h : ss.all wordB = true) {k : Nat} (hk : k < ss.length) : wordB (ss.getD k ByteArray.empty) = true := by
  have : ss.getD k ByteArray.empty = ss[k] := by simp [List.getD, hk]
  rw [this]
  exact List.all_eq_true.1 h _ (List.getElem_mem _)

theorem pow3_bound (k : Nat) (h : k ≤ 3) : 1 ≤ pow3 k ∧ pow3 k ≤ 27 ∧ (k ≤ 2 → pow3 k ≤ 9) := by
  have : k = 0 ∨ k = 1 ∨ k = 2 ∨ k = 3 := by omega
  rcases this with rfl | rfl | rfl | rfl <;> simp [pow3]

theorem colTo_bound {ss : List ByteArray} (h : ss.all wordB = true) (i k : Nat) (hk : k ≤ ss.length) (h3 : k ≤ 3) : 0 ≤ colTo ss i k ∧ colTo ss i k ≤ pow3 k - 1 := by
  induction k with
  | zero => simp [colTo, pow3]
  | succ k ih =>
    obtain ⟨a, b⟩ := ih (by omega) (by omega)
    obtain ⟨c, d⟩ := dig_bound (word_getD h (by omega : k < ss.length)) i
    obtain ⟨p, _, q⟩ := pow3_bound k (by omega)
    rw [show colTo ss i (k + 1) = colTo ss i k + dig (ss.getD k ByteArray.empty) i * pow3 k from rfl, show pow3 (k + 1) = 3 * pow3 k from rfl]
    have : dig (ss.getD k ByteArray.empty) i = 0 ∨ dig (ss.getD k ByteArray.empty) i = 1 ∨ dig (ss.getD k ByteArray.empty) i = 2 := by omega
    rcases this with e | e | e <;> rw [e] <;> omega

/-- The first m columns. -/
def colsTo (ss : List ByteArray) (m : Nat) : List Int := (List.range m).map fun i => colTo ss i ss.length
theorem colsTo_succ (ss : List ByteArray) (m : Nat) : colsTo ss (m + 1) = colsTo ss m ++ [colTo ss m ss.length] := by
  unfold colsTo; rw [List.range_succ]; simp
theorem colsTo_length (ss : List ByteArray) (m : Nat) : (colsTo ss m).length = m := by simp [colsTo]
theorem cols_eq (ss : List ByteArray) : cols ss = colsTo ss (width ss) := rfl
theorem cols_length (ss : List ByteArray) : (cols ss).length = width ss := by simp [cols]
end Go.Proofs.YthebmpdkiocbmaaDoor.ColMath
