
/- Numbers and their binary digits as letters, the lowest one first.
   Conditions: none. -/
import Derived.Test.YticpmakpajnilaaWordMath
namespace Go.Proofs.Yticpmakpajnilaa.NumMath
set_option linter.unusedVariables false
set_option linter.unusedSimpArgs false
open WordMath

def digs (n : Nat) : List Int := if n = 0 then [] else (97 + (n : Int) % 2) :: digs (n / 2)
termination_by n
decreasing_by omega

theorem digs_zero : digs 0 = [] := by unfold digs; simp
theorem digs_pos (n : Nat) (h : 0 < n) : digs n = (97 + (n : Int) % 2) :: digs (n / 2) := by
  conv => lhs; unfold digs
  rw [if_neg (by omega)]
theorem digs_len (k : Nat) : ∀ n, n < 2 ^ k → (digs n).length ≤ k := by
  induction k with
  | zero => intro n h; have : n = 0 := by simpa using h
            subst this; rw [digs_zero]; exact Nat.le_refl _
  | succ k ih =>
    intro n h
    by_cases h0 : n = 0
    · subst h0; rw [digs_zero]; exact Nat.zero_le _
    · rw [digs_pos n (by omega), List.length_cons]
      have := ih (n / 2) (by rw [Nat.pow_succ] at h; omega)
      omega
theorem digs_len30 (n : Nat) (h : n ≤ 1000000000) : (digs n).length ≤ 30 := digs_len 30 n (by omega)

/-- What is still to come, and what has been put down. -/
theorem digs_step {n m : Nat} {xs : List Int} (h : xs ++ digs m = digs n) (hm : 0 < m) : (xs ++ [97 + (m : Int) % 2]) ++ digs (m / 2) = digs n := by
  rw [← h, digs_pos m hm, List.append_assoc]; rfl
theorem digs_end {n : Nat} {xs : List Int} (h : xs ++ digs 0 = digs n) : xs = digs n := by rw [← h, digs_zero, List.append_nil]
theorem digs_cut {n m : Nat} {xs : List Int} (h : xs ++ digs m = digs n) (hn : n ≤ 1000000000) : xs.length ≤ 30 := by
  have := congrArg List.length h
  rw [List.length_append] at this
  have := digs_len30 n hn
  omega

/-- The number whose digits, the lowest one first, are letters. -/
def num : List UInt8 → Nat
  | [] => 0
  | c :: l => 2 * num l + (c.toNat - 97)

theorem num_lt (l : List UInt8) (h : good l = true) : num l < 2 ^ l.length := by
  induction l with
  | nil => exact Nat.one_pos
  | cons c l ih =>
    have h' : (letter c && good l) = true := h
    rw [Bool.and_eq_true] at h'
    have := ih h'.2
    have hc := letter_or c h'.1
    show 2 * num l + (c.toNat - 97) < 2 ^ (l.length + 1)
    rw [Nat.pow_succ]
    omega

variable {s : ByteArray}
theorem drop_snoc (s : ByteArray) (k : Nat) (h : k < s.size) : s.data.toList.drop k = s[k] :: s.data.toList.drop (k + 1) := by
  rw [List.drop_eq_getElem_cons (by simpa using h)]; rfl
theorem num_snoc (s : ByteArray) (k : Nat) (h : k < s.size) : num (s.data.toList.drop k) = 2 * num (s.data.toList.drop (k + 1)) + (s[k].toNat - 97) := by
  rw [drop_snoc s k h]; rfl
theorem good_drop (s : ByteArray) (k : Nat) (h : good s.data.toList = true) : good (s.data.toList.drop k) = true := by
  unfold good at *
  rw [List.all_eq_true] at *
  exact fun x hx => h x (List.mem_of_mem_drop hx)
theorem good_at (s : ByteArray) (k : Nat) (h : good s.data.toList = true) (hk : k < s.size) : (s[k].toNat : Int) = 97 ∨ (s[k].toNat : Int) = 98 := by
  refine letter_or _ ?_
  unfold good at h
  rw [List.all_eq_true] at h
  refine h _ ?_
  show s.data[k] ∈ _
  exact Array.getElem_mem_toList _
theorem num_small (s : ByteArray) (k : Nat) (h : good s.data.toList = true) (h40 : s.size ≤ 40) : num (s.data.toList.drop k) < 1099511627776 := by
  have h1 := num_lt _ (good_drop s k h)
  have h2 : (s.data.toList.drop k).length ≤ 40 := by
    rw [List.length_drop]
    have : s.data.toList.length = s.size := by simp
    omega
  have h3 : 2 ^ (s.data.toList.drop k).length ≤ 2 ^ 40 := Nat.pow_le_pow_right (by omega) h2
  omega
theorem num_end (s : ByteArray) : num (s.data.toList.drop s.size) = 0 := by
  rw [List.drop_of_length_le (by simp)]; rfl
theorem num_all (s : ByteArray) : num (s.data.toList.drop 0) = num s.data.toList := by rw [List.drop_zero]
theorem num_a (s : ByteArray) (k : Nat) (h : k < s.size) (hc : (s[k].toNat : Int) = 97) : num (s.data.toList.drop k) = 2 * num (s.data.toList.drop (k + 1)) := by
  rw [num_snoc s k h]; omega
theorem num_b (s : ByteArray) (k : Nat) (h : k < s.size) (hc : (s[k].toNat : Int) = 98) : num (s.data.toList.drop k) = 2 * num (s.data.toList.drop (k + 1)) + 1 := by
  rw [num_snoc s k h]; omega
end Go.Proofs.Yticpmakpajnilaa.NumMath
