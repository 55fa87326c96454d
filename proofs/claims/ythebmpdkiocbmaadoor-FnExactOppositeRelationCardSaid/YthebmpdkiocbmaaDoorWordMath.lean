
/- Plain facts on lists of bytes: which of them are made of the letters a and b alone.
   Conditions: none. -/
import Derived.WalkKit
namespace Go.Proofs.YthebmpdkiocbmaaDoor.WordMath
set_option linter.unusedVariables false
set_option linter.unusedSimpArgs false

def letter (c : UInt8) : Bool := c == 97 || c == 98
def good (l : List UInt8) : Bool := l.all letter
def wordB (s : ByteArray) : Bool := good s.data.toList && decide (s.size ≤ 40)

theorem good_snoc (l : List UInt8) (c : UInt8) : good (l ++ [c]) = (good l && letter c) := by
  simp [good]

theorem take_snoc (s : ByteArray) (k : Nat) (h : k < s.size) : s.data.toList.take (k + 1) = s.data.toList.take k ++ [s[k]] := by
  rw [List.take_succ_eq_append_getElem (by simpa using h)]; rfl

theorem letter_a (c : UInt8) (h : (c.toNat : Int) = 97) : letter c = true := by
  have : c = 97 := UInt8.toNat_inj.1 (by simpa using (by omega : c.toNat = 97))
  subst this; rfl

theorem letter_b (c : UInt8) (h : (c.toNat : Int) = 98) : letter c = true := by
  have : c = 98 := UInt8.toNat_inj.1 (by simpa using (by omega : c.toNat = 98))
  subst this; rfl

theorem letter_no (c : UInt8) (h : ¬ (c.toNat : Int) = 97) (h2 : ¬ (c.toNat : Int) = 98) : letter c = false := by
  unfold letter
  rw [Bool.or_eq_false_iff]
  constructor
  · rw [beq_eq_false_iff_ne]; intro e; subst e; exact h rfl
  · rw [beq_eq_false_iff_ne]; intro e; subst e; exact h2 rfl

theorem letter_or (c : UInt8) (h : letter c = true) : (c.toNat : Int) = 97 ∨ (c.toNat : Int) = 98 := by
  by_cases h1 : (c.toNat : Int) = 97
  · exact .inl h1
  · by_cases h2 : (c.toNat : Int) = 98
    · exact .inr h2
    · rw [letter_no c h1 h2] at h; cases h

theorem good_yes (s : ByteArray) (k : Nat) (h : k < s.size) (g : good (s.data.toList.take k) = true) (hc : letter s[k] = true) :
    good (s.data.toList.take (k + 1)) = true := by
  rw [take_snoc s k h, good_snoc, g, hc]; rfl

theorem good_no (s : ByteArray) (k : Nat) (h : k < s.size) (hc : letter s[k] = false) : good s.data.toList = false := by
  have e : s.data.toList = s.data.toList.take (k + 1) ++ s.data.toList.drop (k + 1) := (List.take_append_drop _ _).symm
  have g : good (s.data.toList.take (k + 1)) = false := by rw [take_snoc s k h, good_snoc, hc]; simp
  rw [e]; unfold good at *; rw [List.all_append, g]; rfl

theorem good_all (s : ByteArray) (g : good (s.data.toList.take s.size) = true) : good s.data.toList = true := by
  rwa [List.take_of_length_le (by simp)] at g

theorem word_no (s : ByteArray) (k : Nat) (h : k < s.size) (hc : letter s[k] = false) : wordB s = false := by
  unfold wordB; rw [good_no s k h hc]; rfl

theorem word_long (s : ByteArray) (h : 40 < s.size) : wordB s = false := by
  unfold wordB; rw [decide_eq_false (by omega)]; simp

theorem word_end (s : ByteArray) (g : good (s.data.toList.take s.size) = true) : wordB s = decide (s.size ≤ 40) := by
  unfold wordB; rw [good_all s g]; rfl

end Go.Proofs.YthebmpdkiocbmaaDoor.WordMath
