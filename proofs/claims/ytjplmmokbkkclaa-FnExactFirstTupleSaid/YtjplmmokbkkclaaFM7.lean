
/- Plain facts on the columns of a tuple of words.
   Conditions: none. -/
import Derived.Test.YtjplmmokbkkclaaFM6
import Derived.Test.YtjplmmokbkkclaaFM3
import Derived.Test.YtjplmmokbkkclaaRows
import Derived.WalkKit
import Derived.ProofKit
import Derived.Lib.Hide
import Derived.Deep.RegionWith
namespace Go.Proofs.Ytjplmmokbkkclaa.ColMath
set_option linter.unusedVariables false
set_option linter.unusedSimpArgs false
open WordMath Mem

/-- What a word has in a column: 0, 1, or 2 for the pad. -/
def dig (s : ByteArray) (i : Nat) : Int := if h : i < s.size then ((s[i]'h).toNat : Int) - 97 else 2
def pow3 : Nat → Int
  | 0 => 1
  | k + 1 => 3 * pow3 k
def colTo (ss : List ByteArray) (i : Nat) : Nat → Int
  | 0 => 0
  | k + 1 => colTo ss i k + dig (ss.getD k ByteArray.empty) i * pow3 k
def someTo (ss : List ByteArray) (i k : Nat) : Bool := (ss.take k).any fun s => decide (i < s.size)
def width : List ByteArray → Nat
  | [] => 0
  | s :: r => max s.size (width r)
/-- The columns of a tuple. -/
def cols (ss : List ByteArray) : List Int := (List.range (width ss)).map fun i => colTo ss i ss.length

theorem some_width (ss : List ByteArray) (i : Nat) : (ss.any fun s => decide (i < s.size)) = decide (i < width ss) := by
  induction ss with
  | nil => simp [width]
  | cons s r ih =>
    rw [List.any_cons, ih, show width (s :: r) = max s.size (width r) from rfl, Bool.eq_iff_iff]
    simp only [Bool.or_eq_true, decide_eq_true_eq]
    omega

theorem someTo_all (ss : List ByteArray) (i k : Nat) (h : ss.length ≤ k) : someTo ss i k = decide (i < width ss) := by
  unfold someTo
  rw [List.take_of_length_le h, some_width]

theorem someTo_zero (ss : List ByteArray) (i : Nat) : someTo ss i 0 = false := rfl

theorem someTo_succ (ss : List ByteArray) (i k : Nat) (h : k < ss.length) : someTo ss i (k + 1) = (someTo ss i k || decide (i < (ss.getD k ByteArray.empty).size)) := by
  unfold someTo
  rw [take_succ_getD ss ByteArray.empty k h, List.any_append]
  simp

theorem width_le (ss : List ByteArray) (h : ss.all wordB = true) : width ss ≤ 40 := by
  induction ss with
  | nil => exact Nat.zero_le _
  | cons s r ih =>
    rw [List.all_cons, Bool.and_eq_true] at h
    have h1 : s.size ≤ 40 := by
      have := h.1
      unfold wordB at this
      rw [Bool.and_eq_true] at this
      exact of_decide_eq_true this.2
    have := ih h.2
    rw [show width (s :: r) = max s.size (width r) from rfl]
    omega

theorem letter_at {s : ByteArray} (h : wordB s = true) {i : Nat} (hi : i < s.size) : letter (s[i]'hi) = true := by
  unfold wordB good at h
  rw [Bool.and_eq_true] at h
  have := List.all_eq_true.1 h.1 (s[i]'hi) (by
    have : s[i]'hi = s.data.toList[i]'(by simpa using hi) := rfl
    rw [this]; exact List.getElem_mem _)
  exact this

theorem word_byte {s : ByteArray} (h : wordB s = true) {i : Nat} (hi : i < s.size) : ((s[i]'hi).toNat : Int) = 97 ∨ ((s[i]'hi).toNat : Int) = 98 := letter_or _ (letter_at h hi)

theorem dig_in {s : ByteArray} {i : Nat} (hi : i < s.size) : dig s i = ((s[i]'hi).toNat : Int) - 97 := by unfold dig; rw [dif_pos hi]
theorem dig_out {s : ByteArray} {i : Nat} (hi : ¬ i < s.size) : dig s i = 2 := by unfold dig; rw [dif_neg hi]

theorem dig_bound {s : ByteArray} (h : wordB s = true) (i : Nat) : 0 ≤ dig s i ∧ dig s i ≤ 2 := by
  by_cases hi : i < s.size
  · rw [dig_in hi]; rcases word_byte h hi with e | e <;> omega
  · rw [dig_out hi]; omega

theorem word_getD {ss : List ByteArray} (h : ss.all wordB = true) {k : Nat} (hk : k < ss.length) : wordB (ss.getD k ByteArray.empty) = true := by
  have : ss.getD k ByteArray.empty = ss[k] := by simp [List.getD, hk]
  rw [this]
  exact List.all_eq_true.1 h _ (List.getElem_mem _)

theorem pow3_bound (k : Nat) (h : k ≤ 3) : 1 ≤ pow3 k ∧ pow3 k ≤ 27 ∧ (k ≤ 2 → pow3 k ≤ 9) := by
  have : k = 0 ∨ k = 1 ∨ k = 2 ∨ k = 3 := by omega
  rcases this with rfl | rfl | rfl | rfl <;> simp [pow3]

theorem colTo_bound {ss : List ByteArray} (h : ss.all wordB = true) (i k : Nat) (hk : k ≤ ss.length) (h3 : k ≤ 3) : 0 ≤ colTo ss i k ∧ colTo ss i k ≤ pow3 k - 1 := by
  induction k with
  | zero => simp [colTo, pow3]
  | succ k ih =>
    obtain ⟨a, b⟩ := ih (by omega) (by omega)
    obtain ⟨c, d⟩ := dig_bound (word_getD h (by omega : k < ss.length)) i
    obtain ⟨p, _, q⟩ := pow3_bound k (by omega)
    rw [show colTo ss i (k + 1) = colTo ss i k + dig (ss.getD k ByteArray.empty) i * pow3 k from rfl, show pow3 (k + 1) = 3 * pow3 k from rfl]
    have : dig (ss.getD k ByteArray.empty) i = 0 ∨ dig (ss.getD k ByteArray.empty) i = 1 ∨ dig (ss.getD k ByteArray.empty) i = 2 := by omega
    rcases this with e | e | e <;> rw [e] <;> omega

/-- The first m columns. -/
def colsTo (ss : List ByteArray) (m : Nat) : List Int := (List.range m).map fun i => colTo ss i ss.length
theorem colsTo_succ (ss : List ByteArray) (m : Nat) : colsTo ss (m + 1) = colsTo ss m ++ [colTo ss m ss.length] := by
  unfold colsTo; rw [List.range_succ]; simp
theorem colsTo_length (ss : List ByteArray) (m : Nat) : (colsTo ss m).length = m := by simp [colsTo]
theorem cols_eq (ss : List ByteArray) : cols ss = colsTo ss (width ss) := rfl
theorem cols_length (ss : List ByteArray) : (cols ss).length = width ss := by simp [cols]
end Go.Proofs.Ytjplmmokbkkclaa.ColMath
/- Plain facts on the words that columns spell.
   Conditions: none. -/
namespace Go.Proofs.Ytjplmmokbkkclaa.TupMath
open Mem ColMath

/-- What a column has on a tape. -/
def dg (c : Int) (t : Nat) : Int := c / pow3 t % 3
/-- The letters that columns have on a tape, but for the pads. -/
def wd (cs : List Int) (t : Nat) : List Int := (cs.filter fun c => dg c t != 2).map fun c => 97 + dg c t
def stepOk (cs : List Int) (i t : Nat) : Bool := (dg (cs.getD i 0) t == 2) || !decide ((wd (cs.take i) t).length < i)
def rightB (n : Nat) (cs : List Int) : Bool := (List.range cs.length).all fun i => (List.range n).all fun t => stepOk cs i t

theorem dg_range (c : Int) (t : Nat) : dg c t = 0 ∨ dg c t = 1 ∨ dg c t = 2 := by
  unfold dg; omega
theorem wd_len (cs : List Int) (t : Nat) : (wd cs t).length ≤ cs.length := by
  unfold wd; rw [List.length_map]; exact List.length_filter_le _ _
theorem wd_pad {cs : List Int} {i t : Nat} (hi : i < cs.length) (h : dg (cs.getD i 0) t = 2) : wd (cs.take (i + 1)) t = wd (cs.take i) t := by
  unfold wd
  rw [take_succ_getD cs 0 i hi, List.filter_append]
  have : ¬ (dg (cs.getD i 0) t != 2) = true := by rw [bne_iff_ne]; exact fun e => e h
  rw [List.filter_cons, if_neg this, List.filter_nil, List.append_nil]
theorem wd_letter {cs : List Int} {i t : Nat} (hi : i < cs.length) (h : ¬ dg (cs.getD i 0) t = 2) : wd (cs.take (i + 1)) t = wd (cs.take i) t ++ [97 + dg (cs.getD i 0) t] := by
  unfold wd
  rw [take_succ_getD cs 0 i hi, List.filter_append, List.map_append]
  have : (dg (cs.getD i 0) t != 2) = true := by rw [bne_iff_ne]; exact h
  rw [List.filter_cons, if_pos this]; rfl

theorem right_bad {n : Nat} {cs : List Int} {i t : Nat} (hi : i < cs.length) (ht : t < n) (h : stepOk cs i t = false) : rightB n cs = false := by
  unfold rightB
  rw [List.all_eq_false]
  refine ⟨i, List.mem_range.2 hi, ?_⟩
  rw [Bool.not_eq_true, List.all_eq_false]
  exact ⟨t, List.mem_range.2 ht, by rw [h]; exact Bool.false_ne_true⟩
theorem right_good {n : Nat} {cs : List Int} (h : ∀ i t, i < cs.length → t < n → stepOk cs i t = true) : rightB n cs = true := by
  unfold rightB
  rw [List.all_eq_true]
  intro i hi
  rw [List.all_eq_true]
  intro t ht
  exact h i t (List.mem_range.1 hi) (List.mem_range.1 ht)
end Go.Proofs.Ytjplmmokbkkclaa.TupMath
/- What the two functions that look at a word answer, the program's and the model's.
   Conditions: the text is no longer than a Go text can be. -/
namespace Go.Proofs.Ytjplmmokbkkclaa.Word
open Go.RowKit WordMath

end Go.Proofs.Ytjplmmokbkkclaa.Word
/- Whether all texts of a list are words: what the program and the model answer.
   Conditions: the list is read as XStrs' text says. -/
namespace Go.Proofs.Ytjplmmokbkkclaa.Words
open Go.RowKit Mem Rel Strs Word WordMath

def wordsB (ss : List ByteArray) : Bool := ss.all wordB

theorem all_take_succ {α : Type} (xs : List α) (d : α) (p : α → Bool) (k : Nat) (h : k < xs.length) (g : (xs.take k).all p = true) (e : p (xs.getD k d) = true) :
    (xs.take (k + 1)).all p = true := by
  rw [take_succ_getD xs d k h, List.all_append, g, List.all_cons, e]; rfl
theorem all_false {α : Type} (xs : List α) (d : α) (p : α → Bool) (k : Nat) (h : k < xs.length) (e : p (xs.getD k d) = false) : xs.all p = false := by
  rw [List.all_eq_false]
  exact ⟨xs.getD k d, by simp [List.getD, h], by rw [e]; exact Bool.false_ne_true⟩
theorem all_end {α : Type} (xs : List α) (p : α → Bool) (k : Nat) (h : xs.length ≤ k) (g : (xs.take k).all p = true) : xs.all p = true := by
  rwa [List.take_of_length_le h] at g

end Go.Proofs.Ytjplmmokbkkclaa.Words
/- What the functions on columns of one to three tapes answer, the program's and the model's.
   Conditions: stated at each theorem. -/
namespace Go.Proofs.Ytjplmmokbkkclaa.Columns
set_option linter.unusedVariables false
set_option linter.unusedSimpArgs false
open Go.RowKit

def letA (d : Int) : Int := if d = 0 then 97 else if d = 1 then 98 else 35

theorem idx0 (w : World) : (Instr.index 9 (.string ⟨#[97, 98, 35]⟩) (.int .i64 0)).run Try.prog w = .ok (.int .u8 97) w := by kernel_rfl
theorem idx1 (w : World) : (Instr.index 9 (.string ⟨#[97, 98, 35]⟩) (.int .i64 1)).run Try.prog w = .ok (.int .u8 98) w := by kernel_rfl
theorem idx2 (w : World) : (Instr.index 9 (.string ⟨#[97, 98, 35]⟩) (.int .i64 2)).run Try.prog w = .ok (.int .u8 35) w := by kernel_rfl
theorem idx (d : Int) (h0 : 0 ≤ d) (h3 : d < 3) (w : World) :
    (Instr.index 9 (.string ⟨#[97, 98, 35]⟩) (.int .i64 d)).run Try.prog w = .ok (.int .u8 (letA d)) w := by
  have : d = 0 ∨ d = 1 ∨ d = 2 := by omega
  rcases this with rfl | rfl | rfl
  · exact idx0 w
  · exact idx1 w
  · exact idx2 w

theorem pads (w : World) : Calls Try.prog 70 #[] w fun e w' => e = .returned (.agg #[.int .u8 35, .int .u8 35, .int .u8 35]) ∧ w.alloc (.cells #[.int .u8 35, .int .u8 35, .int .u8 35] 77) = w' := by
  go_enter Try.func70, Try.ntmps70
  go_wp2
  exact bodyPost_ret (v := .agg #[.int .u8 35, .int .u8 35, .int .u8 35]) (by simp [results, Try.results70, go_sem]) rfl ⟨rfl, rfl⟩


set_option maxHeartbeats 400000 in
theorem letters1 (c : Int) (h0 : 0 ≤ c) (h1 : c ≤ 25) (w : World) :
    Calls Try.prog 57 #[.int .i64 1, .int .i64 c] w fun e w' => e = .returned (.agg #[.int .u8 (letA (c % 3)), .int .u8 35, .int .u8 35]) ∧ Grown w w' ∧ Below w.heap.size w w' := by
  have i0 := fun w => idx (c % 3) (by omega) (by omega) w
  go_enter Try.func57, Try.ntmps57
  go_wp2_with (go_at_call 70; refine (pads _).mono ?_; rintro e w' ⟨rfl, rfl⟩)
  refine wp_loop_rounds 2 ?_
  rw [rounds_succ]
  go_wp2
  rw [rounds_succ]
  go_wp2
  exact bodyPost_ret (v := .agg #[.int .u8 (letA (c % 3)), .int .u8 35, .int .u8 35]) (by simp [results, Try.results57, go_sem]) rfl ⟨rfl, by repeat (first | exact Grown.refl _ | apply Grown.drew | apply Grown.alloc), by repeat (first | exact Below.refl _ _ | refine Below.alloc ?_ (by simp; try omega) _)⟩

set_option maxHeartbeats 400000 in
theorem letters2 (c : Int) (h0 : 0 ≤ c) (h1 : c ≤ 25) (w : World) :
    Calls Try.prog 57 #[.int .i64 2, .int .i64 c] w fun e w' => e = .returned (.agg #[.int .u8 (letA (c % 3)), .int .u8 (letA (c / 3 % 3)), .int .u8 35]) ∧ Grown w w' ∧ Below w.heap.size w w' := by
  have i0 := fun w => idx (c % 3) (by omega) (by omega) w
  have i1 := fun w => idx (c / 3 % 3) (by omega) (by omega) w
  go_enter Try.func57, Try.ntmps57
  go_wp2_with (go_at_call 70; refine (pads _).mono ?_; rintro e w' ⟨rfl, rfl⟩)
  refine wp_loop_rounds 3 ?_
  rw [rounds_succ]
  go_wp2
  rw [rounds_succ]
  go_wp2
  rw [rounds_succ]
  go_wp2
  exact bodyPost_ret (v := .agg #[.int .u8 (letA (c % 3)), .int .u8 (letA (c / 3 % 3)), .int .u8 35]) (by simp [results, Try.results57, go_sem]) rfl ⟨rfl, by repeat (first | exact Grown.refl _ | apply Grown.drew | apply Grown.alloc), by repeat (first | exact Below.refl _ _ | refine Below.alloc ?_ (by simp; try omega) _)⟩

set_option maxHeartbeats 400000 in
theorem letters3 (c : Int) (h0 : 0 ≤ c) (h1 : c ≤ 25) (w : World) :
    Calls Try.prog 57 #[.int .i64 3, .int .i64 c] w fun e w' => e = .returned (.agg #[.int .u8 (letA (c % 3)), .int .u8 (letA (c / 3 % 3)), .int .u8 (letA (c / 3 / 3 % 3))]) ∧ Grown w w' ∧ Below w.heap.size w w' := by
  have i0 := fun w => idx (c % 3) (by omega) (by omega) w
  have i1 := fun w => idx (c / 3 % 3) (by omega) (by omega) w
  have i2 := fun w => idx (c / 3 / 3 % 3) (by omega) (by omega) w
  go_enter Try.func57, Try.ntmps57
  go_wp2_with (go_at_call 70; refine (pads _).mono ?_; rintro e w' ⟨rfl, rfl⟩)
  refine wp_loop_rounds 4 ?_
  rw [rounds_succ]
  go_wp2
  rw [rounds_succ]
  go_wp2
  rw [rounds_succ]
  go_wp2
  rw [rounds_succ]
  go_wp2
  exact bodyPost_ret (v := .agg #[.int .u8 (letA (c % 3)), .int .u8 (letA (c / 3 % 3)), .int .u8 (letA (c / 3 / 3 % 3))]) (by simp [results, Try.results57, go_sem]) rfl ⟨rfl, by repeat (first | exact Grown.refl _ | apply Grown.drew | apply Grown.alloc), by repeat (first | exact Below.refl _ _ | refine Below.alloc ?_ (by simp; try omega) _)⟩

theorem validTapes (n : Int) (w : World) :
    Calls Try.prog 54 #[.int .i64 n] w fun e w' => e = .returned (.bool (decide (1 ≤ n ∧ n ≤ 3))) ∧ w = w' := by
  by_cases h : 1 ≤ n
  · by_cases h2 : n ≤ 3
    · go_enter Try.func54, Try.ntmps54
      go_wp2
      go_ret
      exact ⟨by simp [h, h2], rfl⟩
    · have h3 : decide (n ≤ 3) = false := by simpa using h2
      go_enter Try.func54, Try.ntmps54
      go_wp2
      go_ret
      exact ⟨by simp, rfl⟩
  · have h3 : decide (1 ≤ n) = false := by simpa using h
    go_enter Try.func54, Try.ntmps54
    go_wp2
    go_ret
    exact ⟨by simp, rfl⟩

theorem count1 (w : World) : Calls Try.prog 55 #[.int .i64 1] w fun e w' => e = .returned (.int .i64 2) ∧ w = w' := by
  go_enter Try.func55, Try.ntmps55
  go_wp2
  refine wp_loop_rounds 2 ?_
  rw [rounds_succ]
  go_wp2
  rw [rounds_succ]
  go_wp2
  go_ret
  exact ⟨rfl, rfl⟩

theorem count2 (w : World) : Calls Try.prog 55 #[.int .i64 2] w fun e w' => e = .returned (.int .i64 8) ∧ w = w' := by
  go_enter Try.func55, Try.ntmps55
  go_wp2
  refine wp_loop_rounds 3 ?_
  rw [rounds_succ]
  go_wp2
  rw [rounds_succ]
  go_wp2
  rw [rounds_succ]
  go_wp2
  go_ret
  exact ⟨rfl, rfl⟩

theorem count3 (w : World) : Calls Try.prog 55 #[.int .i64 3] w fun e w' => e = .returned (.int .i64 26) ∧ w = w' := by
  go_enter Try.func55, Try.ntmps55
  go_wp2
  refine wp_loop_rounds 4 ?_
  rw [rounds_succ]
  go_wp2
  rw [rounds_succ]
  go_wp2
  rw [rounds_succ]
  go_wp2
  rw [rounds_succ]
  go_wp2
  go_ret
  exact ⟨rfl, rfl⟩

theorem power0 (w : World) : Calls Try.prog 76 #[.int .i64 0] w fun e w' => e = .returned (.int .i64 1) ∧ w = w' := by
  go_enter Try.func76, Try.ntmps76
  go_wp2
  refine wp_loop_rounds 1 ?_
  rw [rounds_succ]
  go_wp2
  go_ret
  exact ⟨rfl, rfl⟩

theorem power1 (w : World) : Calls Try.prog 76 #[.int .i64 1] w fun e w' => e = .returned (.int .i64 3) ∧ w = w' := by
  go_enter Try.func76, Try.ntmps76
  go_wp2
  refine wp_loop_rounds 2 ?_
  rw [rounds_succ]
  go_wp2
  rw [rounds_succ]
  go_wp2
  go_ret
  exact ⟨rfl, rfl⟩

theorem power2 (w : World) : Calls Try.prog 76 #[.int .i64 2] w fun e w' => e = .returned (.int .i64 9) ∧ w = w' := by
  go_enter Try.func76, Try.ntmps76
  go_wp2
  refine wp_loop_rounds 3 ?_
  rw [rounds_succ]
  go_wp2
  rw [rounds_succ]
  go_wp2
  rw [rounds_succ]
  go_wp2
  go_ret
  exact ⟨rfl, rfl⟩

theorem power3 (w : World) : Calls Try.prog 76 #[.int .i64 3] w fun e w' => e = .returned (.int .i64 27) ∧ w = w' := by
  go_enter Try.func76, Try.ntmps76
  go_wp2
  refine wp_loop_rounds 4 ?_
  rw [rounds_succ]
  go_wp2
  rw [rounds_succ]
  go_wp2
  rw [rounds_succ]
  go_wp2
  rw [rounds_succ]
  go_wp2
  go_ret
  exact ⟨rfl, rfl⟩

theorem wide1 (w : World) : Calls Try.prog 66 #[.int .i64 1] w fun e w' => e = .returned (.int .i64 2) ∧ w = w' := by
  go_enter Try.func66, Try.ntmps66
  go_wp2_with (go_at_call 76; refine (power1 _).mono ?_; rintro e w' ⟨rfl, rfl⟩)
  go_ret
  exact ⟨rfl, rfl⟩

theorem wide2 (w : World) : Calls Try.prog 66 #[.int .i64 2] w fun e w' => e = .returned (.int .i64 8) ∧ w = w' := by
  go_enter Try.func66, Try.ntmps66
  go_wp2_with (go_at_call 76; refine (power2 _).mono ?_; rintro e w' ⟨rfl, rfl⟩)
  go_ret
  exact ⟨rfl, rfl⟩

theorem wide3 (w : World) : Calls Try.prog 66 #[.int .i64 3] w fun e w' => e = .returned (.int .i64 26) ∧ w = w' := by
  go_enter Try.func66, Try.ntmps66
  go_wp2_with (go_at_call 76; refine (power3 _).mono ?_; rintro e w' ⟨rfl, rfl⟩)
  go_ret
  exact ⟨rfl, rfl⟩

theorem digit0 (c : Int) (h0 : 0 ≤ c) (h1 : c ≤ 25) (w : World) : Calls Try.prog 69 #[.int .i64 c, .int .i64 0] w fun e w' => e = .returned (.int .i64 (c / 1 % 3)) ∧ w = w' := by
  go_enter Try.func69, Try.ntmps69
  go_wp2_with (go_at_call 76; refine (power0 _).mono ?_; rintro e w' ⟨rfl, rfl⟩)
  go_ret
  exact ⟨by simp, rfl⟩

theorem digit1 (c : Int) (h0 : 0 ≤ c) (h1 : c ≤ 25) (w : World) : Calls Try.prog 69 #[.int .i64 c, .int .i64 1] w fun e w' => e = .returned (.int .i64 (c / 3 % 3)) ∧ w = w' := by
  go_enter Try.func69, Try.ntmps69
  go_wp2_with (go_at_call 76; refine (power1 _).mono ?_; rintro e w' ⟨rfl, rfl⟩)
  go_ret
  exact ⟨by simp, rfl⟩

theorem digit2 (c : Int) (h0 : 0 ≤ c) (h1 : c ≤ 25) (w : World) : Calls Try.prog 69 #[.int .i64 c, .int .i64 2] w fun e w' => e = .returned (.int .i64 (c / 9 % 3)) ∧ w = w' := by
  go_enter Try.func69, Try.ntmps69
  go_wp2_with (go_at_call 76; refine (power2 _).mono ?_; rintro e w' ⟨rfl, rfl⟩)
  go_ret
  exact ⟨by simp, rfl⟩

def inB (x lo hi : Int) : Bool := decide (lo ≤ x ∧ x ≤ hi)
theorem inRange (x lo hi : Int) (w : World) :
    Calls Try.prog 71 #[.int .i64 x, .int .i64 lo, .int .i64 hi] w fun e w' => e = .returned (.bool (inB x lo hi)) ∧ w = w' := by
  by_cases h : lo ≤ x
  · by_cases h2 : x ≤ hi
    · have E : inB x lo hi = true := by simp [inB, h, h2]
      have d1 : decide (lo ≤ x) = true := by simpa using h
      have d2 : decide (x ≤ hi) = true := by simpa using h2
      go_enter Try.func71, Try.ntmps71
      go_wp2
      go_ret
      exact ⟨by first | rfl | (rw [E]; rfl), rfl⟩
    · have E : inB x lo hi = false := by simp [inB, h2]
      have d1 : decide (lo ≤ x) = true := by simpa using h
      have d2 : decide (x ≤ hi) = false := by simpa using h2
      go_enter Try.func71, Try.ntmps71
      go_wp2
      go_ret
      exact ⟨by first | rfl | (rw [E]; rfl), rfl⟩
  · have E : inB x lo hi = false := by simp [inB, h]
    have d1 : decide (lo ≤ x) = false := by simpa using h
    go_enter Try.func71, Try.ntmps71
    go_wp2
    go_ret
    exact ⟨by first | rfl | (rw [E]; rfl), rfl⟩

/-- How many columns there are for one to three tapes. -/
def widthOf (t : Int) : Int := if t = 1 then 2 else if t = 2 then 8 else 26

theorem wideAny (t : Int) (h1 : 1 ≤ t) (h3 : t ≤ 3) (w : World) : Calls Try.prog 66 #[.int .i64 t] w fun e w' => e = .returned (.int .i64 (widthOf t)) ∧ w = w' := by
  have : t = 1 ∨ t = 2 ∨ t = 3 := by omega
  rcases this with rfl | rfl | rfl
  · exact wide1 w
  · exact wide2 w
  · exact wide3 w

theorem countAny (t : Int) (h1 : 1 ≤ t) (h3 : t ≤ 3) (w : World) : Calls Try.prog 55 #[.int .i64 t] w fun e w' => e = .returned (.int .i64 (widthOf t)) ∧ w = w' := by
  have : t = 1 ∨ t = 2 ∨ t = 3 := by omega
  rcases this with rfl | rfl | rfl
  · exact count1 w
  · exact count2 w
  · exact count3 w

end Go.Proofs.Ytjplmmokbkkclaa.Columns
/- What the model's function that makes the columns of a tuple hands back: a new row.
   Conditions: the tuple has at most three words, each of them one. -/
namespace Go.Proofs.Ytjplmmokbkkclaa.SpecCols
open Go.RowKit Mem Copy Rel Strs Word WordMath Words ColMath Columns

theorem powAny (k : Nat) (h : k ≤ 3) (w : World) : Calls Try.prog 76 #[.int .i64 k] w fun e w' => e = .returned (.int .i64 (pow3 k)) ∧ w = w' := by
  have : k = 0 ∨ k = 1 ∨ k = 2 ∨ k = 3 := by omega
  rcases this with rfl | rfl | rfl | rfl
  · exact power0 w
  · exact power1 w
  · exact power2 w
  · exact power3 w

end Go.Proofs.Ytjplmmokbkkclaa.SpecCols
/- What the model's function that makes the words of columns hands back.
   Conditions: stated at each theorem. -/
namespace Go.Proofs.Ytjplmmokbkkclaa.SpecTuple
open Go.RowKit Mem Copy Rel Strs ColMath Columns TupMath MarkT

theorem digAny (c : Int) (t : Nat) (h0 : 0 ≤ c) (h1 : c ≤ 25) (ht : t ≤ 2) (w : World) : Calls Try.prog 69 #[.int .i64 c, .int .i64 t] w fun e w' => e = .returned (.int .i64 (dg c t)) ∧ w = w' := by
  have : t = 0 ∨ t = 1 ∨ t = 2 := by omega
  rcases this with rfl | rfl | rfl
  · exact digit0 c h0 h1 w
  · exact digit1 c h0 h1 w
  · exact digit2 c h0 h1 w

theorem ab0 (w : World) : (Instr.slice 9 (.string ⟨#[97, 98]⟩) (some (.int .i64 0)) (some (.int .i64 1)) none).run Try.prog w = .ok (.string ⟨#[97]⟩) w := by kernel_rfl
theorem ab1 (w : World) : (Instr.slice 9 (.string ⟨#[97, 98]⟩) (some (.int .i64 1)) (some (.int .i64 2)) none).run Try.prog w = .ok (.string ⟨#[98]⟩) w := by kernel_rfl
theorem ab (d : Int) (h0 : 0 ≤ d) (h2 : d < 2) (w : World) :
    (Instr.slice 9 (.string ⟨#[97, 98]⟩) (some (.int .i64 d)) (some (.int .i64 (d + 1))) none).run Try.prog w = .ok (.string (strOfNums [97 + d])) w := by
  have : d = 0 ∨ d = 1 := by omega
  rcases this with rfl | rfl
  · exact ab0 w
  · exact ab1 w

set_option maxHeartbeats 2000000 in
theorem specTuple (n : Nat) (cs : List Int) (va : Value) (w : World) (B : Nat) (hn : n ≤ 3) (ha : Ints w B va cs) (hB : B ≤ w.heap.size) (hl : cs.length ≤ 40) (hc : ∀ i, i < cs.length → 0 ≤ cs.getD i 0 ∧ cs.getD i 0 ≤ 25) :
    Calls Try.prog 52 #[.int .i64 n, va] w fun e w' => e = .returned (.tuple #[.slice (some ⟨w.heap.size, 0, none⟩) n n, .bool (rightB n cs)]) ∧ (rightB n cs = true → w'.rowIs w.heap.size 9 n (fun u => .string (strOfNums (wd cs u)))) ∧ Below w.heap.size w w' := by
  obtain ⟨a, b, off, cap, rfl, hma, haa, hca⟩ := ha
  obtain ⟨m, hm⟩ : ∃ m, m = cs.length := ⟨_, rfl⟩
  rw [← hm] at hma hca haa hl hc
  rw [← hm]
  have HM := Lib.hid hm
  clear hm hma
  have hmk := run_make_row' (P := Try.prog) 27 9 (.string ⟨#[]⟩) 16 Try.underlying27 info9 rfl .i64 .i64 n (by omega) (by omega)
  go_enter Try.func52, Try.ntmps52
  go_wp2
  go_loopw [7, 8, 9] (fun i _ _ wr => ∃ k : Nat, k ≤ m ∧ i = .int .i64 k ∧ wr.rowIs w.heap.size 9 n (fun u => .string (strOfNums (wd (cs.take k) u))) ∧ Below w.heap.size w wr ∧ (∀ i t, i < k → t < n → stepOk cs i t = true)) (fun i _ _ _ => m - (intOf i).toNat)
  case atStart =>
    exact ⟨0, Nat.zero_le _, rfl, (World.rowIs_made _ _ _ _).congr fun i hi => by simp [wd, strOfNums], (Below.refl _ _).alloc (Nat.le_refl _) _, fun i t h => absurd h (Nat.not_lt_zero i)⟩
  case round =>
    obtain ⟨k, hk, rfl, hrow, hbel, hst⟩ := hrel
    by_cases hlt : k < m
    · obtain rfl := (haa (by omega)).1
      have hbB := (haa (by omega)).2
      have hcA := (hca k hlt)
      have hck := hc k hlt
      obtain ⟨x, hx⟩ : ∃ x, x = cs.getD k 0 := ⟨_, rfl⟩
      rw [← hx] at hcA hck
      have HB := Lib.hid hbel
      have HR := Lib.hid hrow
      have HST := Lib.hid hst
      have HX := Lib.hid hx
      clear hbel hrow hst hx hca haa hmk hc
      go_wp2
      go_loopw [8, 9] (fun t _ wr => ∃ u : Nat, u ≤ n ∧ t = .int .i64 u ∧ wr.rowIs w.heap.size 9 n (fun j => .string (strOfNums (wd (cs.take (if j < u then k + 1 else k)) j))) ∧ Below w.heap.size w wr ∧ (∀ j, j < u → stepOk cs k j = true)) (fun t _ _ => n - (intOf t).toNat)
      case atStart => exact ⟨0, Nat.zero_le _, rfl, HR.out.congr fun j hj => by rw [if_neg (Nat.not_lt_zero j)], HB.out, fun j h => absurd h (Nat.not_lt_zero j)⟩
      case round =>
        obtain ⟨u, hu, rfl, hrow, hbel, hst⟩ := hrel
        by_cases hlu : u < n
        · have cA := (hbel.cell (p := ⟨b, off + k, none⟩) (by show b < _; omega)).trans hcA
          have cN := hrow.cell hlu
          have fN := hrow.frozen u
          rw [if_neg (Nat.lt_irrefl u)] at cN
          have HDG := Lib.hid (fun W => digAny x u hck.1 hck.2 (by omega) W)
          have HR' := Lib.hid hrow
          have HB' := Lib.hid hbel
          have HS' := Lib.hid hst
          have hkm : k < cs.length := by rw [← HM.out]; exact hlt
          obtain ⟨d, hd⟩ : ∃ d, d = dg x u := ⟨_, rfl⟩
          have HD := Lib.hid hd
          rw [← hd] at HDG
          obtain ⟨y, hy⟩ : ∃ y, y = wd (cs.take k) u := ⟨_, rfl⟩
          rw [← hy] at cN
          have HY := Lib.hid hy
          have hyl : y.length ≤ 40 := by rw [hy]; have := wd_len (cs.take k) u; rw [List.length_take] at this; omega
          have hys : (strOfNums y).size = y.length := strOfNums_size _
          have hd3 : d = 0 ∨ d = 1 ∨ d = 2 := by rw [hd]; exact dg_range x u
          clear hcA hrow hbel hst hd hy
          go_wp2_with fail
          refine (HDG.out _).mono ?_
          rintro e w' ⟨rfl, rfl⟩
          by_cases h2 : d = 2
          · subst h2
            go_wp2_with fail
            go_roundw
            case rel =>
              refine ⟨u + 1, hlu, by go_num, HR'.out.congr fun j hj => ?_, HB'.out, fun j hj => ?_⟩
              · by_cases e : j = u
                · subst e
                  rw [if_neg (Nat.lt_irrefl j), if_pos (Nat.lt_succ_self j), wd_pad hkm (by rw [← HX.out, ← HD.out])]
                · have h1 : (j < u + 1) = (j < u) := by apply propext; constructor <;> intro h <;> omega
                  simp only [h1]
              · by_cases e : j = u
                · subst e; unfold stepOk; rw [← HX.out, ← HD.out]; rfl
                · exact HS'.out j (by omega)
            case measure => simp [intOf]; omega
          · have hd0 : 0 ≤ d := by omega
            have hd1 : d < 2 := by omega
            have hne : (d == 2) = false := by simp [h2]
            by_cases hlk : y.length < k
            · have HBAD := Lib.hid (right_bad (n := n) hkm hlu (by unfold stepOk; rw [← HX.out, ← HD.out, ← HY.out]; simp [hlk, h2]))
              go_wp2_with fail
              go_ret2
              exact ⟨by rw [HBAD.out]; rfl, fun h => (by rw [HBAD.out] at h; cases h), HB'.out⟩
            · have h1s : (strOfNums [97 + d]).size = 1 := by rw [strOfNums_size]; rfl
              have hsum : (strOfNums y).size + (strOfNums [97 + d]).size ≤ 9223372036854775807 := by omega
              have hwr : IntKind.i64.wrap (d + 1) = d + 1 := by rw [IntKind.wrap_i64]; omega
              have hab := fun W => ab d hd0 hd1 W
              go_wp2_with fail
              go_region_with fail
              all_goals
                go_wp2_with fail
                go_roundw
                case rel =>
                  refine ⟨u + 1, hlu, by go_num, (World.rowIs.set (w := wr.drew) HR'.out u _).congr fun j hj => ?_, HB'.out.drew.setCell (Nat.le_refl _) _, fun j hj => ?_⟩
                  · by_cases e : j = u
                    · subst e
                      rw [if_pos rfl, if_pos (Nat.lt_succ_self j), wd_letter hkm (by rw [← HX.out, ← HD.out]; exact h2), ← HY.out, ← HX.out, ← HD.out, ← strs_add]
                    · have h1 : (j < u + 1) = (j < u) := by apply propext; constructor <;> intro h <;> omega
                      simp only [if_neg e, h1]
                  · by_cases e : j = u
                    · subst e; unfold stepOk; rw [← HX.out, ← HD.out, ← HY.out]; simp [hlk]
                    · exact HS'.out j (by omega)
                case measure => simp [intOf]; omega
        · obtain rfl : u = n := by omega
          have HR' := Lib.hid (hrow.congr (g := fun j => .string (strOfNums (wd (cs.take (k + 1)) j))) fun j hj => by rw [if_pos hj])
          have HB' := Lib.hid hbel
          have HS' := Lib.hid hst
          clear hrow hbel hst hcA
          go_wp2_with fail
          go_roundw
          case rel =>
            refine ⟨k + 1, hlt, by go_num, HR'.out, HB'.out, fun i t hi ht => ?_⟩
            by_cases e : i = k
            · subst e; exact HS'.out t ht
            · exact HST.out i t (by omega) ht
          case measure => simp [intOf]; omega
    · obtain rfl : k = m := by omega
      have HG := Lib.hid (show rightB n cs = true from right_good (fun i t hi ht => hst i t (by rw [HM.out]; exact hi) ht))
      have HR := Lib.hid hrow
      have HB := Lib.hid hbel
      clear hrow hbel hst hca haa hmk hc
      go_wp2
      go_ret2
      exact ⟨by rw [HG.out]; rfl, fun _ => HR.out.congr fun j hj => by rw [HM.out, List.take_length], HB.out⟩
end Go.Proofs.Ytjplmmokbkkclaa.SpecTuple
