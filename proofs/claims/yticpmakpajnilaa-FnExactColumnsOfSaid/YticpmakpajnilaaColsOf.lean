
/- What ColumnsOf answers, the program's and the model's: a row of its own, and a code.
   Conditions: the list is read as XStrs' text says. -/
import Derived.Test.YticpmakpajnilaaMark
import Derived.Test.YticpmakpajnilaaSpecCols
import Derived.Test.YticpmakpajnilaaImplCols
import Derived.Test.YticpmakpajnilaaMarkRow
namespace Go.Proofs.Yticpmakpajnilaa.ColsOf
open Go.RowKit Mem Copy Rel Strs Word WordMath Words ColMath Columns SpecCols Numbers ImplCols MarkT MarkRow

def colsC (ss : List ByteArray) : Int := if wordsB ss = true then (if 1 ≤ ss.length ∧ ss.length ≤ 3 then 0 else 2) else 1
def colsL (ss : List ByteArray) : List Int := if wordsB ss = true ∧ 1 ≤ ss.length ∧ ss.length ≤ 3 then cols ss else []

theorem colsC_bad1 {ss : List ByteArray} (h : wordsB ss = false) : colsC ss = 1 := by simp [colsC, h]
theorem colsL_bad1 {ss : List ByteArray} (h : wordsB ss = false) : colsL ss = [] := by simp [colsL, h]
theorem colsC_bad2 {ss : List ByteArray} (h : wordsB ss = true) (h2 : ¬ (1 ≤ ss.length ∧ ss.length ≤ 3)) : colsC ss = 2 := by simp [colsC, h, h2]
theorem colsL_bad2 {ss : List ByteArray} (h2 : ¬ (1 ≤ ss.length ∧ ss.length ≤ 3)) : colsL ss = [] := by simp [colsL, h2]
theorem colsC_yes {ss : List ByteArray} (h : wordsB ss = true) (h1 : 1 ≤ ss.length) (h3 : ss.length ≤ 3) : colsC ss = 0 := by simp [colsC, h, h1, h3]
theorem colsL_yes {ss : List ByteArray} (h : wordsB ss = true) (h1 : 1 ≤ ss.length) (h3 : ss.length ≤ 3) : colsL ss = cols ss := by simp [colsL, h, h1, h3]

/-- What both hand back: a row of their own. -/
def Fresh (base : Nat) (W : World) (v : Value) (xs : List Int) : Prop := W.ownsRow base 2 1 v xs.length (xs.map (Value.int .i64))

theorem fresh_nil (W : World) (base : Nat) : Fresh base W (.slice none 0 0) [] := World.ownsRow_nil _ _ _ _
theorem fresh_lit (W : World) (base : Nat) (h : base ≤ W.heap.size) : Fresh base (W.alloc (.cells #[] 2)) (.slice (some ⟨W.heap.size, 0, none⟩) 0 0) [] :=
  World.ownsRow_lit (base := base) (e := 2) (size := 1) W #[] 0 h (Nat.zero_le _) rfl

set_option maxHeartbeats 1000000 in
theorem specColsOf (ss : List ByteArray) (va : Value) (w : World) (B : Nat) (ha : StrsAt w B va ss) (hB : B ≤ w.heap.size) :
    Calls Try.prog 29 #[va] w fun e w' => ∃ v, e = .returned (.tuple #[v, .int .i64 (colsC ss)]) ∧ Fresh w.heap.size w' v (colsL ss) ∧ Below w.heap.size w w' := by
  have HS := Lib.hid ha
  have HBB := Lib.hid hB
  obtain ⟨⟨aa, ab, ao, ac, rfl, hma, -, -⟩, -⟩ := ha
  unfold maxLen at hma
  clear hB
  obtain ⟨n, hn⟩ : ∃ n, n = ss.length := ⟨_, rfl⟩
  rw [← hn] at hma HS
  rw [← hn]
  have HN := Lib.hid hn
  clear hn
  cases hws : wordsB ss with
  | false =>
    have HC := Lib.hid (colsC_bad1 hws)
    have HL := Lib.hid (colsL_bad1 hws)
    have HWS := Lib.hid hws
    rw [HC.out, HL.out]
    clear hws
    go_enter Try.func29, Try.ntmps29
    go_wp2_with (go_at_call 71; refine (specWords ss _ _ B HS.out).mono ?_; rw [HWS.out]; rintro e w' ⟨rfl, rfl⟩)
    go_ret2
    exact ⟨_, rfl, fresh_lit _ _ (Nat.le_refl _), (Below.refl _ _).alloc (Nat.le_refl _) _⟩
  | true =>
    have HWS := Lib.hid hws
    clear hws
    by_cases hl : 1 ≤ n ∧ n ≤ 3
    · have HC := Lib.hid (colsC_yes HWS.out (by rw [← HN.out]; exact hl.1) (by rw [← HN.out]; exact hl.2))
      have HL := Lib.hid (colsL_yes HWS.out (by rw [← HN.out]; exact hl.1) (by rw [← HN.out]; exact hl.2))
      have h3 := Lib.hid (show ss.length ≤ 3 by rw [← HN.out]; exact hl.2)
      have hin : inB (n : Int) 1 3 = true := by unfold inB; simp; omega
      rw [HC.out, HL.out]
      clear hl
      go_enter Try.func29, Try.ntmps29
      go_wp2_with (first | (go_at_call 71; refine (specWords ss _ _ B HS.out).mono ?_; rw [HWS.out]; rintro e w' ⟨rfl, rfl⟩) | (go_at_call 52; refine (inRange _ _ _ _).mono ?_; rw [hin]; rintro e w' ⟨rfl, rfl⟩) | (go_at_call 72; refine (specCols ss _ _ B HS.out HBB.out HWS.out h3.out).mono ?_; rintro e w3 ⟨v3, rfl, hf3, hb3⟩))
      go_ret2
      exact ⟨_, rfl, by assumption, by assumption⟩
    · have HC := Lib.hid (colsC_bad2 HWS.out (by rw [← HN.out]; exact hl))
      have HL := Lib.hid (colsL_bad2 (ss := ss) (by rw [← HN.out]; exact hl))
      have hin : inB (n : Int) 1 3 = false := by unfold inB; simp; omega
      rw [HC.out, HL.out]
      clear hl
      go_enter Try.func29, Try.ntmps29
      go_wp2_with (first | (go_at_call 71; refine (specWords ss _ _ B HS.out).mono ?_; rw [HWS.out]; rintro e w' ⟨rfl, rfl⟩) | (go_at_call 52; refine (inRange _ _ _ _).mono ?_; rw [hin]; rintro e w' ⟨rfl, rfl⟩))
      go_ret2
      exact ⟨_, rfl, fresh_lit _ _ (Nat.le_refl _), (Below.refl _ _).alloc (Nat.le_refl _) _⟩

set_option maxHeartbeats 1000000 in
theorem implColsOf (ss : List ByteArray) (va : Value) (w : World) (B : Nat) (ha : StrsAt w B va ss) (hB : B ≤ w.heap.size) :
    Calls Try.prog 31 #[va] w fun e w' => ∃ v, e = .returned (.tuple #[v, .int .i64 (colsC ss)]) ∧ Fresh w.heap.size w' v (colsL ss) ∧ Below w.heap.size w w' := by
  have HS := Lib.hid ha
  have HBB := Lib.hid hB
  obtain ⟨⟨aa, ab, ao, ac, rfl, hma, -, -⟩, -⟩ := ha
  unfold maxLen at hma
  clear hB
  obtain ⟨n, hn⟩ : ∃ n, n = ss.length := ⟨_, rfl⟩
  rw [← hn] at hma HS
  rw [← hn]
  have HN := Lib.hid hn
  clear hn
  cases hws : wordsB ss with
  | false =>
    have HC := Lib.hid (colsC_bad1 hws)
    have HL := Lib.hid (colsL_bad1 hws)
    have HWS := Lib.hid hws
    rw [HC.out, HL.out]
    clear hws
    go_enter Try.func31, Try.ntmps31
    go_wp2_with (go_at_call 73; refine (implWords ss _ _ B HS.out).mono ?_; rw [HWS.out]; rintro e w' ⟨rfl, rfl⟩)
    go_ret2
    exact ⟨_, rfl, fresh_nil _ _, Below.refl _ _⟩
  | true =>
    have HWS := Lib.hid hws
    clear hws
    by_cases hl : 1 ≤ n ∧ n ≤ 3
    · have HC := Lib.hid (colsC_yes HWS.out (by rw [← HN.out]; exact hl.1) (by rw [← HN.out]; exact hl.2))
      have HL := Lib.hid (colsL_yes HWS.out (by rw [← HN.out]; exact hl.1) (by rw [← HN.out]; exact hl.2))
      have h1 := Lib.hid (show 1 ≤ ss.length by rw [← HN.out]; exact hl.1)
      have h3 := Lib.hid (show ss.length ≤ 3 by rw [← HN.out]; exact hl.2)
      have d1 : decide (1 ≤ (n : Int) ∧ (n : Int) ≤ 3) = true := by simp; omega
      rw [HC.out, HL.out]
      clear hl
      go_enter Try.func31, Try.ntmps31
      go_wp2_with (first | (go_at_call 73; refine (implWords ss _ _ B HS.out).mono ?_; rw [HWS.out]; rintro e w' ⟨rfl, rfl⟩) | (go_at_call 56; refine (validTapes _ _).mono ?_; rw [d1]; rintro e w' ⟨rfl, rfl⟩) | (go_at_call 74; refine (implCols ss _ _ B HS.out HBB.out HWS.out h1.out h3.out).mono ?_; rintro e w3 ⟨v3, rfl, hf3, hb3⟩))
      go_ret2
      exact ⟨_, rfl, by assumption, by assumption⟩
    · have HC := Lib.hid (colsC_bad2 HWS.out (by rw [← HN.out]; exact hl))
      have HL := Lib.hid (colsL_bad2 (ss := ss) (by rw [← HN.out]; exact hl))
      have d1 : decide (1 ≤ (n : Int) ∧ (n : Int) ≤ 3) = false := by simp; omega
      rw [HC.out, HL.out]
      clear hl
      go_enter Try.func31, Try.ntmps31
      go_wp2_with (first | (go_at_call 73; refine (implWords ss _ _ B HS.out).mono ?_; rw [HWS.out]; rintro e w' ⟨rfl, rfl⟩) | (go_at_call 56; refine (validTapes _ _).mono ?_; rw [d1]; rintro e w' ⟨rfl, rfl⟩))
      go_ret2
      exact ⟨_, rfl, fresh_nil _ _, Below.refl _ _⟩
end Go.Proofs.Yticpmakpajnilaa.ColsOf
