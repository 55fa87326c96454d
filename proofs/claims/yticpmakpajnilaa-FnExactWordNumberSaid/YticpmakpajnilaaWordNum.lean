
/- What WordNumber answers, the program's and the model's, and the law on them.
   Conditions: the text is no longer than a Go text can be. -/
import Derived.Test.YticpmakpajnilaaNumMath
import Derived.Test.YticpmakpajnilaaWord
namespace Go.Proofs.Yticpmakpajnilaa.WordNum
set_option linter.unusedVariables false
set_option linter.unusedSimpArgs false
open Go.RowKit WordMath Word NumMath

theorem good_of {s : ByteArray} (h : wordB s = true) : good s.data.toList = true ∧ s.size ≤ 40 := by
  unfold wordB at h
  rw [Bool.and_eq_true] at h
  exact ⟨h.1, of_decide_eq_true h.2⟩

/-- The last letter is b, if there is one. -/
def LastB (s : ByteArray) : Prop := ∀ j, (h : j < s.size) → j + 1 = s.size → (s[j].toNat : Int) = 98
def LastA (s : ByteArray) : Prop := ∃ j, ∃ h : j < s.size, j + 1 = s.size ∧ (s[j].toNat : Int) = 97
theorem last_or {s : ByteArray} (h : good s.data.toList = true) : LastA s ∨ LastB s := by
  by_cases h0 : 0 < s.size
  · rcases good_at s (s.size - 1) h (by omega) with e | e
    · exact .inl ⟨s.size - 1, by omega, by omega, e⟩
    · refine .inr fun j hj he => ?_
      obtain rfl : j = s.size - 1 := by omega
      exact e
  · exact .inr fun j hj _ => by omega

/-- What is answered for a word that does not end with a. -/
def Ans' (x : Nat) (a b : Int) : Prop := (x ≤ 1000000000 ∧ a = x ∧ b = 0) ∨ (¬ x ≤ 1000000000 ∧ a = 0 ∧ b = 2)
def Ans (s : ByteArray) (a b : Int) : Prop := Ans' (num s.data.toList) a b
theorem Ans'.low {x : Nat} {a b : Int} (h : Ans' x a b) (hx : x ≤ 1000000000) : Value.tuple #[.int .i64 a, .int .i64 b] = .tuple #[.int .i64 x, .int .i64 0] := by
  rcases h with ⟨-, rfl, rfl⟩ | ⟨h, -⟩
  · rfl
  · exact absurd hx h
theorem Ans'.high {x : Nat} {a b : Int} (h : Ans' x a b) (hx : ¬ x ≤ 1000000000) : Value.tuple #[.int .i64 a, .int .i64 b] = .tuple #[.int .i64 0, .int .i64 2] := by
  rcases h with ⟨h, -⟩ | ⟨-, rfl, rfl⟩
  · exact absurd h hx
  · rfl

set_option maxHeartbeats 1000000 in
theorem specNumber (s : ByteArray) (w : World) (hg : good s.data.toList = true) (h40 : s.size ≤ 40) :
    Calls Try.prog 83 #[.string s] w fun e w' => e = .returned (.int .i64 (num s.data.toList : Nat)) ∧ w = w' := by
  have HG := Lib.hid hg
  have HE := Lib.hid (num_end s)
  clear hg
  go_enter Try.func83, Try.ntmps83
  go_wp2
  go_loop [3, 4] (fun n i => ∃ k : Nat, k ≤ s.size ∧ i = .int .i64 ((k : Int) - 1) ∧ n = .int .i64 (num (s.data.toList.drop k) : Nat)) (fun _ i => (intOf i + 1).toNat)
  case atStart => exact ⟨s.size, Nat.le_refl _, rfl, by rw [HE.out]; rfl⟩
  case round =>
    obtain ⟨k, hk, rfl, rfl⟩ := hrel
    by_cases hlt : 0 < k
    · obtain ⟨j, rfl⟩ : ∃ j, k = j + 1 := ⟨k - 1, by omega⟩
      have hij : ((j + 1 : Nat) : Int) - 1 = (j : Int) := by omega
      rw [hij]
      have hb := num_small s (j + 1) HG.out h40
      have hA := Lib.hid (num_a s j (by omega))
      have hB := Lib.hid (num_b s j (by omega))
      obtain ⟨x, hx⟩ : ∃ x, x = num (s.data.toList.drop (j + 1)) := ⟨_, rfl⟩
      rw [← hx] at hb hA hB ⊢
      clear hx hij
      by_cases ha : (s[j].toNat : Int) = 97
      · have HN := Lib.hid (hA.out ha)
        go_wp2
        go_round
        case rel => exact ⟨j, by omega, (by first | rfl | go_num), by rw [HN.out]; try go_num⟩
        case measure => (simp [intOf] <;> omega)
      · have hb' : (s[j].toNat : Int) = 98 := by
          rcases good_at s j HG.out (by omega) with e | e
          · exact absurd e ha
          · exact e
        have HN := Lib.hid (hB.out hb')
        go_wp2
        go_round
        case rel => exact ⟨j, by omega, (by first | rfl | go_num), by rw [HN.out]; try go_num⟩
        case measure => (simp [intOf] <;> omega)
    · obtain rfl : k = 0 := by omega
      go_wp2
      go_ret
      exact ⟨by simp, rfl⟩

set_option maxHeartbeats 1000000 in
theorem implNum (s : ByteArray) (w : World) (hs : s.size ≤ maxLen) (hw : wordB s = true) (hl : LastB s) (a b : Int) (hab : Ans s a b) :
    Calls Try.prog 48 #[.string s] w fun e w' => e = .returned (.tuple #[.int .i64 a, .int .i64 b]) ∧ w = w' := by
  have hs' := hs
  unfold maxLen at hs'
  have HC := Lib.hid hab
  have HG := Lib.hid (good_of hw).1
  have h40 := (good_of hw).2
  have HE := Lib.hid (num_end s)
  have HL := Lib.hid hl
  have HW := Lib.hid hw
  clear hw hl hab
  go_enter Try.func48, Try.ntmps48
  go_wp2_with (go_at_call 18; refine (implWord s _ hs).mono ?_; rw [HW.out]; rintro e w' ⟨rfl, rfl⟩)
  go_loop [4, 5] (fun n i => ∃ k : Nat, k ≤ s.size ∧ i = .int .i64 ((k : Int) - 1) ∧ n = .int .i64 (num (s.data.toList.drop k) : Nat) ∧ (k < s.size → 0 < num (s.data.toList.drop k))) (fun _ i => (intOf i + 1).toNat)
  case atStart => exact ⟨s.size, Nat.le_refl _, rfl, by rw [HE.out]; rfl, fun h => absurd h (Nat.lt_irrefl _)⟩
  case round =>
    obtain ⟨k, hk, rfl, rfl, hp⟩ := hrel
    by_cases hlt : 0 < k
    · obtain ⟨j, rfl⟩ : ∃ j, k = j + 1 := ⟨k - 1, by omega⟩
      have hij : ((j + 1 : Nat) : Int) - 1 = (j : Int) := by omega
      rw [hij]
      have hb := num_small s (j + 1) HG.out h40
      have hA := Lib.hid (num_a s j (by omega))
      have hB := Lib.hid (num_b s j (by omega))
      obtain ⟨x, hx⟩ : ∃ x, x = num (s.data.toList.drop (j + 1)) := ⟨_, rfl⟩
      rw [← hx] at hb hA hB hp ⊢
      clear hx hij
      by_cases ha : (s[j].toNat : Int) = 97
      · have HN := Lib.hid (hA.out ha)
        have hx0 : 0 < x := hp (by
          apply Classical.byContradiction
          intro h
          have := HL.out j (by omega) (by omega)
          omega)
        clear hp
        have h2 : ((2 * x : Int) == 0) = false := by simp; omega
        go_wp2
        go_round
        case rel => exact ⟨j, by omega, (by first | rfl | go_num), by rw [HN.out]; try go_num, fun _ => by rw [HN.out]; omega⟩
        case measure => (simp [intOf] <;> omega)
      · have hb' : (s[j].toNat : Int) = 98 := by
          rcases good_at s j HG.out (by omega) with e | e
          · exact absurd e ha
          · exact e
        have HN := Lib.hid (hB.out hb')
        clear hp
        have h2 : ((2 * x + 1 : Int) == 0) = false := by simp; omega
        go_wp2
        go_round
        case rel => exact ⟨j, by omega, (by first | rfl | go_num), by rw [HN.out]; try go_num, fun _ => by rw [HN.out]; omega⟩
        case measure => (simp [intOf] <;> omega)
    · obtain rfl : k = 0 := by omega
      have hb := num_small s 0 HG.out h40
      rw [List.drop_zero] at hb
      rw [List.drop_zero]
      clear hp
      obtain ⟨x, hx⟩ : ∃ x, x = num s.data.toList := ⟨_, rfl⟩
      unfold Ans at HC
      rw [← hx] at HC hb ⊢
      have HX := Lib.hid hx
      clear hx
      by_cases h : x ≤ 1000000000
      · have HT := Lib.hid (HC.out.low h)
        go_wp2
        go_ret2
        exact ⟨by rw [HT.out]; rfl, rfl⟩
      · have HT := Lib.hid (HC.out.high h)
        go_wp2
        go_ret2
        exact ⟨by rw [HT.out]; rfl, rfl⟩

set_option maxHeartbeats 1000000 in
theorem implLast (s : ByteArray) (w : World) (hs : s.size ≤ maxLen) (hw : wordB s = true) (hl : LastA s) :
    Calls Try.prog 48 #[.string s] w fun e w' => e = .returned (.tuple #[.int .i64 0, .int .i64 4]) ∧ w = w' := by
  have hs' := hs
  unfold maxLen at hs'
  have HW := Lib.hid hw
  clear hw
  obtain ⟨j, hj, he, ha⟩ := hl
  have HE := Lib.hid he
  clear he
  go_enter Try.func48, Try.ntmps48
  go_wp2_with (go_at_call 18; refine (implWord s _ hs).mono ?_; rw [HW.out]; rintro e w' ⟨rfl, rfl⟩)
  go_loop [4, 5] (fun n i => i = .int .i64 (j : Int) ∧ n = .int .i64 0) (fun _ i => (intOf i + 1).toNat)
  case atStart => exact ⟨by have := HE.out; congr 1; omega, rfl⟩
  case round =>
    obtain ⟨rfl, rfl⟩ := hrel
    go_wp2
    go_ret2
    exact ⟨rfl, rfl⟩

theorem implNo (s : ByteArray) (w : World) (hs : s.size ≤ maxLen) (hw : wordB s = false) :
    Calls Try.prog 48 #[.string s] w fun e w' => e = .returned (.tuple #[.int .i64 0, .int .i64 1]) ∧ w = w' := by
  have HW := Lib.hid hw
  clear hw
  go_enter Try.func48, Try.ntmps48
  go_wp2_with (go_at_call 18; refine (implWord s _ hs).mono ?_; rw [HW.out]; rintro e w' ⟨rfl, rfl⟩)
  go_ret2
  exact ⟨rfl, rfl⟩

set_option maxHeartbeats 1000000 in
theorem specNum (s : ByteArray) (w : World) (hs : s.size ≤ maxLen) (hw : wordB s = true) (hl : LastB s) (a b : Int) (hab : Ans s a b) :
    Calls Try.prog 47 #[.string s] w fun e w' => e = .returned (.tuple #[.int .i64 a, .int .i64 b]) ∧ w = w' := by
  have hs' := hs
  unfold maxLen at hs'
  have HC := Lib.hid hab
  have hg := (good_of hw).1
  have h40 := (good_of hw).2
  have HS := Lib.hid (fun w => specNumber s w hg h40)
  have hb := num_small s 0 hg h40
  rw [List.drop_zero] at hb
  have HW := Lib.hid hw
  have HL := Lib.hid hl
  obtain ⟨x, hx⟩ : ∃ x, x = num s.data.toList := ⟨_, rfl⟩
  unfold Ans at HC
  rw [← hx] at HC hb HS
  have HX := Lib.hid hx
  clear hw hl hab hg hx
  by_cases h0 : 0 < s.size
  · obtain ⟨j, hj⟩ : ∃ j, j + 1 = s.size := ⟨s.size - 1, by omega⟩
    have hjl : j < s.size := by omega
    have hlb := HL.out j hjl hj
    have HJ := Lib.hid (show ((s.size : Int) - 1) = (j : Int) from by omega)
    clear hj
    by_cases h : x ≤ 1000000000
    · have HT := Lib.hid (HC.out.low h)
      have hj' := HJ.out
      go_enter Try.func47, Try.ntmps47
      go_wp2_with (first | (go_at_call 53; refine (Word.specWord s _ hs).mono ?_; rw [HW.out]; rintro e w' ⟨rfl, rfl⟩) | (go_at_call 83; refine (HS.out _).mono ?_; rintro e w' ⟨rfl, rfl⟩))
      go_ret2
      exact ⟨by rw [HT.out]; rfl, rfl⟩
    · have HT := Lib.hid (HC.out.high h)
      have hj' := HJ.out
      go_enter Try.func47, Try.ntmps47
      go_wp2_with (first | (go_at_call 53; refine (Word.specWord s _ hs).mono ?_; rw [HW.out]; rintro e w' ⟨rfl, rfl⟩) | (go_at_call 83; refine (HS.out _).mono ?_; rintro e w' ⟨rfl, rfl⟩))
      go_ret2
      exact ⟨by rw [HT.out]; rfl, rfl⟩
  · by_cases h : x ≤ 1000000000
    · have HT := Lib.hid (HC.out.low h)
      go_enter Try.func47, Try.ntmps47
      go_wp2_with (first | (go_at_call 53; refine (Word.specWord s _ hs).mono ?_; rw [HW.out]; rintro e w' ⟨rfl, rfl⟩) | (go_at_call 83; refine (HS.out _).mono ?_; rintro e w' ⟨rfl, rfl⟩))
      go_ret2
      exact ⟨by rw [HT.out]; rfl, rfl⟩
    · have HT := Lib.hid (HC.out.high h)
      go_enter Try.func47, Try.ntmps47
      go_wp2_with (first | (go_at_call 53; refine (Word.specWord s _ hs).mono ?_; rw [HW.out]; rintro e w' ⟨rfl, rfl⟩) | (go_at_call 83; refine (HS.out _).mono ?_; rintro e w' ⟨rfl, rfl⟩))
      go_ret2
      exact ⟨by rw [HT.out]; rfl, rfl⟩

set_option maxHeartbeats 1000000 in
theorem specLast (s : ByteArray) (w : World) (hs : s.size ≤ maxLen) (hw : wordB s = true) (hl : LastA s) :
    Calls Try.prog 47 #[.string s] w fun e w' => e = .returned (.tuple #[.int .i64 0, .int .i64 4]) ∧ w = w' := by
  have hs' := hs
  unfold maxLen at hs'
  have HW := Lib.hid hw
  clear hw
  obtain ⟨j, hj, he, ha⟩ := hl
  have hj' : ((s.size : Int) - 1) = (j : Int) := by omega
  have h0 : 0 < s.size := by omega
  clear he
  go_enter Try.func47, Try.ntmps47
  go_wp2_with (go_at_call 53; refine (Word.specWord s _ hs).mono ?_; rw [HW.out]; rintro e w' ⟨rfl, rfl⟩)
  go_ret2
  exact ⟨rfl, rfl⟩

theorem specNo (s : ByteArray) (w : World) (hs : s.size ≤ maxLen) (hw : wordB s = false) :
    Calls Try.prog 47 #[.string s] w fun e w' => e = .returned (.tuple #[.int .i64 0, .int .i64 1]) ∧ w = w' := by
  have HW := Lib.hid hw
  clear hw
  go_enter Try.func47, Try.ntmps47
  go_wp2_with (go_at_call 53; refine (Word.specWord s _ hs).mono ?_; rw [HW.out]; rintro e w' ⟨rfl, rfl⟩)
  go_ret2
  exact ⟨rfl, rfl⟩

theorem lawOf (s : ByteArray) (a b : Int) (w : World)
    (hs : ∀ w, Calls Try.prog 47 #[.string s] w fun e w' => e = .returned (.tuple #[.int .i64 a, .int .i64 b]) ∧ w = w')
    (hi : ∀ w, Calls Try.prog 48 #[.string s] w fun e w' => e = .returned (.tuple #[.int .i64 a, .int .i64 b]) ∧ w = w') (hsz : s.size ≤ maxLen) :
    Calls Try.prog 13 #[.string s] w fun e w' => e = .returned (.bool true) ∧ Below w.heap.size w w' := by
  unfold maxLen at hsz
  have HS := Lib.hid hs
  have HI := Lib.hid hi
  clear hs hi
  by_cases hbig : 1048576 < s.size
  · go_enter Try.func13, Try.ntmps13
    go_wp2
    go_ret
    exact ⟨rfl, Below.refl _ _⟩
  · go_enter Try.func13, Try.ntmps13
    go_wp2_with (first | (go_at_call 47; refine (HS.out _).mono ?_; rintro e w' ⟨rfl, rfl⟩) | (go_at_call 48; refine (HI.out _).mono ?_; rintro e w' ⟨rfl, rfl⟩))
    go_ret
    exact ⟨rfl, Below.refl _ _⟩

theorem law (w : World) (s : ByteArray) (hs : s.size ≤ maxLen) :
    Calls Try.prog 13 #[.string s] w fun e w' => e = .returned (.bool (true)) ∧ Below w.heap.size w w' := by
  by_cases hw : wordB s = true
  · rcases last_or (good_of hw).1 with hl | hl
    · exact lawOf s _ _ w (fun w => specLast s w hs hw hl) (fun w => implLast s w hs hw hl) hs
    · by_cases h : num s.data.toList ≤ 1000000000
      · exact lawOf s _ _ w (fun w => specNum s w hs hw hl _ 0 (.inl ⟨h, rfl, rfl⟩)) (fun w => implNum s w hs hw hl _ 0 (.inl ⟨h, rfl, rfl⟩)) hs
      · exact lawOf s _ _ w (fun w => specNum s w hs hw hl 0 2 (.inr ⟨h, rfl, rfl⟩)) (fun w => implNum s w hs hw hl 0 2 (.inr ⟨h, rfl, rfl⟩)) hs
  · have hw : wordB s = false := by simpa using hw
    exact lawOf s _ _ w (fun w => specNo s w hs hw) (fun w => implNo s w hs hw) hs
end Go.Proofs.Yticpmakpajnilaa.WordNum
