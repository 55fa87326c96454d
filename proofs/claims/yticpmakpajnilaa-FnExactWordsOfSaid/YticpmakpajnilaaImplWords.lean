
/- Whether columns are right, and the words that they spell, as the program has them.
   Conditions: one to three tapes, and columns of theirs. -/
import Derived.Test.YticpmakpajnilaaPads
import Derived.Test.YticpmakpajnilaaRightMath
import Derived.Test.YticpmakpajnilaaHeap
import Derived.Test.YticpmakpajnilaaStrs
import Derived.Test.YticpmakpajnilaaSpecFiner
namespace Go.Proofs.Yticpmakpajnilaa.ImplWords
set_option linter.unusedVariables false
open Go.RowKit Mem Copy Rel Heap Columns ColMath TupMath Numbers TidyRight Pads RightMath

theorem endedAt_lt {n : Nat} {cs : List Nat} (h1 : 1 ≤ n) (h3 : n ≤ 3) (hc : ∀ i, i < cs.length → cs.getD i 0 < wide n) {i : Nat} (hi : i ≤ cs.length) : endedAt n cs i < 8 := by
  unfold endedAt
  by_cases e : i = 0
  · rw [if_pos e]; omega
  · rw [if_neg e]
    have h := hc (i - 1) (by omega)
    have h26 : wide n ≤ 26 := by have := wide_cases h1 h3; omega
    exact pd_lt8 h3 (by omega)

set_option maxHeartbeats 4000000 in
theorem areRight (n : Nat) (cs : List Nat) (va : Value) (w : World) (B : Nat) (h1 : 1 ≤ n) (h3 : n ≤ 3) (ha : Ints w B va (cs.map Int.ofNat)) (hB : B ≤ w.heap.size) (hc : ∀ i, i < cs.length → cs.getD i 0 < wide n) :
    Calls Try.prog 78 #[.int .i64 n, va] w fun e w' => e = .returned (.bool (rightB n (cs.map Int.ofNat))) ∧ Below w.heap.size w w' := by
  have HE := Lib.hid (fun i (hi : i ≤ cs.length) => endedAt_lt h1 h3 hc hi)
  have h26 : wide n ≤ 26 := by have := wide_cases h1 h3; omega
  have HALL := Lib.hid (right_all (n := n) (cs := cs) (by omega) (fun i hi => Nat.lt_of_lt_of_le (hc i hi) h26))
  have HNOT := Lib.hid (fun i (hi : i < cs.length) h => right_not (n := n) (cs := cs) (by omega) (fun i hi => Nat.lt_of_lt_of_le (hc i hi) h26) hi h)
  obtain ⟨R, hR⟩ : ∃ R, R = rightB n (cs.map Int.ofNat) := ⟨_, rfl⟩
  rw [← hR] at HALL HNOT
  rw [← hR]
  clear hR
  obtain ⟨a, b, off, cap, rfl, hma, haa, hca⟩ := ha
  rw [List.length_map] at hma haa hca
  rw [List.length_map]
  obtain ⟨m, hm⟩ : ∃ m, m = cs.length := ⟨_, rfl⟩
  rw [← hm] at hma haa hca hc HE HALL HNOT
  rw [← hm]
  have HM := Lib.hid hm
  unfold maxLen at hma
  clear hm
  obtain ⟨wd, hwd⟩ : ∃ wd, wd = wide n := ⟨_, rfl⟩
  have HP := Lib.hid (pads n h1 h3 w)
  rw [← hwd] at HP hc h26
  clear hwd
  go_enter Try.func78, Try.ntmps78
  go_wp2_with fail
  refine HP.out.mono ?_
  rintro e w1 ⟨rfl, hrow, hbel⟩
  have hlt1 := hrow.lt
  go_wp2_with fail
  go_loop [6, 8, 13] (fun e _ i => ∃ j : Nat, j ≤ m ∧ i = .int .i64 j ∧ e = .int .i64 (endedAt n cs j : Nat) ∧ ∀ i, i < j → fol (endedAt n cs i) (pd n (cs.getD i 0)) = true) (fun _ _ i => m - (intOf i).toNat)
  case atStart => exact ⟨0, Nat.zero_le _, rfl, rfl, fun i h => absurd h (Nat.not_lt_zero i)⟩
  case round =>
    obtain ⟨j, hj, rfl, rfl, hall⟩ := hrel
    have HA := Lib.hid hall
    clear hall
    by_cases hlt : j < m
    · obtain ⟨rfl, hb⟩ := haa (by omega)
      have cA := (hbel.cell (p := ⟨b, off + j, none⟩) (by show b < _; omega)).trans (hca j hlt)
      have hcj := hc j hlt
      have he := HE.out j hj
      have HNJ := Lib.hid (HNOT.out j hlt)
      have HND := Lib.hid (show endedAt n cs (j + 1) = pd n (cs.getD j 0) by unfold endedAt; rw [if_neg (by omega), Nat.add_sub_cancel])
      rw [getD_nat] at cA
      obtain ⟨c, hcc⟩ : ∃ c, c = cs.getD j 0 := ⟨_, rfl⟩
      have HCC := Lib.hid hcc
      rw [← hcc] at cA hcj HNJ HND
      have cP := hrow.cell hcj
      have hp8 := pd_lt8 (k := n) h3 (Nat.lt_of_lt_of_le hcj h26)
      obtain ⟨p, hp⟩ : ∃ p, p = pd n c := ⟨_, rfl⟩
      obtain ⟨q, hq⟩ : ∃ q, q = endedAt n cs j := ⟨_, rfl⟩
      have HPP := Lib.hid hp
      have HQQ := Lib.hid hq
      rw [← hp] at cP hp8 HNJ HND
      rw [← hq] at HNJ he
      rw [← hq]
      have HMF := Lib.hid (fun W => mayFollow q p he hp8 W)
      have hlb : b < w1.heap.size := by have := hbel.size; omega
      clear hcc hp hq hca hc haa HE HNOT HP
      cases hf : fol q p with
      | true =>
        rw [hf] at HMF
        have HF := Lib.hid hf
        clear hf
        go_wp2_with (go_at_call 93; refine (HMF.out _).mono ?_; rintro e w' ⟨rfl, rfl⟩)
        go_round
        case rel =>
          refine ⟨j + 1, hlt, by go_num, by rw [HND.out], fun i hi => ?_⟩
          by_cases e : i = j
          · subst e; rw [← HQQ.out, ← HCC.out, ← HPP.out]; exact HF.out
          · exact HA.out i (by omega)
        case measure => simp [intOf]; omega
      | false =>
        rw [hf] at HMF
        have HF := Lib.hid (HNJ.out hf)
        clear hf
        go_wp2_with (go_at_call 93; refine (HMF.out _).mono ?_; rintro e w' ⟨rfl, rfl⟩)
        go_ret
        exact ⟨by rw [HF.out]; rfl, hbel⟩
    · obtain rfl : j = m := by omega
      have HF := Lib.hid (HALL.out HA.out)
      clear hca hc haa HE HNOT HP HALL
      go_wp2_with fail
      go_ret
      exact ⟨by rw [HF.out]; rfl, hbel⟩
end Go.Proofs.Yticpmakpajnilaa.ImplWords
