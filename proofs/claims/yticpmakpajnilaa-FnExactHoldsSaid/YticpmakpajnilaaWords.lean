
/- Whether all texts of a list are words: what the program and the model answer.
   Conditions: the list is read as XStrs' text says. -/
import Derived.Test.YticpmakpajnilaaStrs
import Derived.Test.YticpmakpajnilaaWord
namespace Go.Proofs.Yticpmakpajnilaa.Words
open Go.RowKit Mem Rel Strs Word WordMath

def wordsB (ss : List ByteArray) : Bool := ss.all wordB

theorem all_take_succ {α : Type} (xs : List α) (d : α) (p : α → Bool) (k : Nat) (h : k < xs.length) (g : (xs.take k).all p = true) (e : p (xs.getD k d) = true) :
    (xs.take (k + 1)).all p = true := by
  rw [take_succ_getD xs d k h, List.all_append, g, List.all_cons, e]; rfl
theorem all_false {α : Type} (xs : List α) (d : α) (p : α → Bool) (k : Nat) (h : k < xs.length) (e : p (xs.getD k d) = false) : xs.all p = false := by
  rw [List.all_eq_false]
  exact ⟨xs.getD k d, by simp [List.getD, h], by rw [e]; exact Bool.false_ne_true⟩
theorem all_end {α : Type} (xs : List α) (p : α → Bool) (k : Nat) (h : xs.length ≤ k) (g : (xs.take k).all p = true) : xs.all p = true := by
  rwa [List.take_of_length_le h] at g

set_option maxHeartbeats 400000 in
theorem specWords (ss : List ByteArray) (va : Value) (w : World) (B : Nat) (ha : StrsAt w B va ss) :
    Calls Try.prog 71 #[va] w fun e w' => e = .returned (.bool (wordsB ss)) ∧ w = w' := by
  obtain ⟨⟨a, b, off, cap, rfl, hma, haa, hca⟩, hsz⟩ := ha
  obtain ⟨n, hn⟩ : ∃ n, n = ss.length := ⟨_, rfl⟩
  rw [← hn] at hma hca haa hsz
  unfold maxLen at hma
  rw [← hn]
  have HN := Lib.hid hn
  clear hn
  go_enter Try.func71, Try.ntmps71
  go_wp2
  go_loop [3] (fun i => ∃ k : Nat, k ≤ n ∧ i = .int .i64 k ∧ (ss.take k).all wordB = true) (fun i => n - (intOf i).toNat)
  case atStart => exact ⟨0, Nat.zero_le _, rfl, rfl⟩
  case round =>
    obtain ⟨k, hk, rfl, hg⟩ := hrel
    have HG := Lib.hid hg
    clear hg
    by_cases hlt : k < n
    · obtain rfl := (haa (by omega)).1
      have cA := hca k hlt
      have hs := hsz k hlt
      obtain ⟨x, hx⟩ : ∃ x, x = ss.getD k ByteArray.empty := ⟨_, rfl⟩
      rw [← hx] at cA hs
      have HX := Lib.hid hx
      have HSZ := Lib.hid hs
      clear hx hs hsz hca haa
      cases hw : wordB x with
      | true =>
        have HA := Lib.hid (all_take_succ ss ByteArray.empty wordB k (by rw [← HN.out]; exact hlt) HG.out (by rw [← HX.out]; exact hw))
        have HW := Lib.hid hw
        clear hw
        go_wp2_with (go_at_call 53; refine (specWord x _ HSZ.out).mono ?_; rw [HW.out]; rintro e w' ⟨rfl, rfl⟩)
        go_round
        case rel => exact ⟨k + 1, by omega, by go_num, HA.out⟩
        case measure => simp [intOf]; omega
      | false =>
        have HA := Lib.hid (show wordsB ss = false from all_false ss ByteArray.empty wordB k (by rw [← HN.out]; exact hlt) (by rw [← HX.out]; exact hw))
        have HW := Lib.hid hw
        clear hw
        go_wp2_with (go_at_call 53; refine (specWord x _ HSZ.out).mono ?_; rw [HW.out]; rintro e w' ⟨rfl, rfl⟩)
        go_ret
        exact ⟨by rw [HA.out]; rfl, rfl⟩
    · have HA := Lib.hid (show wordsB ss = true from all_end ss wordB k (by rw [← HN.out]; omega) HG.out)
      clear hca haa hsz
      go_wp2
      go_ret
      exact ⟨by rw [HA.out]; rfl, rfl⟩

set_option maxHeartbeats 400000 in
theorem implWords (ss : List ByteArray) (va : Value) (w : World) (B : Nat) (ha : StrsAt w B va ss) :
    Calls Try.prog 73 #[va] w fun e w' => e = .returned (.bool (wordsB ss)) ∧ w = w' := by
  obtain ⟨⟨a, b, off, cap, rfl, hma, haa, hca⟩, hsz⟩ := ha
  obtain ⟨n, hn⟩ : ∃ n, n = ss.length := ⟨_, rfl⟩
  rw [← hn] at hma hca haa hsz
  unfold maxLen at hma
  rw [← hn]
  have HN := Lib.hid hn
  clear hn
  go_enter Try.func73, Try.ntmps73
  go_wp2
  go_loop [7] (fun i => ∃ k : Nat, k ≤ n ∧ i = .int .i64 k ∧ (ss.take k).all wordB = true) (fun i => n - (intOf i).toNat)
  case atStart => exact ⟨0, Nat.zero_le _, rfl, rfl⟩
  case round =>
    obtain ⟨k, hk, rfl, hg⟩ := hrel
    have HG := Lib.hid hg
    clear hg
    by_cases hlt : k < n
    · obtain rfl := (haa (by omega)).1
      have cA := hca k hlt
      have hs := hsz k hlt
      obtain ⟨x, hx⟩ : ∃ x, x = ss.getD k ByteArray.empty := ⟨_, rfl⟩
      rw [← hx] at cA hs
      have HX := Lib.hid hx
      have HSZ := Lib.hid hs
      clear hx hs hsz hca haa
      cases hw : wordB x with
      | true =>
        have HA := Lib.hid (all_take_succ ss ByteArray.empty wordB k (by rw [← HN.out]; exact hlt) HG.out (by rw [← HX.out]; exact hw))
        have HW := Lib.hid hw
        clear hw
        go_wp2_with (go_at_call 18; refine (implWord x _ HSZ.out).mono ?_; rw [HW.out]; rintro e w' ⟨rfl, rfl⟩)
        go_round
        case rel => exact ⟨k + 1, by omega, by go_num, HA.out⟩
        case measure => simp [intOf]; omega
      | false =>
        have HA := Lib.hid (show wordsB ss = false from all_false ss ByteArray.empty wordB k (by rw [← HN.out]; exact hlt) (by rw [← HX.out]; exact hw))
        have HW := Lib.hid hw
        clear hw
        go_wp2_with (go_at_call 18; refine (implWord x _ HSZ.out).mono ?_; rw [HW.out]; rintro e w' ⟨rfl, rfl⟩)
        go_ret
        exact ⟨by rw [HA.out]; rfl, rfl⟩
    · have HA := Lib.hid (show wordsB ss = true from all_end ss wordB k (by rw [← HN.out]; omega) HG.out)
      clear hca haa hsz
      go_wp2
      go_ret
      exact ⟨by rw [HA.out]; rfl, rfl⟩
end Go.Proofs.Yticpmakpajnilaa.Words
