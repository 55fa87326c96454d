
/- What the model's function on ended tapes hands back.
   Conditions: one to three tapes, a column of theirs, tapes that have ended as bits. -/
import Derived.Test.YtjplmmokbkkclaaFM7
import Derived.Test.YtjplmmokbkkclaaFM2
import Derived.Deep.QuietTactic
import Derived.BigQuiet
namespace Go.Proofs.Ytjplmmokbkkclaa.SpecEnded
set_option linter.unusedVariables false
set_option linter.unusedSimpArgs false
open Go.RowKit Columns TidyRight

theorem digAny (c : Nat) (t : Nat) (hc : c < 26) (ht : t ≤ 2) (w : World) : Calls Try.prog 69 #[.int .i64 c, .int .i64 t] w fun e w' => e = .returned (.int .i64 ((c / 3 ^ t % 3 : Nat) : Int)) ∧ w = w' := by
  have : t = 0 ∨ t = 1 ∨ t = 2 := by omega
  rcases this with rfl | rfl | rfl
  · have := digit0 c (by omega) (by omega) w
    exact this.mono fun e w' ⟨he, hw⟩ => ⟨by rw [he]; simp, hw⟩
  · have := digit1 c (by omega) (by omega) w
    exact this.mono fun e w' ⟨he, hw⟩ => ⟨by rw [he]; simp, hw⟩
  · have := digit2 c (by omega) (by omega) w
    exact this.mono fun e w' ⟨he, hw⟩ => ⟨by rw [he]; simp, hw⟩



def stepE (c : Nat) (E : Option Nat) (t : Nat) : Option Nat := E.bind fun E => if c / 3 ^ t % 3 = 2 then some (E ||| 2 ^ t) else if E / 2 ^ t % 2 = 1 then none else some E
def runE (c e t : Nat) : Option Nat := (List.range t).foldl (stepE c) (some e)
theorem runE_succ (c e t : Nat) : runE c e (t + 1) = stepE c (runE c e t) t := by unfold runE; rw [List.range_succ, List.foldl_append]; rfl
theorem runE_none {c e t : Nat} (h : runE c e t = none) : ∀ k, runE c e (t + k) = none := by
  intro k
  induction k with
  | zero => exact h
  | succ k ih => rw [← Nat.add_assoc, runE_succ, ih]; rfl
theorem runE_end : ∀ k, k < 4 → ∀ e, e < 2 ^ k → ∀ c, c < 26 → runE c e k = if fol e (pd k c) = true then some (pd k c) else none := by decide +kernel
theorem or_lt : ∀ E, E < 8 → ∀ t, t < 3 → E ||| 2 ^ t < 8 := by decide
theorem or_bits : ∀ E : Nat, E < 8 → ∀ t : Nat, t < 3 → bits BinOp.or IntKind.i64 (E : Int) ((2 ^ t : Nat) : Int) = ((E ||| 2 ^ t : Nat) : Int) := by decide +kernel
theorem and_bits : ∀ E : Nat, E < 8 → bits BinOp.and IntKind.i64 (E : Int) 1 = ((E % 2 : Nat) : Int) := by decide +kernel

set_option maxHeartbeats 2000000 in
theorem ended (k e c : Nat) (hk : 1 ≤ k) (hk3 : k ≤ 3) (he : e < 2 ^ k) (hc : c < 26) (w : World) : Calls Try.prog 67 #[.int .i64 k, .int .i64 e, .int .i64 c] w fun x w' => x = .returned (.int .i64 (if fol e (pd k c) = true then ((pd k c : Nat) : Int) else -1)) ∧ w = w' := by
  have HD := Lib.hid (fun t (ht : t ≤ 2) W => digAny c t (by omega) ht W)
  have HE := Lib.hid (runE_end k (by omega) e he c hc)
  have he8 : e < 8 := Nat.lt_of_lt_of_le he (pow_le8 hk3)
  obtain ⟨R, hR⟩ : ∃ R, R = (if fol e (pd k c) = true then ((pd k c : Nat) : Int) else -1) := ⟨_, rfl⟩
  rw [← hR]
  have HR := Lib.hid hR
  clear hR he
  go_enter Try.func67, Try.ntmps67
  go_wp2
  go_loop [1, 7, 8] (fun E t _ => ∃ m E' : Nat, m ≤ k ∧ t = .int .i64 m ∧ E = .int .i64 E' ∧ E' < 8 ∧ runE c e m = some E') (fun _ t _ => k - (intOf t).toNat)
  case atStart => exact ⟨0, e, Nat.zero_le _, rfl, rfl, he8, rfl⟩
  case round =>
    obtain ⟨m, E, hm, rfl, rfl, hE, hrun⟩ := hrel
    have HRUN := Lib.hid hrun
    clear hrun
    by_cases hlt : m < k
    · obtain ⟨d, hd⟩ : ∃ d, d = c / 3 ^ m % 3 := ⟨_, rfl⟩
      have h0 : ∀ W, Calls Try.prog 69 #[.int .i64 c, .int .i64 m] W fun e w' => e = .returned (.int .i64 (d : Int)) ∧ W = w' := fun W => by rw [hd]; exact HD.out m (by omega) W
      have H0 := Lib.hid h0
      have HDD := Lib.hid hd
      have HST := Lib.hid (show runE c e (m + 1) = if d = 2 then some (E ||| 2 ^ m) else if E / 2 ^ m % 2 = 1 then none else some E by rw [runE_succ, HRUN.out, hd]; rfl)
      have HOL := Lib.hid (or_lt E hE m (by omega))
      have hor := or_bits E hE m (by omega)
      have hand := and_bits (E / 2 ^ m) (Nat.lt_of_le_of_lt (Nat.div_le_self _ _) hE)
      have HLT := Lib.hid hlt
      clear h0 hd
      by_cases hd2 : d = 2
      · subst hd2
        have HN := Lib.hid (show runE c e (m + 1) = some (E ||| 2 ^ m) by rw [HST.out]; rfl)
        obtain ⟨E', hE'⟩ : ∃ E', E' = E ||| 2 ^ m := ⟨_, rfl⟩
        rw [← hE'] at HN HOL hor
        clear hE' hand HST HDD
        have h3 : m = 0 ∨ m = 1 ∨ m = 2 := by omega
        rcases h3 with rfl | rfl | rfl
        all_goals
          simp at hor
          go_wp2_with (go_at_call 69; refine (H0.out _).mono ?_; rintro e w' ⟨rfl, rfl⟩)
          go_round
          case rel => exact ⟨_, _, HLT.out, by go_num, by go_num, HOL.out, HN.out⟩
          case measure => simp [intOf]; omega
      · have hd2' : ((d : Int) == 2) = false := by simp; omega
        have hd2'' : ¬ (d : Int) = 2 := by omega
        by_cases hb : E / 2 ^ m % 2 = 1
        · have HN := Lib.hid (show R = -1 by
            have h1 : runE c e (m + 1) = none := by rw [HST.out, if_neg hd2, if_pos hb]
            have h2 := runE_none h1 (k - (m + 1))
            rw [Nat.add_sub_cancel' HLT.out, HE.out] at h2
            rw [HR.out]
            by_cases hf : fol e (pd k c) = true
            · rw [if_pos hf] at h2; cases h2
            · rw [if_neg hf])
          rw [hb] at hand
          clear HST HDD hor hd2
          have h3 : m = 0 ∨ m = 1 ∨ m = 2 := by omega
          rcases h3 with rfl | rfl | rfl
          all_goals
            simp at hand
            go_wp2_with (go_at_call 69; refine (H0.out _).mono ?_; rintro e w' ⟨rfl, rfl⟩)
            go_ret
            exact ⟨by rw [HN.out]; rfl, rfl⟩
        · have HN := Lib.hid (show runE c e (m + 1) = some E by rw [HST.out, if_neg hd2, if_neg hb])
          have hb0 : E / 2 ^ m % 2 = 0 := by omega
          rw [hb0] at hand
          clear HST HDD hor hd2 hb hb0
          have h3 : m = 0 ∨ m = 1 ∨ m = 2 := by omega
          rcases h3 with rfl | rfl | rfl
          all_goals
            simp at hand
            go_wp2_with (go_at_call 69; refine (H0.out _).mono ?_; rintro e w' ⟨rfl, rfl⟩)
            go_round
            case rel => exact ⟨_, _, HLT.out, by go_num, rfl, hE, HN.out⟩
            case measure => simp [intOf]; omega
    · obtain rfl : m = k := by omega
      have HN := Lib.hid (show R = (E : Int) by
        have h2 := HE.out
        rw [HRUN.out] at h2
        rw [HR.out]
        by_cases hf : fol e (pd m c) = true
        · rw [if_pos hf] at h2 ⊢; cases h2; rfl
        · rw [if_neg hf] at h2; cases h2)
      go_wp2
      go_ret
      exact ⟨by rw [HN.out]; rfl, rfl⟩
end Go.Proofs.Ytjplmmokbkkclaa.SpecEnded
