
/- What the two functions that look at a word answer, the program's and the model's.
   Conditions: the text is no longer than a Go text can be. -/
import Derived.Test.YtiklpejcfdhdkaaRows
import Derived.Test.YtiklpejcfdhdkaaWordMath
import Derived.WalkKit
import Derived.ProofKit
import Derived.Lib.Hide
namespace Go.Proofs.Ytiklpejcfdhdkaa.Word
open Go.RowKit WordMath

set_option maxHeartbeats 400000 in
theorem specWord (s : ByteArray) (w : World) (hs : s.size ≤ maxLen) :
    Calls Try.prog 37 #[.string s] w fun e w' => e = .returned (.bool (wordB s)) ∧ w = w' := by
  unfold maxLen at hs
  go_enter Try.func37, Try.ntmps37
  go_wp2
  go_loop [3] (fun i => ∃ k : Nat, k ≤ s.size ∧ i = .int .i64 k ∧ good (s.data.toList.take k) = true) (fun i => s.size - (intOf i).toNat)
  case atStart => exact ⟨0, Nat.zero_le _, rfl, rfl⟩
  case round =>
    obtain ⟨k, hk, rfl, hg⟩ := hrel
    have HG := Lib.hid hg
    clear hg
    by_cases hlt : k < s.size
    · by_cases ha : (s[k].toNat : Int) = 97
      · have HY := Lib.hid (good_yes s k hlt HG.out (letter_a _ ha))
        go_wp2
        go_round
        case rel => exact ⟨k + 1, by omega, by go_num, HY.out⟩
        case measure => simp [intOf]; omega
      · by_cases hb : (s[k].toNat : Int) = 98
        · have HY := Lib.hid (good_yes s k hlt HG.out (letter_b _ hb))
          go_wp2
          go_round
          case rel => exact ⟨k + 1, by omega, by go_num, HY.out⟩
          case measure => simp [intOf]; omega
        · have HN := Lib.hid (word_no s k hlt (letter_no _ ha hb))
          have h1 : ((s[k].toNat : Int) != 97) = true := by rw [bne_iff_ne]; exact ha
          have h2 : ((s[k].toNat : Int) != 98) = true := by rw [bne_iff_ne]; exact hb
          go_wp2
          go_ret
          exact ⟨by rw [HN.out]; rfl, rfl⟩
    · obtain rfl : k = s.size := by omega
      have HE := Lib.hid (word_end s HG.out)
      go_wp2
      go_ret
      exact ⟨by rw [HE.out]; simp; omega, rfl⟩


set_option maxHeartbeats 400000 in
theorem implWord (s : ByteArray) (w : World) (hs : s.size ≤ maxLen) :
    Calls Try.prog 38 #[.string s] w fun e w' => e = .returned (.bool (wordB s)) ∧ w = w' := by
  unfold maxLen at hs
  by_cases hlen : 40 < s.size
  · have HL := Lib.hid (word_long s hlen)
    go_enter Try.func38, Try.ntmps38
    go_wp2
    go_ret
    exact ⟨by rw [HL.out]; rfl, rfl⟩
  · go_enter Try.func38, Try.ntmps38
    go_wp2
    go_loop [9] (fun i => ∃ k : Nat, k ≤ s.size ∧ i = .int .i64 k ∧ good (s.data.toList.take k) = true) (fun i => s.size - (intOf i).toNat)
    case atStart => exact ⟨0, Nat.zero_le _, rfl, rfl⟩
    case round =>
      obtain ⟨k, hk, rfl, hg⟩ := hrel
      have HG := Lib.hid hg
      clear hg
      by_cases hlt : k < s.size
      · by_cases ha : (s[k].toNat : Int) = 97
        · have HY := Lib.hid (good_yes s k hlt HG.out (letter_a _ ha))
          go_wp2
          go_round
          case rel => exact ⟨k + 1, by omega, by go_num, HY.out⟩
          case measure => simp [intOf]; omega
        · by_cases hb : (s[k].toNat : Int) = 98
          · have HY := Lib.hid (good_yes s k hlt HG.out (letter_b _ hb))
            go_wp2
            go_round
            case rel => exact ⟨k + 1, by omega, by go_num, HY.out⟩
            case measure => simp [intOf]; omega
          · have HN := Lib.hid (word_no s k hlt (letter_no _ ha hb))
            have h1 : ((s[k].toNat : Int) != 97) = true := by rw [bne_iff_ne]; exact ha
            have h2 : ((s[k].toNat : Int) != 98) = true := by rw [bne_iff_ne]; exact hb
            go_wp2
            go_ret
            exact ⟨by rw [HN.out]; rfl, rfl⟩
      · obtain rfl : k = s.size := by omega
        have HE := Lib.hid (word_end s HG.out)
        go_wp2
        go_ret
        exact ⟨by rw [HE.out, decide_eq_true (by omega : s.size ≤ 40)]; rfl, rfl⟩

end Go.Proofs.Ytiklpejcfdhdkaa.Word
