
/- The functions with which the laws mark memory and look at the marks.
   Conditions: stated at each theorem. -/
import Derived.Test.YticpmakpajnilaaRows
import Derived.Test.YticpmakpajnilaaMem
import Derived.Laws.BytesArg
import Derived.Laws.IdiomStrings
namespace Go.Proofs.Yticpmakpajnilaa.MarkT
open Go.RowKit Mem

theorem strs_add (xs ys : List Int) : strOfNums xs ++ strOfNums ys = strOfNums (xs ++ ys) := by
  apply ByteArray.ext
  simp [strOfNums, ByteArray.data_append]

/-- The digits of a number ahead of others. -/
def decTo : Nat → Nat → List Int → List Int
  | 0, _, acc => acc
  | f + 1, k, acc => if k = 0 then acc else decTo f (k / 10) ((48 + (k : Int) % 10) :: acc)
def markS (k : Nat) : ByteArray := strOfNums (109 :: decTo 20 k [])

theorem decTo_zero (f : Nat) (acc : List Int) : decTo f 0 acc = acc := by
  cases f with
  | zero => rfl
  | succ f => unfold decTo; rw [if_pos rfl]

theorem conv1 (W : World) (x : Int) :
    (convert 72 9 (.slice (some ⟨W.heap.size, 0, none⟩) 1 1)).run Try.prog (W.alloc (.cells #[.int .u8 x] 5)) = .ok (.string (strOfNums [x])) (W.alloc (.cells #[.int .u8 x] 5)) := by
  refine run_convert_bytes_arg _ 72 5 Try.underlying72 Try.underlying5 _ 0 1 1 _ rfl (fun i hi => ?_) 9 Try.underlying9
  have : i = 0 := by omega
  subst this
  rw [World.cell?_alloc_mark]; rfl

set_option maxHeartbeats 1000000 in
theorem markText (k : Nat) (w : World) (h1 : 1 ≤ k) (h2 : k ≤ 8388608) :
    Calls Try.prog 75 #[.int .i64 k] w fun e w' => e = .returned (.string (markS k)) ∧ Below w.heap.size w w' := by
  have cv := conv1
  have hk0 : ¬ (k : Int) ≤ 0 := by omega
  obtain ⟨L, hL⟩ : ∃ L, L = decTo 20 k [] := ⟨_, rfl⟩
  have HM := Lib.hid (show markS k = strOfNums (109 :: L) by rw [hL]; rfl)
  go_enter Try.func75, Try.ntmps75
  go_wp2
  go_loopw [0, 3] (fun j s wr => ∃ (m f : Nat) (acc : List Int), j = .int .i64 m ∧ m ≤ 8388608 ∧ s = .string (strOfNums acc) ∧ acc.length ≤ 20 - f ∧ f ≤ 20 ∧ m < 10 ^ f ∧ decTo f m acc = L ∧ Below w.heap.size w wr) (fun j _ _ => (intOf j).toNat)
  case atStart => exact ⟨k, 20, [], rfl, h2, rfl, by simp, by omega, by omega, hL.symm, Below.refl _ _⟩
  case round =>
    obtain ⟨m, f, acc, rfl, hm, rfl, hal, hf, hmf, hd, hb⟩ := hrel
    have HD := Lib.hid hd
    have HB := Lib.hid hb
    have HF := Lib.hid hmf
    clear hd hb hmf hL hk0
    by_cases h0 : m = 0
    · have HE := Lib.hid (show strOfNums acc = strOfNums L by rw [← HD.out, h0, decTo_zero])
      have hs : (strOfNums acc).size ≤ 20 := by rw [strOfNums_size]; omega
      subst h0
      rw [HE.out] at hs ⊢
      go_wp2
      go_ret
      exact ⟨by rw [HM.out, show (109 : Int) :: L = [109] ++ L from rfl, ← strs_add]; rfl, HB.out⟩
    · have hm1 : (0 : Int) < (m : Int) := by omega
      have hs : (strOfNums acc).size ≤ 20 := by rw [strOfNums_size]; omega
      have h1s : (strOfNums [48 + (m : Int) % 10]).size = 1 := by rw [strOfNums_size]; rfl
      have hsum : (strOfNums [48 + (m : Int) % 10]).size + (strOfNums acc).size ≤ 9223372036854775807 := by omega
      go_wp2
      obtain ⟨g, rfl⟩ : ∃ g, f = g + 1 := by
        cases f with
        | zero => exfalso; have := HF.out; simp at this; omega
        | succ g => exact ⟨g, rfl⟩
      refine ⟨⟨m / 10, g, (48 + (m : Int) % 10) :: acc, by rw [Int.natCast_ediv]; rfl, by omega, by rw [strs_add]; rfl, by simp only [List.length_cons]; omega, by omega, ?_, ?_, ?_⟩, ?_⟩
      · have := HF.out; rw [Nat.pow_succ] at this; omega
      · rw [← HD.out]; conv => rhs; unfold decTo
        rw [if_neg h0]
      · exact HB.out.alloc HB.out.size _
      · simp only [intOf]; omega
end Go.Proofs.Yticpmakpajnilaa.MarkT
