
/- What NumberWord answers, the program's and the model's, and the law on them.
   Conditions: stated at each theorem. -/
import Derived.Test.YticpmakpajnilaaNumMath
import Derived.Test.YticpmakpajnilaaHeap
import Derived.Laws.BytesArg
import Derived.WalkKit
import Derived.ProofKit
import Derived.Lib.Hide
namespace Go.Proofs.Yticpmakpajnilaa.NumWord
set_option linter.unusedVariables false
set_option linter.unusedSimpArgs false
open Go.RowKit Mem Copy Heap WordMath NumMath

theorem info8 : (Try.prog.info? 5).map (fun i => (i.zero, i.size, i.bytes)) = some (some (.int .u8 0), 1, 1) := by kernel_rfl
def bv (xs : List Int) : List Value := xs.map (Value.int .u8)
theorem bv_len (xs : List Int) : (bv xs).length = xs.length := by simp [bv]
theorem bv_add (xs : List Int) (x : Int) : bv xs ++ [.int .u8 x] = bv (xs ++ [x]) := by simp [bv]
theorem conv {w : World} {B : Nat} {v : Value} {xs : List Int} (h : Lst w B 5 v (bv xs)) : (convert 72 9 v).run Try.prog w = .ok (.string (strOfNums xs)) w := by
  by_cases h0 : 0 < xs.length
  · obtain ⟨g, cap, rfl, -, hc, -⟩ := h.view (by rw [bv_len]; exact h0)
    rw [bv_len]
    refine run_convert_bytes_arg _ 72 5 Try.underlying72 Try.underlying5 g 0 xs.length cap xs rfl (fun i hi => ?_) 9 Try.underlying9
    rw [Nat.zero_add, hc i (by rw [bv_len]; exact hi)]
    simp [bv, List.getD, hi]
  · have e : xs = [] := List.eq_nil_of_length_eq_zero (by omega)
    subst e
    rcases h.2 with ⟨rfl, -⟩ | ⟨g, cap, cur, rfl, -⟩
    · have := run_convert_bytes_nil (P := Try.prog) w 72 5 Try.underlying72 Try.underlying5 0 0 9 Try.underlying9
      exact this
    · exact run_convert_bytes_arg _ 72 5 Try.underlying72 Try.underlying5 g 0 0 cap [] rfl (fun i hi => absurd hi (Nat.not_lt_zero i)) 9 Try.underlying9

theorem idxA (w : World) : (Instr.index 9 (.string ⟨#[97, 98]⟩) (.int .i64 0)).run Try.prog w = .ok (.int .u8 97) w := by kernel_rfl
theorem idxB (w : World) : (Instr.index 9 (.string ⟨#[97, 98]⟩) (.int .i64 1)).run Try.prog w = .ok (.int .u8 98) w := by kernel_rfl
theorem idx (d : Int) (h : d = 0 ∨ d = 1) (w : World) :
    (Instr.index 9 (.string ⟨#[97, 98]⟩) (.int .i64 d)).run Try.prog w = .ok (.int .u8 (97 + d)) w := by
  rcases h with rfl | rfl
  · exact idxA w
  · exact idxB w

def inB (x lo hi : Int) : Bool := decide (lo ≤ x ∧ x ≤ hi)
theorem withinAny (x lo hi : Int) (w : World) :
    Calls Try.prog 82 #[.int .i64 x, .int .i64 lo, .int .i64 hi] w fun e w' => e = .returned (.bool (inB x lo hi)) ∧ w = w' := by
  by_cases h : lo ≤ x
  · by_cases h2 : x ≤ hi
    · have E : inB x lo hi = true := by simp [inB, h, h2]
      have d1 : decide (lo ≤ x) = true := by simpa using h
      have d2 : decide (x ≤ hi) = true := by simpa using h2
      go_enter Try.func82, Try.ntmps82
      go_wp2
      go_ret
      exact ⟨by first | rfl | (rw [E]; rfl), rfl⟩
    · have E : inB x lo hi = false := by simp [inB, h2]
      have d1 : decide (lo ≤ x) = true := by simpa using h
      have d2 : decide (x ≤ hi) = false := by simpa using h2
      go_enter Try.func82, Try.ntmps82
      go_wp2
      go_ret
      exact ⟨by first | rfl | (rw [E]; rfl), rfl⟩
  · have E : inB x lo hi = false := by simp [inB, h]
    have d1 : decide (lo ≤ x) = false := by simpa using h
    go_enter Try.func82, Try.ntmps82
    go_wp2
    go_ret
    exact ⟨by first | rfl | (rw [E]; rfl), rfl⟩
theorem inAny (x lo hi : Int) (w : World) :
    Calls Try.prog 52 #[.int .i64 x, .int .i64 lo, .int .i64 hi] w fun e w' => e = .returned (.bool (inB x lo hi)) ∧ w = w' := by
  by_cases h : lo ≤ x
  · by_cases h2 : x ≤ hi
    · have E : inB x lo hi = true := by simp [inB, h, h2]
      have d1 : decide (lo ≤ x) = true := by simpa using h
      have d2 : decide (x ≤ hi) = true := by simpa using h2
      go_enter Try.func52, Try.ntmps52
      go_wp2
      go_ret
      exact ⟨by first | rfl | (rw [E]; rfl), rfl⟩
    · have E : inB x lo hi = false := by simp [inB, h2]
      have d1 : decide (lo ≤ x) = true := by simpa using h
      have d2 : decide (x ≤ hi) = false := by simpa using h2
      go_enter Try.func52, Try.ntmps52
      go_wp2
      go_ret
      exact ⟨by first | rfl | (rw [E]; rfl), rfl⟩
  · have E : inB x lo hi = false := by simp [inB, h]
    have d1 : decide (lo ≤ x) = false := by simpa using h
    go_enter Try.func52, Try.ntmps52
    go_wp2
    go_ret
    exact ⟨by first | rfl | (rw [E]; rfl), rfl⟩

theorem half (m : Nat) : (Value.int .i64 ((m : Int) / 2)) = .int .i64 ((m / 2 : Nat) : Int) := by
  rw [show ((m : Int) / 2) = ((m / 2 : Nat) : Int) from by omega]

set_option maxHeartbeats 1000000 in
theorem implIn (n : Nat) (hn : n ≤ 1000000000) (w : World) :
    Calls Try.prog 46 #[.int .i64 n] w fun e w' => e = .returned (.tuple #[.string (strOfNums (digs n)), .int .i64 0]) ∧ Below w.heap.size w w' := by
  have E : inB n 0 1000000000 = true := by simp [inB]; omega
  have HN := Lib.hid hn
  go_enter Try.func46, Try.ntmps46
  go_wp2_with (go_at_call 82; refine (withinAny _ _ _ _).mono ?_; rw [E]; rintro e w' ⟨rfl, rfl⟩)
  clear E
  go_loopw [0, 4] (fun i v wr => ∃ (m : Nat) (xs : List Int), i = .int .i64 m ∧ m ≤ n ∧ xs ++ digs m = digs n ∧ Lst wr w.heap.size 5 v (bv xs) ∧ Below w.heap.size w wr) (fun i _ _ => (intOf i).toNat)
  case atStart => exact ⟨n, [], rfl, Nat.le_refl _, rfl, Lst.nil _ _ _, Below.refl _ _⟩
  case round =>
    obtain ⟨m, xs, rfl, hm, hd, hl, hb⟩ := hrel
    have HL := Lib.hid hl
    have HB := Lib.hid hb
    have HD := Lib.hid hd
    have HX := Lib.hid (show (bv xs).length ≤ 100000000 from by rw [bv_len]; have := digs_cut hd hn; omega)
    have HS := Lib.hid hb.size
    obtain ⟨a0, n0, c0, rfl, -⟩ := hl.shape'
    clear hl hb hd
    by_cases hlt : 0 < m
    · have hi := fun w => idx ((m : Int) % 2) (by omega) w
      have HH := Lib.hid (half m)
      go_wp2_with (at_builtin; refine wpList_push rfl _ _ 72 rfl 5 (.int .u8 0) 1 Try.underlying72 info8 (by decide) (by decide) w.heap.size _ _ (.int .u8 (97 + (m : Int) % 2)) HL.out HS.out rfl HX.out rfl _ rfl rfl ?_; intro v5 w5 hp5; obtain ⟨a5, n5, cp5, rfl, -⟩ := hp5.lst.shape'; have HL5 := Lib.hid hp5.lst; have HB5 := Lib.hid (HB.out.grown hp5.grow HB.out.size (fun q hq => HL.out.ge hq)); clear hp5)
      go_roundw
      case rel => exact ⟨m / 2, xs ++ [97 + (m : Int) % 2], HH.out, by omega, digs_step HD.out hlt, by rw [← bv_add]; exact HL5.out, HB5.out⟩
      case measure => simp [intOf]; omega
    · obtain rfl : m = 0 := by omega
      have hc := conv HL.out
      have HE := Lib.hid (digs_end HD.out)
      go_wp2
      go_ret2
      exact ⟨by rw [HE.out]; rfl, HB.out⟩

theorem implOut (n : Int) (h : ¬ (0 ≤ n ∧ n ≤ 1000000000)) (w : World) :
    Calls Try.prog 46 #[.int .i64 n] w fun e w' => e = .returned (.tuple #[.string ⟨#[]⟩, .int .i64 2]) ∧ Below w.heap.size w w' := by
  have E : inB n 0 1000000000 = false := by simp [inB]; omega
  go_enter Try.func46, Try.ntmps46
  go_wp2_with (go_at_call 82; refine (withinAny _ _ _ _).mono ?_; rw [E]; rintro e w' ⟨rfl, rfl⟩)
  go_ret2
  exact ⟨rfl, Below.refl _ _⟩

set_option maxHeartbeats 1000000 in
theorem specWord (n : Nat) (hn : n ≤ 1000000000) (w : World) :
    Calls Try.prog 81 #[.int .i64 n] w fun e w' => e = .returned (.string (strOfNums (digs n))) ∧ Below w.heap.size w w' := by
  have HN := Lib.hid hn
  have HL0 := Lib.hid (Lst.empty w w.heap.size 5 (Nat.le_refl _))
  have HB0 := Lib.hid ((Below.refl w.heap.size w).alloc (Nat.le_refl _) (.cells #[] 5))
  go_enter Try.func81, Try.ntmps81
  go_wp2_with fail
  go_loopw [0, 3] (fun i v wr => ∃ (m : Nat) (xs : List Int), i = .int .i64 m ∧ m ≤ n ∧ xs ++ digs m = digs n ∧ Lst wr w.heap.size 5 v (bv xs) ∧ Below w.heap.size w wr) (fun i _ _ => (intOf i).toNat)
  case atStart => exact ⟨n, [], rfl, Nat.le_refl _, rfl, HL0.out, HB0.out⟩
  case round =>
    obtain ⟨m, xs, rfl, hm, hd, hl, hb⟩ := hrel
    have HL := Lib.hid hl
    have HB := Lib.hid hb
    have HD := Lib.hid hd
    have HX := Lib.hid (show (bv xs).length ≤ 100000000 from by rw [bv_len]; have := digs_cut hd hn; omega)
    have HS := Lib.hid hb.size
    obtain ⟨a0, n0, c0, rfl, -⟩ := hl.shape'
    clear hl hb hd
    by_cases hlt : 0 < m
    · have HH := Lib.hid (half m)
      go_wp2_with (at_builtin; refine wpList_push rfl _ _ 72 rfl 5 (.int .u8 0) 1 Try.underlying72 info8 (by decide) (by decide) w.heap.size _ _ (.int .u8 (97 + (m : Int) % 2)) HL.out HS.out rfl HX.out rfl _ rfl rfl ?_; intro v5 w5 hp5; obtain ⟨a5, n5, cp5, rfl, -⟩ := hp5.lst.shape'; have HL5 := Lib.hid hp5.lst; have HB5 := Lib.hid (HB.out.grown hp5.grow HB.out.size (fun q hq => HL.out.ge hq)); clear hp5)
      go_roundw
      case rel => exact ⟨m / 2, xs ++ [97 + (m : Int) % 2], HH.out, by omega, digs_step HD.out hlt, by rw [← bv_add]; exact HL5.out, HB5.out⟩
      case measure => simp [intOf]; omega
    · obtain rfl : m = 0 := by omega
      have hc := conv HL.out
      have HE := Lib.hid (digs_end HD.out)
      go_wp2
      go_ret
      exact ⟨by rw [HE.out]; rfl, HB.out⟩

theorem specIn (n : Nat) (hn : n ≤ 1000000000) (w : World) :
    Calls Try.prog 45 #[.int .i64 n] w fun e w' => e = .returned (.tuple #[.string (strOfNums (digs n)), .int .i64 0]) ∧ Below w.heap.size w w' := by
  have E : inB n 0 1000000000 = true := by simp [inB]; omega
  go_enter Try.func45, Try.ntmps45
  go_wp2_with (first | (go_at_call 52; refine (inAny _ _ _ _).mono ?_; rw [E]; rintro e w' ⟨rfl, rfl⟩) | (go_at_call 81; refine (specWord n hn _).mono ?_; rintro e w' ⟨rfl, hb⟩))
  go_ret2
  exact ⟨rfl, hb⟩
theorem specOut (n : Int) (h : ¬ (0 ≤ n ∧ n ≤ 1000000000)) (w : World) :
    Calls Try.prog 45 #[.int .i64 n] w fun e w' => e = .returned (.tuple #[.string ⟨#[]⟩, .int .i64 2]) ∧ Below w.heap.size w w' := by
  have E : inB n 0 1000000000 = false := by simp [inB]; omega
  go_enter Try.func45, Try.ntmps45
  go_wp2_with (go_at_call 52; refine (inAny _ _ _ _).mono ?_; rw [E]; rintro e w' ⟨rfl, rfl⟩)
  go_ret2
  exact ⟨rfl, Below.refl _ _⟩

theorem lawOf (n : Int) (S : ByteArray) (k : Int) (w : World)
    (hs : ∀ w, Calls Try.prog 45 #[.int .i64 n] w fun e w' => e = .returned (.tuple #[.string S, .int .i64 k]) ∧ Below w.heap.size w w')
    (hi : ∀ w, Calls Try.prog 46 #[.int .i64 n] w fun e w' => e = .returned (.tuple #[.string S, .int .i64 k]) ∧ Below w.heap.size w w') :
    Calls Try.prog 12 #[.int .i64 n] w fun e w' => e = .returned (.bool (true)) ∧ Below w.heap.size w w' := by
  have HS := Lib.hid hs
  have HI := Lib.hid hi
  clear hs hi
  go_enter Try.func12, Try.ntmps12
  go_wp2_with (first | (go_at_call 45; refine (HS.out _).mono ?_; rintro e w1 ⟨rfl, hb1⟩) | (go_at_call 46; refine (HI.out _).mono ?_; rintro e w2 ⟨rfl, hb2⟩))
  go_ret
  exact ⟨rfl, hb1.trans (hb2.mono hb1.size)⟩

theorem law (w : World) (n : Int) :
    Calls Try.prog 12 #[.int .i64 n] w fun e w' => e = .returned (.bool (true)) ∧ Below w.heap.size w w' := by
  by_cases h : 0 ≤ n ∧ n ≤ 1000000000
  · obtain ⟨m, rfl⟩ : ∃ m : Nat, n = m := ⟨n.toNat, by omega⟩
    exact lawOf _ _ _ w (specIn m (by omega)) (implIn m (by omega))
  · exact lawOf _ _ _ w (specOut n h) (implOut n h)
end Go.Proofs.Yticpmakpajnilaa.NumWord
