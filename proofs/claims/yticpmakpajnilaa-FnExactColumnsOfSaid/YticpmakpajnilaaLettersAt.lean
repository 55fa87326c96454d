
/- The letters of a tuple's column, as the program makes them.
   Conditions: one to three words; no index beyond 100. -/
import Derived.Test.YticpmakpajnilaaStrs
import Derived.Test.YticpmakpajnilaaColumns
import Derived.Test.YticpmakpajnilaaColMath
namespace Go.Proofs.Yticpmakpajnilaa.LettersAt
open Go.RowKit Mem Rel Strs Columns ColMath
set_option linter.unusedVariables false

/-- What a word has at a place, as a letter. -/
def letAt (s : ByteArray) (i : Nat) : Int := if h : i < s.size then ((s[i]'h).toNat : Int) else 35
theorem letAt_in {s : ByteArray} {i : Nat} (h : i < s.size) : letAt s i = ((s[i]'h).toNat : Int) := by unfold letAt; rw [dif_pos h]
theorem past3 {w : World} {b o : Nat} {v : Value} (h : w.cell? ⟨b, o, none⟩ = some v) (hb : b < w.heap.size) (X Y Z : Obj) : (((w.alloc X).alloc Y).alloc Z).cell? ⟨b, o, none⟩ = some v :=
  ((((((Below.refl _ _).alloc (Nat.le_refl _) X).alloc (by simp) Y).alloc (by simp; omega) Z) : Below w.heap.size w _).cell (p := ⟨b, o, none⟩) hb).trans h
theorem letAt_out {s : ByteArray} {i : Nat} (h : ¬ i < s.size) : letAt s i = 35 := by unfold letAt; rw [dif_neg h]

set_option maxHeartbeats 1000000 in
theorem at1i (b off cap i : Nat) (x : ByteArray) (w : World) (hb : b < w.heap.size) (hi : i ≤ 100) (c0 : w.cell? ⟨b, off, none⟩ = some (.string x)) (s0 : x.size ≤ 9223372036854775807) (h0 : i < x.size) :
    Calls Try.prog 91 #[.slice (some ⟨b, off, none⟩) 1 cap, .int .i64 i] w fun e w' => e = .returned (.agg #[.int .u8 ((x[i]'h0).toNat : Int), .int .u8 35, .int .u8 35]) ∧ Below w.heap.size w w' := by
  have q0 := past3 c0 hb
  go_enter Try.func91, Try.ntmps91
  go_wp2_with (go_at_call 87; refine (pads _).mono ?_; rintro e w' ⟨rfl, rfl⟩)
  refine wp_loop_rounds 2 ?_
  rw [rounds_succ]
  go_wp2
  rw [rounds_succ]
  go_wp2
  exact bodyPost_ret (v := .agg #[.int .u8 ((x[i]'h0).toNat : Int), .int .u8 35, .int .u8 35]) (by simp [results, Try.results91, go_sem]) rfl ⟨rfl, by repeat (first | exact Below.refl _ _ | refine Below.alloc ?_ (by simp; try omega) _)⟩

set_option maxHeartbeats 1000000 in
theorem at1o (b off cap i : Nat) (x : ByteArray) (w : World) (hb : b < w.heap.size) (hi : i ≤ 100) (c0 : w.cell? ⟨b, off, none⟩ = some (.string x)) (s0 : x.size ≤ 9223372036854775807) (h0 : ¬ i < x.size) :
    Calls Try.prog 91 #[.slice (some ⟨b, off, none⟩) 1 cap, .int .i64 i] w fun e w' => e = .returned (.agg #[.int .u8 35, .int .u8 35, .int .u8 35]) ∧ Below w.heap.size w w' := by
  have q0 := past3 c0 hb
  go_enter Try.func91, Try.ntmps91
  go_wp2_with (go_at_call 87; refine (pads _).mono ?_; rintro e w' ⟨rfl, rfl⟩)
  refine wp_loop_rounds 2 ?_
  rw [rounds_succ]
  go_wp2
  rw [rounds_succ]
  go_wp2
  exact bodyPost_ret (v := .agg #[.int .u8 35, .int .u8 35, .int .u8 35]) (by simp [results, Try.results91, go_sem]) rfl ⟨rfl, by repeat (first | exact Below.refl _ _ | refine Below.alloc ?_ (by simp; try omega) _)⟩

theorem at1 (b off cap i : Nat) (x : ByteArray) (w : World) (hb : b < w.heap.size) (hi : i ≤ 100) (c0 : w.cell? ⟨b, off, none⟩ = some (.string x)) (s0 : x.size ≤ 9223372036854775807) :
    Calls Try.prog 91 #[.slice (some ⟨b, off, none⟩) 1 cap, .int .i64 i] w fun e w' => e = .returned (.agg #[.int .u8 (letAt x i), .int .u8 35, .int .u8 35]) ∧ Below w.heap.size w w' := by
  by_cases h0 : i < x.size
  · rw [letAt_in h0]
    exact at1i b off cap i x w hb hi c0 s0 h0
  · rw [letAt_out h0]
    exact at1o b off cap i x w hb hi c0 s0 h0

set_option maxHeartbeats 1000000 in
theorem at2ii (b off cap i : Nat) (x y : ByteArray) (w : World) (hb : b < w.heap.size) (hi : i ≤ 100) (c0 : w.cell? ⟨b, off, none⟩ = some (.string x)) (c1 : w.cell? ⟨b, off + 1, none⟩ = some (.string y)) (s0 : x.size ≤ 9223372036854775807) (s1 : y.size ≤ 9223372036854775807) (h0 : i < x.size) (h1 : i < y.size) :
    Calls Try.prog 91 #[.slice (some ⟨b, off, none⟩) 2 cap, .int .i64 i] w fun e w' => e = .returned (.agg #[.int .u8 ((x[i]'h0).toNat : Int), .int .u8 ((y[i]'h1).toNat : Int), .int .u8 35]) ∧ Below w.heap.size w w' := by
  have q0 := past3 c0 hb
  have q1 := past3 c1 hb
  go_enter Try.func91, Try.ntmps91
  go_wp2_with (go_at_call 87; refine (pads _).mono ?_; rintro e w' ⟨rfl, rfl⟩)
  refine wp_loop_rounds 3 ?_
  rw [rounds_succ]
  go_wp2
  rw [rounds_succ]
  go_wp2
  rw [rounds_succ]
  go_wp2
  exact bodyPost_ret (v := .agg #[.int .u8 ((x[i]'h0).toNat : Int), .int .u8 ((y[i]'h1).toNat : Int), .int .u8 35]) (by simp [results, Try.results91, go_sem]) rfl ⟨rfl, by repeat (first | exact Below.refl _ _ | refine Below.alloc ?_ (by simp; try omega) _)⟩

set_option maxHeartbeats 1000000 in
theorem at2io (b off cap i : Nat) (x y : ByteArray) (w : World) (hb : b < w.heap.size) (hi : i ≤ 100) (c0 : w.cell? ⟨b, off, none⟩ = some (.string x)) (c1 : w.cell? ⟨b, off + 1, none⟩ = some (.string y)) (s0 : x.size ≤ 9223372036854775807) (s1 : y.size ≤ 9223372036854775807) (h0 : i < x.size) (h1 : ¬ i < y.size) :
    Calls Try.prog 91 #[.slice (some ⟨b, off, none⟩) 2 cap, .int .i64 i] w fun e w' => e = .returned (.agg #[.int .u8 ((x[i]'h0).toNat : Int), .int .u8 35, .int .u8 35]) ∧ Below w.heap.size w w' := by
  have q0 := past3 c0 hb
  have q1 := past3 c1 hb
  go_enter Try.func91, Try.ntmps91
  go_wp2_with (go_at_call 87; refine (pads _).mono ?_; rintro e w' ⟨rfl, rfl⟩)
  refine wp_loop_rounds 3 ?_
  rw [rounds_succ]
  go_wp2
  rw [rounds_succ]
  go_wp2
  rw [rounds_succ]
  go_wp2
  exact bodyPost_ret (v := .agg #[.int .u8 ((x[i]'h0).toNat : Int), .int .u8 35, .int .u8 35]) (by simp [results, Try.results91, go_sem]) rfl ⟨rfl, by repeat (first | exact Below.refl _ _ | refine Below.alloc ?_ (by simp; try omega) _)⟩

set_option maxHeartbeats 1000000 in
theorem at2oi (b off cap i : Nat) (x y : ByteArray) (w : World) (hb : b < w.heap.size) (hi : i ≤ 100) (c0 : w.cell? ⟨b, off, none⟩ = some (.string x)) (c1 : w.cell? ⟨b, off + 1, none⟩ = some (.string y)) (s0 : x.size ≤ 9223372036854775807) (s1 : y.size ≤ 9223372036854775807) (h0 : ¬ i < x.size) (h1 : i < y.size) :
    Calls Try.prog 91 #[.slice (some ⟨b, off, none⟩) 2 cap, .int .i64 i] w fun e w' => e = .returned (.agg #[.int .u8 35, .int .u8 ((y[i]'h1).toNat : Int), .int .u8 35]) ∧ Below w.heap.size w w' := by
  have q0 := past3 c0 hb
  have q1 := past3 c1 hb
  go_enter Try.func91, Try.ntmps91
  go_wp2_with (go_at_call 87; refine (pads _).mono ?_; rintro e w' ⟨rfl, rfl⟩)
  refine wp_loop_rounds 3 ?_
  rw [rounds_succ]
  go_wp2
  rw [rounds_succ]
  go_wp2
  rw [rounds_succ]
  go_wp2
  exact bodyPost_ret (v := .agg #[.int .u8 35, .int .u8 ((y[i]'h1).toNat : Int), .int .u8 35]) (by simp [results, Try.results91, go_sem]) rfl ⟨rfl, by repeat (first | exact Below.refl _ _ | refine Below.alloc ?_ (by simp; try omega) _)⟩

set_option maxHeartbeats 1000000 in
theorem at2oo (b off cap i : Nat) (x y : ByteArray) (w : World) (hb : b < w.heap.size) (hi : i ≤ 100) (c0 : w.cell? ⟨b, off, none⟩ = some (.string x)) (c1 : w.cell? ⟨b, off + 1, none⟩ = some (.string y)) (s0 : x.size ≤ 9223372036854775807) (s1 : y.size ≤ 9223372036854775807) (h0 : ¬ i < x.size) (h1 : ¬ i < y.size) :
    Calls Try.prog 91 #[.slice (some ⟨b, off, none⟩) 2 cap, .int .i64 i] w fun e w' => e = .returned (.agg #[.int .u8 35, .int .u8 35, .int .u8 35]) ∧ Below w.heap.size w w' := by
  have q0 := past3 c0 hb
  have q1 := past3 c1 hb
  go_enter Try.func91, Try.ntmps91
  go_wp2_with (go_at_call 87; refine (pads _).mono ?_; rintro e w' ⟨rfl, rfl⟩)
  refine wp_loop_rounds 3 ?_
  rw [rounds_succ]
  go_wp2
  rw [rounds_succ]
  go_wp2
  rw [rounds_succ]
  go_wp2
  exact bodyPost_ret (v := .agg #[.int .u8 35, .int .u8 35, .int .u8 35]) (by simp [results, Try.results91, go_sem]) rfl ⟨rfl, by repeat (first | exact Below.refl _ _ | refine Below.alloc ?_ (by simp; try omega) _)⟩

theorem at2 (b off cap i : Nat) (x y : ByteArray) (w : World) (hb : b < w.heap.size) (hi : i ≤ 100) (c0 : w.cell? ⟨b, off, none⟩ = some (.string x)) (c1 : w.cell? ⟨b, off + 1, none⟩ = some (.string y)) (s0 : x.size ≤ 9223372036854775807) (s1 : y.size ≤ 9223372036854775807) :
    Calls Try.prog 91 #[.slice (some ⟨b, off, none⟩) 2 cap, .int .i64 i] w fun e w' => e = .returned (.agg #[.int .u8 (letAt x i), .int .u8 (letAt y i), .int .u8 35]) ∧ Below w.heap.size w w' := by
  by_cases h0 : i < x.size
  · by_cases h1 : i < y.size
    · rw [letAt_in h0, letAt_in h1]
      exact at2ii b off cap i x y w hb hi c0 c1 s0 s1 h0 h1
    · rw [letAt_in h0, letAt_out h1]
      exact at2io b off cap i x y w hb hi c0 c1 s0 s1 h0 h1
  · by_cases h1 : i < y.size
    · rw [letAt_out h0, letAt_in h1]
      exact at2oi b off cap i x y w hb hi c0 c1 s0 s1 h0 h1
    · rw [letAt_out h0, letAt_out h1]
      exact at2oo b off cap i x y w hb hi c0 c1 s0 s1 h0 h1

set_option maxHeartbeats 1000000 in
theorem at3iii (b off cap i : Nat) (x y z : ByteArray) (w : World) (hb : b < w.heap.size) (hi : i ≤ 100) (c0 : w.cell? ⟨b, off, none⟩ = some (.string x)) (c1 : w.cell? ⟨b, off + 1, none⟩ = some (.string y)) (c2 : w.cell? ⟨b, off + 2, none⟩ = some (.string z)) (s0 : x.size ≤ 9223372036854775807) (s1 : y.size ≤ 9223372036854775807) (s2 : z.size ≤ 9223372036854775807) (h0 : i < x.size) (h1 : i < y.size) (h2 : i < z.size) :
    Calls Try.prog 91 #[.slice (some ⟨b, off, none⟩) 3 cap, .int .i64 i] w fun e w' => e = .returned (.agg #[.int .u8 ((x[i]'h0).toNat : Int), .int .u8 ((y[i]'h1).toNat : Int), .int .u8 ((z[i]'h2).toNat : Int)]) ∧ Below w.heap.size w w' := by
  have q0 := past3 c0 hb
  have q1 := past3 c1 hb
  have q2 := past3 c2 hb
  go_enter Try.func91, Try.ntmps91
  go_wp2_with (go_at_call 87; refine (pads _).mono ?_; rintro e w' ⟨rfl, rfl⟩)
  refine wp_loop_rounds 4 ?_
  rw [rounds_succ]
  go_wp2
  rw [rounds_succ]
  go_wp2
  rw [rounds_succ]
  go_wp2
  rw [rounds_succ]
  go_wp2
  exact bodyPost_ret (v := .agg #[.int .u8 ((x[i]'h0).toNat : Int), .int .u8 ((y[i]'h1).toNat : Int), .int .u8 ((z[i]'h2).toNat : Int)]) (by simp [results, Try.results91, go_sem]) rfl ⟨rfl, by repeat (first | exact Below.refl _ _ | refine Below.alloc ?_ (by simp; try omega) _)⟩

set_option maxHeartbeats 1000000 in
theorem at3iio (b off cap i : Nat) (x y z : ByteArray) (w : World) (hb : b < w.heap.size) (hi : i ≤ 100) (c0 : w.cell? ⟨b, off, none⟩ = some (.string x)) (c1 : w.cell? ⟨b, off + 1, none⟩ = some (.string y)) (c2 : w.cell? ⟨b, off + 2, none⟩ = some (.string z)) (s0 : x.size ≤ 9223372036854775807) (s1 : y.size ≤ 9223372036854775807) (s2 : z.size ≤ 9223372036854775807) (h0 : i < x.size) (h1 : i < y.size) (h2 : ¬ i < z.size) :
    Calls Try.prog 91 #[.slice (some ⟨b, off, none⟩) 3 cap, .int .i64 i] w fun e w' => e = .returned (.agg #[.int .u8 ((x[i]'h0).toNat : Int), .int .u8 ((y[i]'h1).toNat : Int), .int .u8 35]) ∧ Below w.heap.size w w' := by
  have q0 := past3 c0 hb
  have q1 := past3 c1 hb
  have q2 := past3 c2 hb
  go_enter Try.func91, Try.ntmps91
  go_wp2_with (go_at_call 87; refine (pads _).mono ?_; rintro e w' ⟨rfl, rfl⟩)
  refine wp_loop_rounds 4 ?_
  rw [rounds_succ]
  go_wp2
  rw [rounds_succ]
  go_wp2
  rw [rounds_succ]
  go_wp2
  rw [rounds_succ]
  go_wp2
  exact bodyPost_ret (v := .agg #[.int .u8 ((x[i]'h0).toNat : Int), .int .u8 ((y[i]'h1).toNat : Int), .int .u8 35]) (by simp [results, Try.results91, go_sem]) rfl ⟨rfl, by repeat (first | exact Below.refl _ _ | refine Below.alloc ?_ (by simp; try omega) _)⟩

set_option maxHeartbeats 1000000 in
theorem at3ioi (b off cap i : Nat) (x y z : ByteArray) (w : World) (hb : b < w.heap.size) (hi : i ≤ 100) (c0 : w.cell? ⟨b, off, none⟩ = some (.string x)) (c1 : w.cell? ⟨b, off + 1, none⟩ = some (.string y)) (c2 : w.cell? ⟨b, off + 2, none⟩ = some (.string z)) (s0 : x.size ≤ 9223372036854775807) (s1 : y.size ≤ 9223372036854775807) (s2 : z.size ≤ 9223372036854775807) (h0 : i < x.size) (h1 : ¬ i < y.size) (h2 : i < z.size) :
    Calls Try.prog 91 #[.slice (some ⟨b, off, none⟩) 3 cap, .int .i64 i] w fun e w' => e = .returned (.agg #[.int .u8 ((x[i]'h0).toNat : Int), .int .u8 35, .int .u8 ((z[i]'h2).toNat : Int)]) ∧ Below w.heap.size w w' := by
  have q0 := past3 c0 hb
  have q1 := past3 c1 hb
  have q2 := past3 c2 hb
  go_enter Try.func91, Try.ntmps91
  go_wp2_with (go_at_call 87; refine (pads _).mono ?_; rintro e w' ⟨rfl, rfl⟩)
  refine wp_loop_rounds 4 ?_
  rw [rounds_succ]
  go_wp2
  rw [rounds_succ]
  go_wp2
  rw [rounds_succ]
  go_wp2
  rw [rounds_succ]
  go_wp2
  exact bodyPost_ret (v := .agg #[.int .u8 ((x[i]'h0).toNat : Int), .int .u8 35, .int .u8 ((z[i]'h2).toNat : Int)]) (by simp [results, Try.results91, go_sem]) rfl ⟨rfl, by repeat (first | exact Below.refl _ _ | refine Below.alloc ?_ (by simp; try omega) _)⟩

set_option maxHeartbeats 1000000 in
theorem at3ioo (b off cap i : Nat) (x y z : ByteArray) (w : World) (hb : b < w.heap.size) (hi : i ≤ 100) (c0 : w.cell? ⟨b, off, none⟩ = some (.string x)) (c1 : w.cell? ⟨b, off + 1, none⟩ = some (.string y)) (c2 : w.cell? ⟨b, off + 2, none⟩ = some (.string z)) (s0 : x.size ≤ 9223372036854775807) (s1 : y.size ≤ 9223372036854775807) (s2 : z.size ≤ 9223372036854775807) (h0 : i < x.size) (h1 : ¬ i < y.size) (h2 : ¬ i < z.size) :
    Calls Try.prog 91 #[.slice (some ⟨b, off, none⟩) 3 cap, .int .i64 i] w fun e w' => e = .returned (.agg #[.int .u8 ((x[i]'h0).toNat : Int), .int .u8 35, .int .u8 35]) ∧ Below w.heap.size w w' := by
  have q0 := past3 c0 hb
  have q1 := past3 c1 hb
  have q2 := past3 c2 hb
  go_enter Try.func91, Try.ntmps91
  go_wp2_with (go_at_call 87; refine (pads _).mono ?_; rintro e w' ⟨rfl, rfl⟩)
  refine wp_loop_rounds 4 ?_
  rw [rounds_succ]
  go_wp2
  rw [rounds_succ]
  go_wp2
  rw [rounds_succ]
  go_wp2
  rw [rounds_succ]
  go_wp2
  exact bodyPost_ret (v := .agg #[.int .u8 ((x[i]'h0).toNat : Int), .int .u8 35, .int .u8 35]) (by simp [results, Try.results91, go_sem]) rfl ⟨rfl, by repeat (first | exact Below.refl _ _ | refine Below.alloc ?_ (by simp; try omega) _)⟩

set_option maxHeartbeats 1000000 in
theorem at3oii (b off cap i : Nat) (x y z : ByteArray) (w : World) (hb : b < w.heap.size) (hi : i ≤ 100) (c0 : w.cell? ⟨b, off, none⟩ = some (.string x)) (c1 : w.cell? ⟨b, off + 1, none⟩ = some (.string y)) (c2 : w.cell? ⟨b, off + 2, none⟩ = some (.string z)) (s0 : x.size ≤ 9223372036854775807) (s1 : y.size ≤ 9223372036854775807) (s2 : z.size ≤ 9223372036854775807) (h0 : ¬ i < x.size) (h1 : i < y.size) (h2 : i < z.size) :
    Calls Try.prog 91 #[.slice (some ⟨b, off, none⟩) 3 cap, .int .i64 i] w fun e w' => e = .returned (.agg #[.int .u8 35, .int .u8 ((y[i]'h1).toNat : Int), .int .u8 ((z[i]'h2).toNat : Int)]) ∧ Below w.heap.size w w' := by
  have q0 := past3 c0 hb
  have q1 := past3 c1 hb
  have q2 := past3 c2 hb
  go_enter Try.func91, Try.ntmps91
  go_wp2_with (go_at_call 87; refine (pads _).mono ?_; rintro e w' ⟨rfl, rfl⟩)
  refine wp_loop_rounds 4 ?_
  rw [rounds_succ]
  go_wp2
  rw [rounds_succ]
  go_wp2
  rw [rounds_succ]
  go_wp2
  rw [rounds_succ]
  go_wp2
  exact bodyPost_ret (v := .agg #[.int .u8 35, .int .u8 ((y[i]'h1).toNat : Int), .int .u8 ((z[i]'h2).toNat : Int)]) (by simp [results, Try.results91, go_sem]) rfl ⟨rfl, by repeat (first | exact Below.refl _ _ | refine Below.alloc ?_ (by simp; try omega) _)⟩

set_option maxHeartbeats 1000000 in
theorem at3oio (b off cap i : Nat) (x y z : ByteArray) (w : World) (hb : b < w.heap.size) (hi : i ≤ 100) (c0 : w.cell? ⟨b, off, none⟩ = some (.string x)) (c1 : w.cell? ⟨b, off + 1, none⟩ = some (.string y)) (c2 : w.cell? ⟨b, off + 2, none⟩ = some (.string z)) (s0 : x.size ≤ 9223372036854775807) (s1 : y.size ≤ 9223372036854775807) (s2 : z.size ≤ 9223372036854775807) (h0 : ¬ i < x.size) (h1 : i < y.size) (h2 : ¬ i < z.size) :
    Calls Try.prog 91 #[.slice (some ⟨b, off, none⟩) 3 cap, .int .i64 i] w fun e w' => e = .returned (.agg #[.int .u8 35, .int .u8 ((y[i]'h1).toNat : Int), .int .u8 35]) ∧ Below w.heap.size w w' := by
  have q0 := past3 c0 hb
  have q1 := past3 c1 hb
  have q2 := past3 c2 hb
  go_enter Try.func91, Try.ntmps91
  go_wp2_with (go_at_call 87; refine (pads _).mono ?_; rintro e w' ⟨rfl, rfl⟩)
  refine wp_loop_rounds 4 ?_
  rw [rounds_succ]
  go_wp2
  rw [rounds_succ]
  go_wp2
  rw [rounds_succ]
  go_wp2
  rw [rounds_succ]
  go_wp2
  exact bodyPost_ret (v := .agg #[.int .u8 35, .int .u8 ((y[i]'h1).toNat : Int), .int .u8 35]) (by simp [results, Try.results91, go_sem]) rfl ⟨rfl, by repeat (first | exact Below.refl _ _ | refine Below.alloc ?_ (by simp; try omega) _)⟩

set_option maxHeartbeats 1000000 in
theorem at3ooi (b off cap i : Nat) (x y z : ByteArray) (w : World) (hb : b < w.heap.size) (hi : i ≤ 100) (c0 : w.cell? ⟨b, off, none⟩ = some (.string x)) (c1 : w.cell? ⟨b, off + 1, none⟩ = some (.string y)) (c2 : w.cell? ⟨b, off + 2, none⟩ = some (.string z)) (s0 : x.size ≤ 9223372036854775807) (s1 : y.size ≤ 9223372036854775807) (s2 : z.size ≤ 9223372036854775807) (h0 : ¬ i < x.size) (h1 : ¬ i < y.size) (h2 : i < z.size) :
    Calls Try.prog 91 #[.slice (some ⟨b, off, none⟩) 3 cap, .int .i64 i] w fun e w' => e = .returned (.agg #[.int .u8 35, .int .u8 35, .int .u8 ((z[i]'h2).toNat : Int)]) ∧ Below w.heap.size w w' := by
  have q0 := past3 c0 hb
  have q1 := past3 c1 hb
  have q2 := past3 c2 hb
  go_enter Try.func91, Try.ntmps91
  go_wp2_with (go_at_call 87; refine (pads _).mono ?_; rintro e w' ⟨rfl, rfl⟩)
  refine wp_loop_rounds 4 ?_
  rw [rounds_succ]
  go_wp2
  rw [rounds_succ]
  go_wp2
  rw [rounds_succ]
  go_wp2
  rw [rounds_succ]
  go_wp2
  exact bodyPost_ret (v := .agg #[.int .u8 35, .int .u8 35, .int .u8 ((z[i]'h2).toNat : Int)]) (by simp [results, Try.results91, go_sem]) rfl ⟨rfl, by repeat (first | exact Below.refl _ _ | refine Below.alloc ?_ (by simp; try omega) _)⟩

set_option maxHeartbeats 1000000 in
theorem at3ooo (b off cap i : Nat) (x y z : ByteArray) (w : World) (hb : b < w.heap.size) (hi : i ≤ 100) (c0 : w.cell? ⟨b, off, none⟩ = some (.string x)) (c1 : w.cell? ⟨b, off + 1, none⟩ = some (.string y)) (c2 : w.cell? ⟨b, off + 2, none⟩ = some (.string z)) (s0 : x.size ≤ 9223372036854775807) (s1 : y.size ≤ 9223372036854775807) (s2 : z.size ≤ 9223372036854775807) (h0 : ¬ i < x.size) (h1 : ¬ i < y.size) (h2 : ¬ i < z.size) :
    Calls Try.prog 91 #[.slice (some ⟨b, off, none⟩) 3 cap, .int .i64 i] w fun e w' => e = .returned (.agg #[.int .u8 35, .int .u8 35, .int .u8 35]) ∧ Below w.heap.size w w' := by
  have q0 := past3 c0 hb
  have q1 := past3 c1 hb
  have q2 := past3 c2 hb
  go_enter Try.func91, Try.ntmps91
  go_wp2_with (go_at_call 87; refine (pads _).mono ?_; rintro e w' ⟨rfl, rfl⟩)
  refine wp_loop_rounds 4 ?_
  rw [rounds_succ]
  go_wp2
  rw [rounds_succ]
  go_wp2
  rw [rounds_succ]
  go_wp2
  rw [rounds_succ]
  go_wp2
  exact bodyPost_ret (v := .agg #[.int .u8 35, .int .u8 35, .int .u8 35]) (by simp [results, Try.results91, go_sem]) rfl ⟨rfl, by repeat (first | exact Below.refl _ _ | refine Below.alloc ?_ (by simp; try omega) _)⟩

theorem at3 (b off cap i : Nat) (x y z : ByteArray) (w : World) (hb : b < w.heap.size) (hi : i ≤ 100) (c0 : w.cell? ⟨b, off, none⟩ = some (.string x)) (c1 : w.cell? ⟨b, off + 1, none⟩ = some (.string y)) (c2 : w.cell? ⟨b, off + 2, none⟩ = some (.string z)) (s0 : x.size ≤ 9223372036854775807) (s1 : y.size ≤ 9223372036854775807) (s2 : z.size ≤ 9223372036854775807) :
    Calls Try.prog 91 #[.slice (some ⟨b, off, none⟩) 3 cap, .int .i64 i] w fun e w' => e = .returned (.agg #[.int .u8 (letAt x i), .int .u8 (letAt y i), .int .u8 (letAt z i)]) ∧ Below w.heap.size w w' := by
  by_cases h0 : i < x.size
  · by_cases h1 : i < y.size
    · by_cases h2 : i < z.size
      · rw [letAt_in h0, letAt_in h1, letAt_in h2]
        exact at3iii b off cap i x y z w hb hi c0 c1 c2 s0 s1 s2 h0 h1 h2
      · rw [letAt_in h0, letAt_in h1, letAt_out h2]
        exact at3iio b off cap i x y z w hb hi c0 c1 c2 s0 s1 s2 h0 h1 h2
    · by_cases h2 : i < z.size
      · rw [letAt_in h0, letAt_out h1, letAt_in h2]
        exact at3ioi b off cap i x y z w hb hi c0 c1 c2 s0 s1 s2 h0 h1 h2
      · rw [letAt_in h0, letAt_out h1, letAt_out h2]
        exact at3ioo b off cap i x y z w hb hi c0 c1 c2 s0 s1 s2 h0 h1 h2
  · by_cases h1 : i < y.size
    · by_cases h2 : i < z.size
      · rw [letAt_out h0, letAt_in h1, letAt_in h2]
        exact at3oii b off cap i x y z w hb hi c0 c1 c2 s0 s1 s2 h0 h1 h2
      · rw [letAt_out h0, letAt_in h1, letAt_out h2]
        exact at3oio b off cap i x y z w hb hi c0 c1 c2 s0 s1 s2 h0 h1 h2
    · by_cases h2 : i < z.size
      · rw [letAt_out h0, letAt_out h1, letAt_in h2]
        exact at3ooi b off cap i x y z w hb hi c0 c1 c2 s0 s1 s2 h0 h1 h2
      · rw [letAt_out h0, letAt_out h1, letAt_out h2]
        exact at3ooo b off cap i x y z w hb hi c0 c1 c2 s0 s1 s2 h0 h1 h2

end Go.Proofs.Yticpmakpajnilaa.LettersAt
