
/- What ColumnText answers, the program's and the model's.
   Conditions: stated at each theorem. -/
import Derived.Test.YticpmakpajnilaaColumns
import Derived.Laws.BytesArg
namespace Go.Proofs.Yticpmakpajnilaa.ColText
open Go.RowKit Columns

def cols (n : Nat) (c : Int) : List Int := [letA (c % 3), letA (c / 3 % 3), letA (c / 9 % 3)].take n
def colText (n : Nat) (c : Int) : ByteArray := strOfNums (cols n c)
theorem nine (c : Int) : c / 3 / 3 = c / 9 := by omega

theorem conv (n : Nat) (hn : n ≤ 3) (W : World) (x y z : Int) :
    (convert 72 9 (.slice (some ⟨W.heap.size, 0, none⟩) n 3)).run Try.prog (W.alloc (.cells #[.int .u8 x, .int .u8 y, .int .u8 z] 70)) =
      .ok (.string (strOfNums ([x, y, z].take n))) (W.alloc (.cells #[.int .u8 x, .int .u8 y, .int .u8 z] 70)) := by
  refine run_convert_bytes_arg _ 72 5 Try.underlying72 Try.underlying5 _ 0 n 3 _ (by simp; omega) (fun i hi => ?_) 9 Try.underlying9
  have h3 : i = 0 ∨ i = 1 ∨ i = 2 := by omega
  rw [World.cell?_alloc_mark]
  have : n = 1 ∨ n = 2 ∨ n = 3 := by omega
  rcases h3 with rfl | rfl | rfl <;> rcases this with rfl | rfl | rfl <;> first | rfl | omega

set_option maxHeartbeats 400000 in
theorem text1 (c : Int) (h0 : 0 ≤ c) (h1 : c ≤ 1) (w : World) :
    Calls Try.prog 20 #[.int .i64 1, .int .i64 c] w fun e w' => e = .returned (.tuple #[.string (colText 1 c), .int .i64 0]) ∧ Grown w w' := by
  have d1 : decide (c < 0) = false := by simp; omega
  have d2 : decide (2 ≤ c) = false := by simp; omega
  have cv := fun W => conv 1 (by omega) W (letA (c % 3)) 35 35
  go_enter Try.func20, Try.ntmps20
  go_wp2_with (first | (go_at_call 56; refine (validTapes _ _).mono ?_; rintro e w' ⟨rfl, rfl⟩) | (go_at_call 57; refine (count1 _).mono ?_; rintro e w' ⟨rfl, rfl⟩) | (go_at_call 58; refine (letters1 c h0 (by omega) _).mono ?_; rintro e w' ⟨rfl, hg, -⟩))
  go_ret2
  have E : strOfNums [letA (c % 3)] = colText 1 c := by rfl
  exact ⟨by rw [← E]; rfl, by repeat (first | exact hg | apply Grown.alloc)⟩

theorem textLow1 (c : Int) (h0 : c < 0) (w : World) :
    Calls Try.prog 20 #[.int .i64 1, .int .i64 c] w fun e w' => e = .returned (.tuple #[.string ⟨#[]⟩, .int .i64 2]) ∧ w = w' := by
  have d1 : decide (c < 0) = true := by simp; omega
  go_enter Try.func20, Try.ntmps20
  go_wp2_with (first | (go_at_call 56; refine (validTapes _ _).mono ?_; rintro e w' ⟨rfl, rfl⟩) | (go_at_call 57; refine (count1 _).mono ?_; rintro e w' ⟨rfl, rfl⟩))
  go_ret2
  exact ⟨rfl, rfl⟩

theorem textHigh1 (c : Int) (h0 : 2 ≤ c) (w : World) :
    Calls Try.prog 20 #[.int .i64 1, .int .i64 c] w fun e w' => e = .returned (.tuple #[.string ⟨#[]⟩, .int .i64 2]) ∧ w = w' := by
  have d1 : decide (c < 0) = false := by simp; omega
  have d2 : decide (2 ≤ c) = true := by simp; omega
  go_enter Try.func20, Try.ntmps20
  go_wp2_with (first | (go_at_call 56; refine (validTapes _ _).mono ?_; rintro e w' ⟨rfl, rfl⟩) | (go_at_call 57; refine (count1 _).mono ?_; rintro e w' ⟨rfl, rfl⟩))
  go_ret2
  exact ⟨rfl, rfl⟩

set_option maxHeartbeats 400000 in
theorem text2 (c : Int) (h0 : 0 ≤ c) (h1 : c ≤ 7) (w : World) :
    Calls Try.prog 20 #[.int .i64 2, .int .i64 c] w fun e w' => e = .returned (.tuple #[.string (colText 2 c), .int .i64 0]) ∧ Grown w w' := by
  have d1 : decide (c < 0) = false := by simp; omega
  have d2 : decide (8 ≤ c) = false := by simp; omega
  have cv := fun W => conv 2 (by omega) W (letA (c % 3)) (letA (c / 3 % 3)) 35
  go_enter Try.func20, Try.ntmps20
  go_wp2_with (first | (go_at_call 56; refine (validTapes _ _).mono ?_; rintro e w' ⟨rfl, rfl⟩) | (go_at_call 57; refine (count2 _).mono ?_; rintro e w' ⟨rfl, rfl⟩) | (go_at_call 58; refine (letters2 c h0 (by omega) _).mono ?_; rintro e w' ⟨rfl, hg, -⟩))
  go_ret2
  have E : strOfNums [letA (c % 3), letA (c / 3 % 3)] = colText 2 c := by rfl
  exact ⟨by rw [← E]; rfl, by repeat (first | exact hg | apply Grown.alloc)⟩

theorem textLow2 (c : Int) (h0 : c < 0) (w : World) :
    Calls Try.prog 20 #[.int .i64 2, .int .i64 c] w fun e w' => e = .returned (.tuple #[.string ⟨#[]⟩, .int .i64 2]) ∧ w = w' := by
  have d1 : decide (c < 0) = true := by simp; omega
  go_enter Try.func20, Try.ntmps20
  go_wp2_with (first | (go_at_call 56; refine (validTapes _ _).mono ?_; rintro e w' ⟨rfl, rfl⟩) | (go_at_call 57; refine (count2 _).mono ?_; rintro e w' ⟨rfl, rfl⟩))
  go_ret2
  exact ⟨rfl, rfl⟩

theorem textHigh2 (c : Int) (h0 : 8 ≤ c) (w : World) :
    Calls Try.prog 20 #[.int .i64 2, .int .i64 c] w fun e w' => e = .returned (.tuple #[.string ⟨#[]⟩, .int .i64 2]) ∧ w = w' := by
  have d1 : decide (c < 0) = false := by simp; omega
  have d2 : decide (8 ≤ c) = true := by simp; omega
  go_enter Try.func20, Try.ntmps20
  go_wp2_with (first | (go_at_call 56; refine (validTapes _ _).mono ?_; rintro e w' ⟨rfl, rfl⟩) | (go_at_call 57; refine (count2 _).mono ?_; rintro e w' ⟨rfl, rfl⟩))
  go_ret2
  exact ⟨rfl, rfl⟩

set_option maxHeartbeats 400000 in
theorem text3 (c : Int) (h0 : 0 ≤ c) (h1 : c ≤ 25) (w : World) :
    Calls Try.prog 20 #[.int .i64 3, .int .i64 c] w fun e w' => e = .returned (.tuple #[.string (colText 3 c), .int .i64 0]) ∧ Grown w w' := by
  have d1 : decide (c < 0) = false := by simp; omega
  have d2 : decide (26 ≤ c) = false := by simp; omega
  have cv := fun W => conv 3 (by omega) W (letA (c % 3)) (letA (c / 3 % 3)) (letA (c / 3 / 3 % 3))
  go_enter Try.func20, Try.ntmps20
  go_wp2_with (first | (go_at_call 56; refine (validTapes _ _).mono ?_; rintro e w' ⟨rfl, rfl⟩) | (go_at_call 57; refine (count3 _).mono ?_; rintro e w' ⟨rfl, rfl⟩) | (go_at_call 58; refine (letters3 c h0 (by omega) _).mono ?_; rintro e w' ⟨rfl, hg, -⟩))
  go_ret2
  have E : strOfNums [letA (c % 3), letA (c / 3 % 3), letA (c / 3 / 3 % 3)] = colText 3 c := by rw [nine]; rfl
  exact ⟨by rw [← E]; rfl, by repeat (first | exact hg | apply Grown.alloc)⟩

theorem textLow3 (c : Int) (h0 : c < 0) (w : World) :
    Calls Try.prog 20 #[.int .i64 3, .int .i64 c] w fun e w' => e = .returned (.tuple #[.string ⟨#[]⟩, .int .i64 2]) ∧ w = w' := by
  have d1 : decide (c < 0) = true := by simp; omega
  go_enter Try.func20, Try.ntmps20
  go_wp2_with (first | (go_at_call 56; refine (validTapes _ _).mono ?_; rintro e w' ⟨rfl, rfl⟩) | (go_at_call 57; refine (count3 _).mono ?_; rintro e w' ⟨rfl, rfl⟩))
  go_ret2
  exact ⟨rfl, rfl⟩

theorem textHigh3 (c : Int) (h0 : 26 ≤ c) (w : World) :
    Calls Try.prog 20 #[.int .i64 3, .int .i64 c] w fun e w' => e = .returned (.tuple #[.string ⟨#[]⟩, .int .i64 2]) ∧ w = w' := by
  have d1 : decide (c < 0) = false := by simp; omega
  have d2 : decide (26 ≤ c) = true := by simp; omega
  go_enter Try.func20, Try.ntmps20
  go_wp2_with (first | (go_at_call 56; refine (validTapes _ _).mono ?_; rintro e w' ⟨rfl, rfl⟩) | (go_at_call 57; refine (count3 _).mono ?_; rintro e w' ⟨rfl, rfl⟩))
  go_ret2
  exact ⟨rfl, rfl⟩

theorem textNo (n c : Int) (h0 : ¬ (1 ≤ n ∧ n ≤ 3)) (w : World) :
    Calls Try.prog 20 #[.int .i64 n, .int .i64 c] w fun e w' => e = .returned (.tuple #[.string ⟨#[]⟩, .int .i64 2]) ∧ w = w' := by
  have d1 : decide (1 ≤ n ∧ n ≤ 3) = false := by simpa using h0
  go_enter Try.func20, Try.ntmps20
  go_wp2_with (first | (go_at_call 56; refine (validTapes _ _).mono ?_; rw [d1]; rintro e w' ⟨rfl, rfl⟩))
  go_ret2
  exact ⟨rfl, rfl⟩

theorem sub0 (w : World) : (Instr.slice 9 (.string ⟨#[97, 98, 35]⟩) (some (.int .i64 0)) (some (.int .i64 1)) none).run Try.prog w = .ok (.string ⟨#[97]⟩) w := by kernel_rfl
theorem sub1 (w : World) : (Instr.slice 9 (.string ⟨#[97, 98, 35]⟩) (some (.int .i64 1)) (some (.int .i64 2)) none).run Try.prog w = .ok (.string ⟨#[98]⟩) w := by kernel_rfl
theorem sub2 (w : World) : (Instr.slice 9 (.string ⟨#[97, 98, 35]⟩) (some (.int .i64 2)) (some (.int .i64 3)) none).run Try.prog w = .ok (.string ⟨#[35]⟩) w := by kernel_rfl
theorem sub (d : Int) (h0 : 0 ≤ d) (h3 : d < 3) (w : World) :
    (Instr.slice 9 (.string ⟨#[97, 98, 35]⟩) (some (.int .i64 d)) (some (.int .i64 (d + 1))) none).run Try.prog w = .ok (.string (strOfNums [letA d])) w := by
  have : d = 0 ∨ d = 1 ∨ d = 2 := by omega
  rcases this with rfl | rfl | rfl
  · exact sub0 w
  · exact sub1 w
  · exact sub2 w

theorem strs_add (xs ys : List Int) : strOfNums xs ++ strOfNums ys = strOfNums (xs ++ ys) := by
  apply ByteArray.ext
  simp [strOfNums, ByteArray.data_append]
theorem strs_nil : (⟨#[]⟩ : ByteArray) = strOfNums [] := rfl


set_option maxHeartbeats 800000 in
theorem spec1 (c : Int) (h0 : 0 ≤ c) (h1 : c ≤ 1) (w : World) :
    Calls Try.prog 19 #[.int .i64 1, .int .i64 c] w fun e w' => e = .returned (.tuple #[.string (colText 1 c), .int .i64 0]) ∧ w = w' := by
  have e1 : inB 1 1 3 = true := rfl
  have e2 : inB c 0 1 = true := by simp [inB]; omega
  have s0 := fun w => sub (c % 3) (by omega) (by omega) w
  go_enter Try.func19, Try.ntmps19
  go_wp2_with (first | (go_at_call 52; refine (inRange _ _ _ _).mono ?_; rintro e w' ⟨rfl, rfl⟩) | (go_at_call 54; refine (wide1 _).mono ?_; rintro e w' ⟨rfl, rfl⟩))
  refine wp_loop_rounds 2 ?_
  rw [rounds_succ]
  go_wp2_with (go_at_call 55; refine (digit0 c h0 (by omega) _).mono ?_; rintro e w' ⟨rfl, rfl⟩)
  rw [rounds_succ]
  go_wp2
  go_ret2
  have E : (⟨#[]⟩ : ByteArray) ++ strOfNums [letA (c % 3)] = colText 1 c := by
    rw [strs_nil, strs_add]; rfl
  exact ⟨by rw [← E]; rfl, rfl⟩

theorem specOut1 (c : Int) (h0 : ¬ (0 ≤ c ∧ c ≤ 1)) (w : World) :
    Calls Try.prog 19 #[.int .i64 1, .int .i64 c] w fun e w' => e = .returned (.tuple #[.string ⟨#[]⟩, .int .i64 2]) ∧ w = w' := by
  have e1 : inB 1 1 3 = true := rfl
  have e2 : inB c 0 1 = false := by simp [inB]; omega
  go_enter Try.func19, Try.ntmps19
  go_wp2_with (first | (go_at_call 52; refine (inRange _ _ _ _).mono ?_; rintro e w' ⟨rfl, rfl⟩) | (go_at_call 54; refine (wide1 _).mono ?_; rintro e w' ⟨rfl, rfl⟩))
  go_ret2
  exact ⟨rfl, rfl⟩

set_option maxHeartbeats 800000 in
theorem spec2 (c : Int) (h0 : 0 ≤ c) (h1 : c ≤ 7) (w : World) :
    Calls Try.prog 19 #[.int .i64 2, .int .i64 c] w fun e w' => e = .returned (.tuple #[.string (colText 2 c), .int .i64 0]) ∧ w = w' := by
  have e1 : inB 2 1 3 = true := rfl
  have e2 : inB c 0 7 = true := by simp [inB]; omega
  have s0 := fun w => sub (c % 3) (by omega) (by omega) w
  have s1 := fun w => sub (c / 3 % 3) (by omega) (by omega) w
  go_enter Try.func19, Try.ntmps19
  go_wp2_with (first | (go_at_call 52; refine (inRange _ _ _ _).mono ?_; rintro e w' ⟨rfl, rfl⟩) | (go_at_call 54; refine (wide2 _).mono ?_; rintro e w' ⟨rfl, rfl⟩))
  refine wp_loop_rounds 3 ?_
  rw [rounds_succ]
  go_wp2_with (go_at_call 55; refine (digit0 c h0 (by omega) _).mono ?_; rintro e w' ⟨rfl, rfl⟩)
  rw [rounds_succ]
  go_wp2_with (go_at_call 55; refine (digit1 c h0 (by omega) _).mono ?_; rintro e w' ⟨rfl, rfl⟩)
  rw [rounds_succ]
  go_wp2
  go_ret2
  have E : (⟨#[]⟩ : ByteArray) ++ strOfNums [letA (c % 3)] ++ strOfNums [letA (c / 3 % 3)] = colText 2 c := by
    rw [strs_nil, strs_add, strs_add]; rfl
  exact ⟨by rw [← E]; rfl, rfl⟩

theorem specOut2 (c : Int) (h0 : ¬ (0 ≤ c ∧ c ≤ 7)) (w : World) :
    Calls Try.prog 19 #[.int .i64 2, .int .i64 c] w fun e w' => e = .returned (.tuple #[.string ⟨#[]⟩, .int .i64 2]) ∧ w = w' := by
  have e1 : inB 2 1 3 = true := rfl
  have e2 : inB c 0 7 = false := by simp [inB]; omega
  go_enter Try.func19, Try.ntmps19
  go_wp2_with (first | (go_at_call 52; refine (inRange _ _ _ _).mono ?_; rintro e w' ⟨rfl, rfl⟩) | (go_at_call 54; refine (wide2 _).mono ?_; rintro e w' ⟨rfl, rfl⟩))
  go_ret2
  exact ⟨rfl, rfl⟩

set_option maxHeartbeats 800000 in
theorem spec3 (c : Int) (h0 : 0 ≤ c) (h1 : c ≤ 25) (w : World) :
    Calls Try.prog 19 #[.int .i64 3, .int .i64 c] w fun e w' => e = .returned (.tuple #[.string (colText 3 c), .int .i64 0]) ∧ w = w' := by
  have e1 : inB 3 1 3 = true := rfl
  have e2 : inB c 0 25 = true := by simp [inB]; omega
  have s0 := fun w => sub (c % 3) (by omega) (by omega) w
  have s1 := fun w => sub (c / 3 % 3) (by omega) (by omega) w
  have s2 := fun w => sub (c / 9 % 3) (by omega) (by omega) w
  go_enter Try.func19, Try.ntmps19
  go_wp2_with (first | (go_at_call 52; refine (inRange _ _ _ _).mono ?_; rintro e w' ⟨rfl, rfl⟩) | (go_at_call 54; refine (wide3 _).mono ?_; rintro e w' ⟨rfl, rfl⟩))
  refine wp_loop_rounds 4 ?_
  rw [rounds_succ]
  go_wp2_with (go_at_call 55; refine (digit0 c h0 (by omega) _).mono ?_; rintro e w' ⟨rfl, rfl⟩)
  rw [rounds_succ]
  go_wp2_with (go_at_call 55; refine (digit1 c h0 (by omega) _).mono ?_; rintro e w' ⟨rfl, rfl⟩)
  rw [rounds_succ]
  go_wp2_with (go_at_call 55; refine (digit2 c h0 (by omega) _).mono ?_; rintro e w' ⟨rfl, rfl⟩)
  rw [rounds_succ]
  go_wp2
  go_ret2
  have E : (⟨#[]⟩ : ByteArray) ++ strOfNums [letA (c % 3)] ++ strOfNums [letA (c / 3 % 3)] ++ strOfNums [letA (c / 9 % 3)] = colText 3 c := by
    rw [strs_nil, strs_add, strs_add, strs_add]; rfl
  exact ⟨by rw [← E]; rfl, rfl⟩

theorem specOut3 (c : Int) (h0 : ¬ (0 ≤ c ∧ c ≤ 25)) (w : World) :
    Calls Try.prog 19 #[.int .i64 3, .int .i64 c] w fun e w' => e = .returned (.tuple #[.string ⟨#[]⟩, .int .i64 2]) ∧ w = w' := by
  have e1 : inB 3 1 3 = true := rfl
  have e2 : inB c 0 25 = false := by simp [inB]; omega
  go_enter Try.func19, Try.ntmps19
  go_wp2_with (first | (go_at_call 52; refine (inRange _ _ _ _).mono ?_; rintro e w' ⟨rfl, rfl⟩) | (go_at_call 54; refine (wide3 _).mono ?_; rintro e w' ⟨rfl, rfl⟩))
  go_ret2
  exact ⟨rfl, rfl⟩

theorem specNo (n c : Int) (h0 : ¬ (1 ≤ n ∧ n ≤ 3)) (w : World) :
    Calls Try.prog 19 #[.int .i64 n, .int .i64 c] w fun e w' => e = .returned (.tuple #[.string ⟨#[]⟩, .int .i64 2]) ∧ w = w' := by
  have e1 : inB n 1 3 = false := by simp [inB]; omega
  go_enter Try.func19, Try.ntmps19
  go_wp2_with (first | (go_at_call 52; refine (inRange _ _ _ _).mono ?_; rintro e w' ⟨rfl, rfl⟩))
  go_ret2
  exact ⟨rfl, rfl⟩

theorem lawOf (n c : Int) (w : World) (S : ByteArray) (k : Int)
    (hs : ∀ w, Calls Try.prog 19 #[.int .i64 n, .int .i64 c] w fun e w' => e = .returned (.tuple #[.string S, .int .i64 k]) ∧ w = w')
    (hi : ∀ w, Calls Try.prog 20 #[.int .i64 n, .int .i64 c] w fun e w' => e = .returned (.tuple #[.string S, .int .i64 k]) ∧ Grown w w') :
    Calls Try.prog 5 #[.int .i64 n, .int .i64 c] w fun e w' => e = .returned (.bool true) ∧ Grown w w' := by
  have HS := Lib.hid hs
  have HI := Lib.hid hi
  clear hs hi
  go_enter Try.func5, Try.ntmps5
  go_wp2_with (first | (go_at_call 19; refine (HS.out _).mono ?_; rintro e w' ⟨rfl, rfl⟩) | (go_at_call 20; refine (HI.out _).mono ?_; rintro e w' ⟨rfl, hg⟩))
  go_ret
  exact ⟨rfl, by assumption⟩

theorem calm {f : Nat} {args : Array Value} {v : Value} (h : ∀ w, Calls Try.prog f args w fun e w' => e = .returned v ∧ w = w') (w : World) :
    Calls Try.prog f args w fun e w' => e = .returned v ∧ Grown w w' :=
  (h w).mono fun _ _ ⟨a, b⟩ => ⟨a, b ▸ Grown.refl _⟩

theorem law (n c : Int) (w : World) :
    Calls Try.prog 5 #[.int .i64 n, .int .i64 c] w fun e w' => e = .returned (.bool true) ∧ Grown w w' := by
  by_cases h : 1 ≤ n ∧ n ≤ 3
  · have : n = 1 ∨ n = 2 ∨ n = 3 := by omega
    rcases this with rfl | rfl | rfl
    · by_cases h0 : c < 0
      · exact lawOf 1 c w _ _ (specOut1 c (by omega)) (calm (textLow1 c h0))
      · by_cases h1 : 2 ≤ c
        · exact lawOf 1 c w _ _ (specOut1 c (by omega)) (calm (textHigh1 c h1))
        · exact lawOf 1 c w _ _ (spec1 c (by omega) (by omega)) (text1 c (by omega) (by omega))
    · by_cases h0 : c < 0
      · exact lawOf 2 c w _ _ (specOut2 c (by omega)) (calm (textLow2 c h0))
      · by_cases h1 : 8 ≤ c
        · exact lawOf 2 c w _ _ (specOut2 c (by omega)) (calm (textHigh2 c h1))
        · exact lawOf 2 c w _ _ (spec2 c (by omega) (by omega)) (text2 c (by omega) (by omega))
    · by_cases h0 : c < 0
      · exact lawOf 3 c w _ _ (specOut3 c (by omega)) (calm (textLow3 c h0))
      · by_cases h1 : 26 ≤ c
        · exact lawOf 3 c w _ _ (specOut3 c (by omega)) (calm (textHigh3 c h1))
        · exact lawOf 3 c w _ _ (spec3 c (by omega) (by omega)) (text3 c (by omega) (by omega))
  · exact lawOf n c w _ _ (specNo n c h) (calm (textNo n c h))

end Go.Proofs.Yticpmakpajnilaa.ColText
