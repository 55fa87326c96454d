
/- What the program's function that makes the columns of a tuple hands back: a new row.
   Conditions: the tuple has one to three words, each of them one. -/
import Derived.Test.YticpmakpajnilaaLettersAt
import Derived.Test.YticpmakpajnilaaNumbers
import Derived.Test.YticpmakpajnilaaWords
import Derived.Deep.RegionWith
import Derived.Laws.StructEq
import Derived.Maps.AppendAt
namespace Go.Proofs.Yticpmakpajnilaa.ImplCols
open Go.RowKit Go.Maps Mem Copy Rel Strs Word WordMath Words ColMath Columns LettersAt Numbers

def ltr (ss : List ByteArray) (i t : Nat) : Int := if t < ss.length then letAt (ss.getD t ByteArray.empty) i else 35

theorem lettersAtAny (ss : List ByteArray) (va : Value) (i : Nat) (w : World) (B : Nat) (ha : StrsAt w B va ss) (hB : B ≤ w.heap.size) (h1 : 1 ≤ ss.length) (h3 : ss.length ≤ 3) (hi : i ≤ 100) :
    Calls Try.prog 91 #[va, .int .i64 i] w fun e w' => e = .returned (.agg #[.int .u8 (ltr ss i 0), .int .u8 (ltr ss i 1), .int .u8 (ltr ss i 2)]) ∧ Below w.heap.size w w' := by
  obtain ⟨⟨a, b, off, cap, rfl, hma, haa, hca⟩, hsz⟩ := ha
  obtain ⟨rfl, hb⟩ := haa (by omega)
  unfold maxLen at hsz
  have hb' : b < w.heap.size := by omega
  match ss, h1, h3, hca, hsz with
  | [x], _, _, hca, hsz => exact (at1 b off cap i x w hb' hi (hca 0 (by simp)) (hsz 0 (by simp))).mono fun e w' ⟨he, hw⟩ => ⟨by rw [he]; rfl, hw⟩
  | [x, y], _, _, hca, hsz => exact (at2 b off cap i x y w hb' hi (hca 0 (by simp)) (hca 1 (by simp)) (hsz 0 (by simp)) (hsz 1 (by simp))).mono fun e w' ⟨he, hw⟩ => ⟨by rw [he]; rfl, hw⟩
  | [x, y, z], _, _, hca, hsz => exact (at3 b off cap i x y z w hb' hi (hca 0 (by simp)) (hca 1 (by simp)) (hca 2 (by simp)) (hsz 0 (by simp)) (hsz 1 (by simp)) (hsz 2 (by simp))).mono fun e w' ⟨he, hw⟩ => ⟨by rw [he]; rfl, hw⟩

theorem letAt_dig {s : ByteArray} (h : wordB s = true) (i : Nat) : letAt s i = letA (dig s i) := by
  by_cases hi : i < s.size
  · rw [letAt_in hi, dig_in hi]
    rcases word_byte h hi with e | e <;> rw [e] <;> rfl
  · rw [letAt_out hi, dig_out hi]; rfl

theorem letA_pad {d : Int} (h : 0 ≤ d ∧ d ≤ 2) : letA d = 35 ↔ d = 2 := by
  have h1 : d = 0 ∨ d = 1 ∨ d = 2 := by omega
  rcases h1 with rfl | rfl | rfl <;> simp [letA]

/-- The letters of the column are those of its number. -/
theorem ltr_col {ss : List ByteArray} (hw : ss.all wordB = true) (h1 : 1 ≤ ss.length) (h3 : ss.length ≤ 3) (i : Nat) :
    (Value.agg #[.int .u8 (ltr ss i 0), .int .u8 (ltr ss i 1), .int .u8 (ltr ss i 2)]) = lettersV ss.length (colTo ss i ss.length) := by
  match ss, h1, h3, hw with
  | [x], _, _, hw =>
    have hx : wordB x = true := by simpa using hw
    obtain ⟨a0, a1⟩ := dig_bound hx i
    have d0 : dig x i % 3 = dig x i := by omega
    simp [lettersV, letT, ltr, colTo, pow3, letAt_dig hx, d0]
  | [x, y], _, _, hw =>
    simp only [List.all_cons, List.all_nil, Bool.and_eq_true] at hw
    obtain ⟨hx, hy, _⟩ := hw
    obtain ⟨a0, a1⟩ := dig_bound hx i
    obtain ⟨b0, b1⟩ := dig_bound hy i
    have d0 : (dig x i + dig y i * 3) % 3 = dig x i := by omega
    have d1 : (dig x i + dig y i * 3) / 3 % 3 = dig y i := by omega
    simp [lettersV, letT, ltr, colTo, pow3, letAt_dig hx, letAt_dig hy, d0, d1]
  | [x, y, z], _, _, hw =>
    simp only [List.all_cons, List.all_nil, Bool.and_eq_true] at hw
    obtain ⟨hx, hy, hz, _⟩ := hw
    obtain ⟨a0, a1⟩ := dig_bound hx i
    obtain ⟨b0, b1⟩ := dig_bound hy i
    obtain ⟨c0, c1⟩ := dig_bound hz i
    have d0 : (dig x i + dig y i * 3 + dig z i * 9) % 3 = dig x i := by omega
    have d1 : (dig x i + dig y i * 3 + dig z i * 9) / 3 % 3 = dig y i := by omega
    have d2 : (dig x i + dig y i * 3 + dig z i * 9) / 9 % 3 = dig z i := by omega
    simp [lettersV, letT, ltr, colTo, pow3, letAt_dig hx, letAt_dig hy, letAt_dig hz, d0, d1, d2]

theorem eq_97_97_97 (w : World) : (Op.equalIn 10000 70 (.agg #[.int .u8 97, .int .u8 97, .int .u8 97]) (.agg #[.int .u8 35, .int .u8 35, .int .u8 35])).run Try.prog w = .ok false w := by kernel_rfl
theorem eq_97_97_98 (w : World) : (Op.equalIn 10000 70 (.agg #[.int .u8 97, .int .u8 97, .int .u8 98]) (.agg #[.int .u8 35, .int .u8 35, .int .u8 35])).run Try.prog w = .ok false w := by kernel_rfl
theorem eq_97_97_35 (w : World) : (Op.equalIn 10000 70 (.agg #[.int .u8 97, .int .u8 97, .int .u8 35]) (.agg #[.int .u8 35, .int .u8 35, .int .u8 35])).run Try.prog w = .ok false w := by kernel_rfl
theorem eq_97_98_97 (w : World) : (Op.equalIn 10000 70 (.agg #[.int .u8 97, .int .u8 98, .int .u8 97]) (.agg #[.int .u8 35, .int .u8 35, .int .u8 35])).run Try.prog w = .ok false w := by kernel_rfl
theorem eq_97_98_98 (w : World) : (Op.equalIn 10000 70 (.agg #[.int .u8 97, .int .u8 98, .int .u8 98]) (.agg #[.int .u8 35, .int .u8 35, .int .u8 35])).run Try.prog w = .ok false w := by kernel_rfl
theorem eq_97_98_35 (w : World) : (Op.equalIn 10000 70 (.agg #[.int .u8 97, .int .u8 98, .int .u8 35]) (.agg #[.int .u8 35, .int .u8 35, .int .u8 35])).run Try.prog w = .ok false w := by kernel_rfl
theorem eq_97_35_97 (w : World) : (Op.equalIn 10000 70 (.agg #[.int .u8 97, .int .u8 35, .int .u8 97]) (.agg #[.int .u8 35, .int .u8 35, .int .u8 35])).run Try.prog w = .ok false w := by kernel_rfl
theorem eq_97_35_98 (w : World) : (Op.equalIn 10000 70 (.agg #[.int .u8 97, .int .u8 35, .int .u8 98]) (.agg #[.int .u8 35, .int .u8 35, .int .u8 35])).run Try.prog w = .ok false w := by kernel_rfl
theorem eq_97_35_35 (w : World) : (Op.equalIn 10000 70 (.agg #[.int .u8 97, .int .u8 35, .int .u8 35]) (.agg #[.int .u8 35, .int .u8 35, .int .u8 35])).run Try.prog w = .ok false w := by kernel_rfl
theorem eq_98_97_97 (w : World) : (Op.equalIn 10000 70 (.agg #[.int .u8 98, .int .u8 97, .int .u8 97]) (.agg #[.int .u8 35, .int .u8 35, .int .u8 35])).run Try.prog w = .ok false w := by kernel_rfl
theorem eq_98_97_98 (w : World) : (Op.equalIn 10000 70 (.agg #[.int .u8 98, .int .u8 97, .int .u8 98]) (.agg #[.int .u8 35, .int .u8 35, .int .u8 35])).run Try.prog w = .ok false w := by kernel_rfl
theorem eq_98_97_35 (w : World) : (Op.equalIn 10000 70 (.agg #[.int .u8 98, .int .u8 97, .int .u8 35]) (.agg #[.int .u8 35, .int .u8 35, .int .u8 35])).run Try.prog w = .ok false w := by kernel_rfl
theorem eq_98_98_97 (w : World) : (Op.equalIn 10000 70 (.agg #[.int .u8 98, .int .u8 98, .int .u8 97]) (.agg #[.int .u8 35, .int .u8 35, .int .u8 35])).run Try.prog w = .ok false w := by kernel_rfl
theorem eq_98_98_98 (w : World) : (Op.equalIn 10000 70 (.agg #[.int .u8 98, .int .u8 98, .int .u8 98]) (.agg #[.int .u8 35, .int .u8 35, .int .u8 35])).run Try.prog w = .ok false w := by kernel_rfl
theorem eq_98_98_35 (w : World) : (Op.equalIn 10000 70 (.agg #[.int .u8 98, .int .u8 98, .int .u8 35]) (.agg #[.int .u8 35, .int .u8 35, .int .u8 35])).run Try.prog w = .ok false w := by kernel_rfl
theorem eq_98_35_97 (w : World) : (Op.equalIn 10000 70 (.agg #[.int .u8 98, .int .u8 35, .int .u8 97]) (.agg #[.int .u8 35, .int .u8 35, .int .u8 35])).run Try.prog w = .ok false w := by kernel_rfl
theorem eq_98_35_98 (w : World) : (Op.equalIn 10000 70 (.agg #[.int .u8 98, .int .u8 35, .int .u8 98]) (.agg #[.int .u8 35, .int .u8 35, .int .u8 35])).run Try.prog w = .ok false w := by kernel_rfl
theorem eq_98_35_35 (w : World) : (Op.equalIn 10000 70 (.agg #[.int .u8 98, .int .u8 35, .int .u8 35]) (.agg #[.int .u8 35, .int .u8 35, .int .u8 35])).run Try.prog w = .ok false w := by kernel_rfl
theorem eq_35_97_97 (w : World) : (Op.equalIn 10000 70 (.agg #[.int .u8 35, .int .u8 97, .int .u8 97]) (.agg #[.int .u8 35, .int .u8 35, .int .u8 35])).run Try.prog w = .ok false w := by kernel_rfl
theorem eq_35_97_98 (w : World) : (Op.equalIn 10000 70 (.agg #[.int .u8 35, .int .u8 97, .int .u8 98]) (.agg #[.int .u8 35, .int .u8 35, .int .u8 35])).run Try.prog w = .ok false w := by kernel_rfl
theorem eq_35_97_35 (w : World) : (Op.equalIn 10000 70 (.agg #[.int .u8 35, .int .u8 97, .int .u8 35]) (.agg #[.int .u8 35, .int .u8 35, .int .u8 35])).run Try.prog w = .ok false w := by kernel_rfl
theorem eq_35_98_97 (w : World) : (Op.equalIn 10000 70 (.agg #[.int .u8 35, .int .u8 98, .int .u8 97]) (.agg #[.int .u8 35, .int .u8 35, .int .u8 35])).run Try.prog w = .ok false w := by kernel_rfl
theorem eq_35_98_98 (w : World) : (Op.equalIn 10000 70 (.agg #[.int .u8 35, .int .u8 98, .int .u8 98]) (.agg #[.int .u8 35, .int .u8 35, .int .u8 35])).run Try.prog w = .ok false w := by kernel_rfl
theorem eq_35_98_35 (w : World) : (Op.equalIn 10000 70 (.agg #[.int .u8 35, .int .u8 98, .int .u8 35]) (.agg #[.int .u8 35, .int .u8 35, .int .u8 35])).run Try.prog w = .ok false w := by kernel_rfl
theorem eq_35_35_97 (w : World) : (Op.equalIn 10000 70 (.agg #[.int .u8 35, .int .u8 35, .int .u8 97]) (.agg #[.int .u8 35, .int .u8 35, .int .u8 35])).run Try.prog w = .ok false w := by kernel_rfl
theorem eq_35_35_98 (w : World) : (Op.equalIn 10000 70 (.agg #[.int .u8 35, .int .u8 35, .int .u8 98]) (.agg #[.int .u8 35, .int .u8 35, .int .u8 35])).run Try.prog w = .ok false w := by kernel_rfl
theorem eq_35_35_35 (w : World) : (Op.equalIn 10000 70 (.agg #[.int .u8 35, .int .u8 35, .int .u8 35]) (.agg #[.int .u8 35, .int .u8 35, .int .u8 35])).run Try.prog w = .ok true w := by kernel_rfl

def padB (x y z : Int) : Bool := x == 35 && (y == 35 && z == 35)
theorem eqPads (x y z : Int) (hx : x = 97 ∨ x = 98 ∨ x = 35) (hy : y = 97 ∨ y = 98 ∨ y = 35) (hz : z = 97 ∨ z = 98 ∨ z = 35) (w : World) :
    (Op.equalIn 10000 70 (.agg #[.int .u8 x, .int .u8 y, .int .u8 z]) (.agg #[.int .u8 35, .int .u8 35, .int .u8 35])).run Try.prog w = .ok (padB x y z) w := by
  rcases hx with rfl | rfl | rfl
  · rcases hy with rfl | rfl | rfl
    · rcases hz with rfl | rfl | rfl
      · exact eq_97_97_97 w
      · exact eq_97_97_98 w
      · exact eq_97_97_35 w
    · rcases hz with rfl | rfl | rfl
      · exact eq_97_98_97 w
      · exact eq_97_98_98 w
      · exact eq_97_98_35 w
    · rcases hz with rfl | rfl | rfl
      · exact eq_97_35_97 w
      · exact eq_97_35_98 w
      · exact eq_97_35_35 w
  · rcases hy with rfl | rfl | rfl
    · rcases hz with rfl | rfl | rfl
      · exact eq_98_97_97 w
      · exact eq_98_97_98 w
      · exact eq_98_97_35 w
    · rcases hz with rfl | rfl | rfl
      · exact eq_98_98_97 w
      · exact eq_98_98_98 w
      · exact eq_98_98_35 w
    · rcases hz with rfl | rfl | rfl
      · exact eq_98_35_97 w
      · exact eq_98_35_98 w
      · exact eq_98_35_35 w
  · rcases hy with rfl | rfl | rfl
    · rcases hz with rfl | rfl | rfl
      · exact eq_35_97_97 w
      · exact eq_35_97_98 w
      · exact eq_35_97_35 w
    · rcases hz with rfl | rfl | rfl
      · exact eq_35_98_97 w
      · exact eq_35_98_98 w
      · exact eq_35_98_35 w
    · rcases hz with rfl | rfl | rfl
      · exact eq_35_35_97 w
      · exact eq_35_35_98 w
      · exact eq_35_35_35 w

theorem letAt_pad {s : ByteArray} (h : wordB s = true) (i : Nat) : (letAt s i == 35) = !decide (i < s.size) := by
  by_cases hi : i < s.size
  · rw [letAt_in hi, decide_eq_true hi]
    rcases word_byte h hi with e | e <;> rw [e] <;> rfl
  · rw [letAt_out hi, decide_eq_false hi]; rfl

theorem pad_width {ss : List ByteArray} (hw : ss.all wordB = true) (h1 : 1 ≤ ss.length) (h3 : ss.length ≤ 3) (i : Nat) :
    padB (ltr ss i 0) (ltr ss i 1) (ltr ss i 2) = !decide (i < width ss) := by
  rw [← some_width]
  match ss, h1, h3, hw with
  | [x], _, _, hw =>
    have hx : wordB x = true := by simpa using hw
    have a := letAt_pad hx i
    simp [padB, ltr] at a ⊢
    rw [a]
  | [x, y], _, _, hw =>
    simp only [List.all_cons, List.all_nil, Bool.and_eq_true] at hw
    obtain ⟨hx, hy, _⟩ := hw
    have a := letAt_pad hx i
    have b := letAt_pad hy i
    simp [padB, ltr] at a b ⊢
    rw [a, b]
  | [x, y, z], _, _, hw =>
    simp only [List.all_cons, List.all_nil, Bool.and_eq_true] at hw
    obtain ⟨hx, hy, hz, _⟩ := hw
    have a := letAt_pad hx i
    have b := letAt_pad hy i
    have c := letAt_pad hz i
    simp [padB, ltr] at a b c ⊢
    rw [a, b, c]

theorem ltr_cases {ss : List ByteArray} (hw : ss.all wordB = true) (i t : Nat) : ltr ss i t = 97 ∨ ltr ss i t = 98 ∨ ltr ss i t = 35 := by
  unfold ltr
  split
  · rename_i h
    rw [letAt_dig (word_getD hw h)]
    exact letA_cases _
  · exact .inr (.inr rfl)

theorem ownsRow_below {w w' : World} {base e size n : Nat} {v : Value} {xs : List Value} (h : w.ownsRow base e size v n xs) (hb : Below w.heap.size w w') : w'.ownsRow base e size v n xs := by
  refine ⟨h.1, ?_⟩
  rcases h.2 with h' | ⟨g, cap, cur, hv, hbg, hh, r⟩
  · exact .inl h'
  · refine .inr ⟨g, cap, cur, hv, hbg, ?_, r⟩
    have hlt : g < w.heap.size := by
      have := (Array.getElem?_eq_some_iff.1 hh).1
      exact this
    rw [hb.block g hlt]; exact hh

theorem ownsRow_mono {w : World} {base base' e size n : Nat} {v : Value} {xs : List Value} (h : w.ownsRow base e size v n xs) (hb : base' ≤ base) : w.ownsRow base' e size v n xs := by
  refine ⟨h.1, ?_⟩
  rcases h.2 with h' | ⟨g, cap, cur, hv, hbg, r⟩
  · exact .inl h'
  · exact .inr ⟨g, cap, cur, hv, Nat.le_trans hb hbg, r⟩

/-- A column that has a letter is one of the numbers. -/
theorem col_lt {ss : List ByteArray} (hw : ss.all wordB = true) (h1 : 1 ≤ ss.length) (h3 : ss.length ≤ 3) (i : Nat) (hi : i < width ss) :
    ∃ c : Nat, colTo ss i ss.length = c ∧ c < widN ss.length := by
  obtain ⟨b0, b1⟩ := colTo_bound hw i ss.length (Nat.le_refl _) h3
  obtain ⟨c, hc⟩ : ∃ c : Nat, colTo ss i ss.length = c := ⟨(colTo ss i ss.length).toNat, by omega⟩
  refine ⟨c, hc, ?_⟩
  have hp := pad_width hw h1 h3 i
  rw [decide_eq_true hi] at hp
  have hne : colTo ss i ss.length ≠ pow3 ss.length - 1 := by
    intro e
    match ss, h1, h3, hw with
    | [x], _, _, hw =>
      have hx : wordB x = true := by simpa using hw
      obtain ⟨a0, a1⟩ := dig_bound hx i
      have a := letAt_pad hx i
      simp [colTo, pow3] at e
      have : dig x i = 2 := by omega
      have l : letAt x i = 35 := by rw [letAt_dig hx, this]; rfl
      simp [padB, ltr, l] at hp
    | [x, y], _, _, hw =>
      simp only [List.all_cons, List.all_nil, Bool.and_eq_true] at hw
      obtain ⟨hx, hy, _⟩ := hw
      obtain ⟨a0, a1⟩ := dig_bound hx i
      obtain ⟨b0, b1⟩ := dig_bound hy i
      simp [colTo, pow3] at e
      have e1 : dig x i = 2 := by omega
      have e2 : dig y i = 2 := by omega
      have l1 : letAt x i = 35 := by rw [letAt_dig hx, e1]; rfl
      have l2 : letAt y i = 35 := by rw [letAt_dig hy, e2]; rfl
      simp [padB, ltr, l1, l2] at hp
    | [x, y, z], _, _, hw =>
      simp only [List.all_cons, List.all_nil, Bool.and_eq_true] at hw
      obtain ⟨hx, hy, hz, _⟩ := hw
      obtain ⟨a0, a1⟩ := dig_bound hx i
      obtain ⟨b0, b1⟩ := dig_bound hy i
      obtain ⟨c0, c1⟩ := dig_bound hz i
      simp [colTo, pow3] at e
      have e1 : dig x i = 2 := by omega
      have e2 : dig y i = 2 := by omega
      have e3 : dig z i = 2 := by omega
      have l1 : letAt x i = 35 := by rw [letAt_dig hx, e1]; rfl
      have l2 : letAt y i = 35 := by rw [letAt_dig hy, e2]; rfl
      have l3 : letAt z i = 35 := by rw [letAt_dig hz, e3]; rfl
      simp [padB, ltr, l1, l2, l3] at hp
  have : ss.length = 1 ∨ ss.length = 2 ∨ ss.length = 3 := by omega
  rcases this with e | e | e <;> rw [e] at hne b1 hc ⊢ <;> simp [pow3, widN] at hne b1 ⊢ <;> omega

set_option maxRecDepth 8000
set_option maxHeartbeats 2000000 in
theorem implCols (ss : List ByteArray) (va : Value) (w : World) (B : Nat) (ha : StrsAt w B va ss) (hB : B ≤ w.heap.size) (hw : ss.all wordB = true) (h1 : 1 ≤ ss.length) (h3 : ss.length ≤ 3) :
    Calls Try.prog 74 #[va] w fun e w' => ∃ v, e = .returned v ∧ w'.ownsRow w.heap.size 2 1 v (cols ss).length ((cols ss).map (Value.int .i64)) ∧ Below w.heap.size w w' := by
  obtain ⟨K, hK⟩ := keys_are
  have HSW := Lib.hid (fun W (h : Below w.heap.size w W) => ha.below h hB)
  have HBB := Lib.hid hB
  have HK := Lib.hid hK
  have HW := Lib.hid hw
  obtain ⟨⟨a, b, off, cap, rfl, -, -, -⟩, -⟩ := ha
  obtain ⟨n, hn⟩ : ∃ n, n = ss.length := ⟨_, rfl⟩
  rw [← hn] at h1 h3 HSW
  rw [← hn]
  have HN := Lib.hid hn
  have HNU := Lib.hid (numbers K hK n h1 h3 w)
  have HWL := Lib.hid (width_le ss hw)
  clear hn hw hK hB
  obtain ⟨i0, hi, hz0, hz1, hz2⟩ := info_parts info2
  go_enter Try.func74, Try.ntmps74
  go_wp2_with fail
  refine (HNU.out).mono ?_
  rintro e w1 ⟨rfl, hown, hb, hlt⟩
  have HM := Lib.hid hown
  have HB1 := Lib.hid hb
  have HL1 := Lib.hid hlt
  clear hown hb hlt
  go_wp2_with fail
  go_loopw [4, 5, 6] (fun v i _ wr => ∃ m : Nat, m ≤ width ss ∧ i = .int .i64 m ∧ wr.ownsRow (w.heap.size + 1) 2 1 v m ((colsTo ss m).map (Value.int .i64)) ∧ Below w.heap.size w wr ∧ w.heap.size < wr.heap.size ∧ wr.heap[w.heap.size]? = w1.heap[w.heap.size]?) (fun _ i _ _ => 41 - (intOf i).toNat)
  case atStart => exact ⟨0, Nat.zero_le _, rfl, World.ownsRow_nil _ _ _ _, HB1.out, HL1.out, rfl⟩
  case round =>
    obtain ⟨m, hm, rfl, hown, hbel, hsz, hblk⟩ := hrel
    have HO := Lib.hid hown
    have HB := Lib.hid hbel
    have HS := Lib.hid hsz
    have HBK := Lib.hid hblk
    have HMW := Lib.hid hm
    have hm40 : m ≤ 40 := Nat.le_trans hm HWL.out
    clear hown hbel hsz hblk hm
    go_wp2_with fail
    refine (lettersAtAny ss _ m wr B (HSW.out _ HB.out) (by have := HBB.out; have := HB.out.size; omega) (by rw [← HN.out]; exact h1) (by rw [← HN.out]; exact h3) (by omega)).mono ?_
    rintro e w2 ⟨rfl, hb2⟩
    have HB2 := Lib.hid (base_step HB.out hb2)
    have HX2 := Lib.hid hb2
    clear hb2
    obtain ⟨x, hx⟩ : ∃ x, x = ltr ss m 0 := ⟨_, rfl⟩
    obtain ⟨y, hy⟩ : ∃ y, y = ltr ss m 1 := ⟨_, rfl⟩
    obtain ⟨z, hz⟩ : ∃ z, z = ltr ss m 2 := ⟨_, rfl⟩
    rw [← hx, ← hy, ← hz]
    have HXX := Lib.hid hx
    have HYY := Lib.hid hy
    have HZZ := Lib.hid hz
    have HP0 := eqPads x y z (hx ▸ ltr_cases HW.out m 0) (hy ▸ ltr_cases HW.out m 1) (hz ▸ ltr_cases HW.out m 2)
    have hpw := pad_width HW.out (by rw [← HN.out]; exact h1) (by rw [← HN.out]; exact h3) m
    rw [← hx, ← hy, ← hz] at hpw
    clear hx hy hz
    have HB3 := Lib.hid (show Below w.heap.size w ((w2.alloc (.cells #[.int .u8 x, .int .u8 y, .int .u8 z] 70)).alloc (.cells #[.int .u8 35, .int .u8 35, .int .u8 35] 70)).drew from (base_box (base_box HB2.out _) _).drew)
    have HO3 := Lib.hid (show World.ownsRow ((w2.alloc (.cells #[.int .u8 x, .int .u8 y, .int .u8 z] 70)).alloc (.cells #[.int .u8 35, .int .u8 35, .int .u8 35] 70)).drew (w.heap.size + 1) 2 1 _ m ((colsTo ss m).map (Value.int .i64)) from (((ownsRow_below HO.out HX2.out).alloc _).alloc _).drew)
    have HS2 := Lib.hid (Nat.lt_of_lt_of_le HS.out HX2.out.size)
    have HK3 := Lib.hid (show (((w2.alloc (.cells #[.int .u8 x, .int .u8 y, .int .u8 z] 70)).alloc (.cells #[.int .u8 35, .int .u8 35, .int .u8 35] 70)).drew).heap[w.heap.size]? = w1.heap[w.heap.size]? by
      have e1 : w2.heap[w.heap.size]? = w1.heap[w.heap.size]? := (HX2.out.block _ HS.out).trans HBK.out
      have e2 := Below.heap_alloc w2 (.cells #[.int .u8 x, .int .u8 y, .int .u8 z] 70) w.heap.size HS2.out
      have e3 := Below.heap_alloc (w2.alloc (.cells #[.int .u8 x, .int .u8 y, .int .u8 z] 70)) (.cells #[.int .u8 35, .int .u8 35, .int .u8 35] 70) w.heap.size (by have := HS2.out; simp; omega)
      exact e3.trans (e2.trans e1))
    have HM3 := Lib.hid (ownsMap_of HM.out HK3.out)
    have HS3 := Lib.hid (show w.heap.size < (((w2.alloc (.cells #[.int .u8 x, .int .u8 y, .int .u8 z] 70)).alloc (.cells #[.int .u8 35, .int .u8 35, .int .u8 35] 70)).drew).heap.size by have := HS2.out; simp; omega)
    by_cases hmw : m < width ss
    · have HP : ∀ w : World, (Op.equalIn 10000 70 (.agg #[.int .u8 x, .int .u8 y, .int .u8 z]) (.agg #[.int .u8 35, .int .u8 35, .int .u8 35])).run Try.prog w = .ok false w := fun w => by
        rw [HP0 w, hpw, decide_eq_true hmw]; rfl
      clear HP0 hpw
      go_wp2_with fail
      go_region_with (go_at_call 87; refine (pads _).mono ?_; rintro e w' ⟨rfl, rfl⟩)
      all_goals
        obtain ⟨c, hc, hcw⟩ := col_lt HW.out (by rw [← HN.out]; exact h1) (by rw [← HN.out]; exact h3) m hmw
        have HKEY := Lib.hid (HK.out x y z (HXX.out ▸ ltr_cases HW.out m 0) (HYY.out ▸ ltr_cases HW.out m 1) (HZZ.out ▸ ltr_cases HW.out m 2))
        have HAT := Lib.hid (show (D K n (widN n)).atKey (K (.agg #[.int .u8 x, .int .u8 y, .int .u8 z])) (.lit (.int .i64 0)) = .lit (.int .i64 c) by
          have e : (Value.agg #[.int .u8 x, .int .u8 y, .int .u8 z]) = lettersV n c := by
            rw [HXX.out, HYY.out, HZZ.out, HN.out, ← hc]
            exact ltr_col HW.out (by rw [← HN.out]; exact h1) (by rw [← HN.out]; exact h3) m
          rw [e]
          exact D_at HK.out n h1 h3 c (widN n) (by rw [HN.out]; exact hcw) (Nat.le_refl _))
        have HSU := Lib.hid (show colsTo ss (m + 1) = colsTo ss m ++ [(c : Int)] by rw [colsTo_succ, hc])
        have HMW' := Lib.hid hmw
        have HC1 := Lib.hid (fun (q : Int) => (show ∀ j u, [Value.int .i64 q][j]? = some u → (World.alloc (((w2.alloc (.cells #[.int .u8 x, .int .u8 y, .int .u8 z] 70)).alloc (.cells #[.int .u8 35, .int .u8 35, .int .u8 35] 70)).drew) (.cells #[.int .i64 q] 2)).cell? ((⟨w2.heap.size + 1 + 1, 0, none⟩ : Addr).add j) = some u from fun j u h => by
          have := cell_one_new (((w2.alloc (.cells #[.int .u8 x, .int .u8 y, .int .u8 z] 70)).alloc (.cells #[.int .u8 35, .int .u8 35, .int .u8 35] 70)).drew) (.int .i64 q) 2 j u h
          have e : (((w2.alloc (.cells #[.int .u8 x, .int .u8 y, .int .u8 z] 70)).alloc (.cells #[.int .u8 35, .int .u8 35, .int .u8 35] 70)).drew).heap.size = w2.heap.size + 1 + 1 := by simp
          rw [e] at this; exact this))
        have HC5 := Lib.hid (fun (o : Obj) => (show w.heap.size + 1 ≤ (World.alloc (((w2.alloc (.cells #[.int .u8 x, .int .u8 y, .int .u8 z] 70)).alloc (.cells #[.int .u8 35, .int .u8 35, .int .u8 35] 70)).drew) o).heap.size by have := HS2.out; simp; omega))
        have HC3 := Lib.hid (show m + 1 ≤ maxLen by unfold maxLen; omega)
        have HC4 := Lib.hid (show (m + 1) * 8 ≤ 140737488355328 by omega)
        clear hc hcw hmw
        go_wp2_with (first
          | (at_lookup; refine wpList_lookup_own_int _ rfl _ _ 94 rfl 70 2 .i64 law Try.underlying94 Try.underlying2 (zero2 _) w.heap.size _ _ rfl HM3.out _ _ rfl HKEY.out ?_; intro c' hat hwc; have HC' := Lib.hid (show c' = (c : Int) by have := hat.symm.trans HAT.out; simpa using this); clear hat hwc)
          | (at_builtin; refine wpList_append_own _ rfl _ _ 41 rfl (w.heap.size + 1) 2 i0 (.int .i64 0) 1 8 Try.underlying41 hi hz0 hz1 hz2 rfl (by decide) _ _ _ rfl (HO3.out.alloc _) ⟨w2.heap.size + 1 + 1, 0, none⟩ 1 1 [.int .i64 c'] rfl rfl (HC1.out c') (ints_oneCell .i64 [c']) HC3.out HC4.out (HC5.out _) ?_; intro v' w4 hown4 hgrow4 _; have HO4 := Lib.hid hown4; have HG4 := Lib.hid hgrow4; clear hown4 hgrow4))
        go_roundw
        case rel =>
          have hrow : ∀ k, Value.ownBlock _ = some k → w.heap.size + 1 ≤ k := fun k hk => (HO3.out.lt k hk).1
          have hg : World.grownBy (World.alloc (((w2.alloc (.cells #[.int .u8 x, .int .u8 y, .int .u8 z] 70)).alloc (.cells #[.int .u8 35, .int .u8 35, .int .u8 35] 70)).drew) (.cells #[.int .i64 c'] 2)) w4 _ := HG4.out
          have hlt : w.heap.size < (World.alloc (((w2.alloc (.cells #[.int .u8 x, .int .u8 y, .int .u8 z] 70)).alloc (.cells #[.int .u8 35, .int .u8 35, .int .u8 35] 70)).drew) (.cells #[.int .i64 c'] 2)).heap.size := HC5.out _
          refine ⟨m + 1, HMW'.out, by go_num, ?_, ?_, Nat.lt_of_lt_of_le hlt hg.size, ?_⟩
          · have := HO4.out
            rw [HC'.out] at this
            rw [HSU.out, List.map_append]
            exact this
          · exact (HB3.out.alloc (Nat.le_of_lt HS3.out) _).grown hg (Nat.le_of_lt hlt) (fun k hk => by have := hrow k hk; omega)
          · rw [hg.block _ hlt (fun e => by have := hrow _ e.symm; omega)]
            exact (Below.heap_alloc _ _ _ HS3.out).trans HK3.out
        case measure => simp [intOf]; omega
    · have HP : ∀ w : World, (Op.equalIn 10000 70 (.agg #[.int .u8 x, .int .u8 y, .int .u8 z]) (.agg #[.int .u8 35, .int .u8 35, .int .u8 35])).run Try.prog w = .ok true w := fun w => by
        rw [HP0 w, hpw, decide_eq_false hmw]; rfl
      have HE := Lib.hid (show m = width ss by have := HMW.out; omega)
      clear HP0 hpw hmw
      go_wp2_with fail
      go_region_with (go_at_call 87; refine (pads _).mono ?_; rintro e w' ⟨rfl, rfl⟩)
      all_goals
        go_wp2_with fail
        go_ret
        refine ⟨_, rfl, ?_, ?_⟩
        · rw [cols_length, cols_eq, ← HE.out]
          exact ownsRow_mono HO3.out (Nat.le_succ _)
        · exact HB3.out
end Go.Proofs.Yticpmakpajnilaa.ImplCols
