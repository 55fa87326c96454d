
/- The letters of a column: what they are, and that the program finds them; columns with the same letters are the same.
   Conditions: one to three tapes. -/
import Derived.Test.YthebmpdkiocbmaaDoorColumns
import Derived.Test.YthebmpdkiocbmaaDoorColMath
namespace Go.Proofs.YthebmpdkiocbmaaDoor.Numbers
set_option linter.unusedVariables false
set_option linter.unusedSimpArgs false
open Go.RowKit Columns ColMath

/-- What a column has on a tape, as a letter. -/
def letT (n : Nat) (c : Int) (t : Nat) : Int := if t < n then letA (c / pow3 t % 3) else 35
def lettersV (n : Nat) (c : Int) : Value := .agg #[.int .u8 (letT n c 0), .int .u8 (letT n c 1), .int .u8 (letT n c 2)]

theorem lettersAny (n : Nat) (h1 : 1 ≤ n) (h3 : n ≤ 3) (c : Int) (h0 : 0 ≤ c) (hc : c ≤ 25) (w : World) :
    Calls Tryd.prog 106 #[.int .i64 n, .int .i64 c] w fun e w' => e = .returned (lettersV n c) ∧ Below w.heap.size w w' := by
  have e3 : c / 3 / 3 = c / 9 := by omega
  have : n = 1 ∨ n = 2 ∨ n = 3 := by omega
  rcases this with rfl | rfl | rfl
  · exact (letters1 c h0 hc w).mono fun e w' ⟨he, _, hg⟩ => ⟨by rw [he]; simp [lettersV, letT, pow3], hg⟩
  · exact (letters2 c h0 hc w).mono fun e w' ⟨he, _, hg⟩ => ⟨by rw [he]; simp [lettersV, letT, pow3], hg⟩
  · exact (letters3 c h0 hc w).mono fun e w' ⟨he, _, hg⟩ => ⟨by rw [he, e3]; simp [lettersV, letT, pow3], hg⟩

theorem letA_cases (d : Int) : letA d = 97 ∨ letA d = 98 ∨ letA d = 35 := by
  unfold letA; split
  · exact .inl rfl
  · split
    · exact .inr (.inl rfl)
    · exact .inr (.inr rfl)

theorem letT_cases (n : Nat) (c : Int) (t : Nat) : letT n c t = 97 ∨ letT n c t = 98 ∨ letT n c t = 35 := by
  unfold letT; split
  · exact letA_cases _
  · exact .inr (.inr rfl)

def widN (n : Nat) : Nat := if n = 1 then 2 else if n = 2 then 8 else 26

theorem letA_inj (d e : Int) (hd : 0 ≤ d ∧ d ≤ 2) (he : 0 ≤ e ∧ e ≤ 2) (h : letA d = letA e) : d = e := by
  have h1 : d = 0 ∨ d = 1 ∨ d = 2 := by omega
  have h2 : e = 0 ∨ e = 1 ∨ e = 2 := by omega
  rcases h1 with rfl | rfl | rfl <;> rcases h2 with rfl | rfl | rfl <;> first | rfl | (exact absurd h (by decide))

theorem lettersV_inj (n : Nat) (h1 : 1 ≤ n) (h3 : n ≤ 3) (c c' : Nat) (hc : c < widN n) (hc' : c' < widN n) (h : lettersV n c = lettersV n c') : c = c' := by
  unfold lettersV at h
  simp only [Value.agg.injEq] at h
  have h := congrArg Array.toList h
  simp only [List.cons.injEq, Value.int.injEq, true_and, and_true] at h
  obtain ⟨e0, e1, e2⟩ := h
  have : n = 1 ∨ n = 2 ∨ n = 3 := by omega
  rcases this with rfl | rfl | rfl
  · have a := letA_inj ((c : Int) % 3) ((c' : Int) % 3) (by omega) (by omega) (by simpa [letT, pow3] using e0)
    have : widN 1 = 2 := rfl
    omega
  · have a := letA_inj ((c : Int) % 3) ((c' : Int) % 3) (by omega) (by omega) (by simpa [letT, pow3] using e0)
    have b := letA_inj ((c : Int) / 3 % 3) ((c' : Int) / 3 % 3) (by omega) (by omega) (by simpa [letT, pow3] using e1)
    have : widN 2 = 8 := rfl
    omega
  · have a := letA_inj ((c : Int) % 3) ((c' : Int) % 3) (by omega) (by omega) (by simpa [letT, pow3] using e0)
    have b := letA_inj ((c : Int) / 3 % 3) ((c' : Int) / 3 % 3) (by omega) (by omega) (by simpa [letT, pow3] using e1)
    have d := letA_inj ((c : Int) / 9 % 3) ((c' : Int) / 9 % 3) (by omega) (by omega) (by simpa [letT, pow3] using e2)
    have : widN 3 = 26 := rfl
    omega

end Go.Proofs.YthebmpdkiocbmaaDoor.Numbers
