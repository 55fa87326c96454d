
/- What ValidDeed answers, the program's and the model's, and the law on them.
   Conditions: none. -/
import Derived.Test.YticpmakpajnilaaNumWord
import Derived.Lib.SmallJoins
import Derived.Below
namespace Go.Proofs.Yticpmakpajnilaa.Deed
set_option linter.unusedVariables false
set_option linter.unusedSimpArgs false
set_option maxRecDepth 100000
open Go.RowKit Go.Joins Go.ChangeShapes Go.WideShapes NumWord

abbrev dv (k a : Int) : Value := .agg #[.int .i64 k, .int .i64 a]
def okD (k a : Int) : Bool := inB k 1 6 && inB a 0 999

theorem toDeed (k a : Int) (w : World) : Calls Try.prog 50 #[dv k a] w fun e w' => e = .returned (dv k a) ∧ Below w.heap.size w w' := by
  go_enter Try.func50, Try.ntmps50
  go_wp2
  refine bodyPost_ret (v := dv k a) (by simp [results, Try.results50, go_sem]) rfl ⟨rfl, ?_⟩
  repeat (first | exact Below.refl _ _ | (refine Below.setCell ?_ (by first | (simp; done) | (simp; omega)) _) | (refine Below.alloc ?_ (by first | (simp; done) | (simp; omega)) _))

theorem l08Deed (k a : Int) (w : World) : Calls Try.prog 84 #[dv k a] w fun e w' => e = .returned (.bool (okD k a)) ∧ Below w.heap.size w w' := by
  by_cases h : inB k 1 6 = true
  · have E : okD k a = inB a 0 999 := by simp [okD, h]
    rw [E]
    go_enter Try.func84, Try.ntmps84
    go_wp2_with fail
    refine (inAny _ _ _ _).mono ?_
    rw [h]
    rintro e w' ⟨rfl, rfl⟩
    go_wp2_with fail
    refine (inAny _ _ _ _).mono ?_
    rintro e w' ⟨rfl, rfl⟩
    go_wp2
    go_ret
    exact ⟨rfl, (Below.refl _ _).alloc (Nat.le_refl _) _⟩
  · have h : inB k 1 6 = false := by simpa using h
    have E : okD k a = false := by simp [okD, h]
    rw [E]
    go_enter Try.func84, Try.ntmps84
    go_wp2_with fail
    refine (inAny _ _ _ _).mono ?_
    rw [h]
    rintro e w' ⟨rfl, rfl⟩
    go_wp2
    go_ret
    exact ⟨rfl, (Below.refl _ _).alloc (Nat.le_refl _) _⟩
theorem specValid (k a : Int) (w : World) : Calls Try.prog 49 #[dv k a] w fun e w' => e = .returned (.bool (okD k a)) ∧ Below w.heap.size w w' := by
  obtain ⟨q, hq⟩ : ∃ q, q = okD k a := ⟨_, rfl⟩
  have H := Lib.hid (fun W => l08Deed k a W)
  rw [← hq] at H
  rw [← hq]
  clear hq
  go_enter Try.func49, Try.ntmps49
  go_wp2_with fail
  refine (H.out _).mono ?_
  rintro e w' ⟨rfl, hb⟩
  go_wp2
  go_ret
  exact ⟨rfl, ((Below.refl _ _).alloc (Nat.le_refl _) _).trans (hb.mono (by simp))⟩

def wrd (k : Int) : ByteArray := if k = 1 then ⟨#[97, 115, 107]⟩ else if k = 2 then ⟨#[100, 101, 108, 105, 118, 101, 114]⟩ else if k = 3 then ⟨#[99, 111, 112, 121]⟩ else if k = 4 then ⟨#[100, 114, 111, 112]⟩ else if k = 5 then ⟨#[115, 97, 118, 101]⟩ else if k = 6 then ⟨#[99, 114, 97, 115, 104]⟩ else ⟨#[]⟩
theorem wrdK (k : Int) (h : k = 0 ∨ k = 1 ∨ k = 2 ∨ k = 3 ∨ k = 4 ∨ k = 5 ∨ k = 6) (w : World) : Calls Try.prog 85 #[.int .i64 k] w fun e w' => e = .returned (.string (wrd k)) ∧ Below w.heap.size w w' := by
  have E : inB k 0 6 = true := by simp [inB]; omega
  rcases h with rfl | rfl | rfl | rfl | rfl | rfl | rfl
  all_goals
    simp only [wrd]
    go_enter Try.func85, Try.ntmps85
    go_wp2_with fail
    refine (withinAny _ _ _ _).mono ?_
    rw [E]
    rintro e w' ⟨rfl, rfl⟩
    go_wp2
    go_ret
    exact ⟨rfl, by repeat (first | exact Below.refl _ _ | (refine Below.setCell ?_ (by first | (simp; done) | (simp; omega)) _) | (refine Below.alloc ?_ (by first | (simp; done) | (simp; omega)) _))⟩
theorem wrdNo (k : Int) (h : ¬ (0 ≤ k ∧ k ≤ 6)) (w : World) : Calls Try.prog 85 #[.int .i64 k] w fun e w' => e = .returned (.string ⟨#[]⟩) ∧ Below w.heap.size w w' := by
  have E : inB k 0 6 = false := by simp [inB]; omega
  clear h
  go_enter Try.func85, Try.ntmps85
  go_wp2_with fail
  refine (withinAny _ _ _ _).mono ?_
  rw [E]
  rintro e w' ⟨rfl, rfl⟩
  go_wp2
  go_ret
  exact ⟨rfl, by repeat (first | exact Below.refl _ _ | (refine Below.setCell ?_ (by first | (simp; done) | (simp; omega)) _) | (refine Below.alloc ?_ (by first | (simp; done) | (simp; omega)) _))⟩
theorem word (k : Int) (w : World) : Calls Try.prog 85 #[.int .i64 k] w fun e w' => e = .returned (.string (wrd k)) ∧ Below w.heap.size w w' := by
  by_cases h : 0 ≤ k ∧ k ≤ 6
  · exact wrdK k (by omega) w
  · have E : wrd k = ⟨#[]⟩ := by unfold wrd; repeat (rw [if_neg (by omega)])
    rw [E]
    exact wrdNo k h w
theorem wrd_some {k : Int} (h : inB k 1 6 = true) : (wrd k).toList.isEmpty = false := by
  have : k = 1 ∨ k = 2 ∨ k = 3 ∨ k = 4 ∨ k = 5 ∨ k = 6 := by simp [inB] at h; omega
  clear h; rcases this with rfl | rfl | rfl | rfl | rfl | rfl <;> decide +kernel
theorem wrd_none {k : Int} (h : inB k 1 6 = false) : wrd k = ⟨#[]⟩ := by
  have h : ¬ (1 ≤ k ∧ k ≤ 6) := by simpa [inB] using h
  unfold wrd; repeat (rw [if_neg (by omega)])

theorem implValid (k a : Int) (w : World) : Calls Try.prog 51 #[dv k a] w fun e w' => e = .returned (.bool (okD k a)) ∧ Below w.heap.size w w' := by
  by_cases h : inB k 1 6 = true
  · have E : okD k a = inB a 0 999 := by simp [okD, h]
    rw [E]
    have h1 := wrd_some h
    have h2 : ¬ (wrd k).toList = [] := fun e => by rw [e] at h1; cases h1
    obtain ⟨s, hs⟩ : ∃ s, s = wrd k := ⟨_, rfl⟩
    have H := Lib.hid (fun W => word k W)
    rw [← hs] at H h1 h2
    clear hs h E
    go_enter Try.func51, Try.ntmps51
    go_wp2_with fail
    refine (H.out _).mono ?_
    rintro e w1 ⟨rfl, hb⟩
    have hz : w.heap.size < w1.heap.size := by have := hb.size; simp at this; omega
    obtain ⟨hc, hf⟩ := bcell hb
    go_wp2_with fail
    refine (withinAny _ _ _ _).mono ?_
    rintro e w' ⟨rfl, rfl⟩
    go_wp2
    go_ret
    exact ⟨rfl, ((Below.refl _ _).alloc (Nat.le_refl _) _).trans (hb.mono (by simp))⟩
  · have h : inB k 1 6 = false := by simpa using h
    have E : okD k a = false := by simp [okD, h]
    rw [E]
    have H := Lib.hid (fun W => word k W)
    rw [wrd_none h] at H
    clear h E
    go_enter Try.func51, Try.ntmps51
    go_wp2_with fail
    refine (H.out _).mono ?_
    rintro e w1 ⟨rfl, hb⟩
    go_wp2
    go_ret
    exact ⟨rfl, ((Below.refl _ _).alloc (Nat.le_refl _) _).trans (hb.mono (by simp))⟩
where bcell {W w1 : World} (hb : Below W.heap.size W w1) : (∀ b o, b < W.heap.size → w1.cell? ⟨b, o, none⟩ = W.cell? ⟨b, o, none⟩) ∧ (∀ b o, b < W.heap.size → w1.frozen? ⟨b, o, none⟩ = W.frozen? ⟨b, o, none⟩) :=
  ⟨fun b o h => hb.cell (p := ⟨b, o, none⟩) h, fun b o h => hb.frozen (p := ⟨b, o, none⟩) h⟩

theorem law (w : World) (k a : Int) : Calls Try.prog 14 #[dv k a] w fun e w' => e = .returned (.bool true) ∧ Below w.heap.size w w' := by
  obtain ⟨q, hq⟩ : ∃ q, q = okD k a := ⟨_, rfl⟩
  have HS := Lib.hid (fun W => specValid k a W)
  have HI := Lib.hid (fun W => implValid k a W)
  have HT := Lib.hid (fun W => toDeed k a W)
  rw [← hq] at HS HI
  clear hq
  have hqq : (q == q) = true := by simp
  go_enter Try.func14, Try.ntmps14
  go_wp2_with fail
  refine (HT.out _).mono ?_
  rintro e w1 ⟨rfl, hb1⟩
  have B1 := Lib.hid (((Below.refl _ _).alloc (Nat.le_refl _) _).trans (hb1.mono (by simp)))
  have hz : w.heap.size < w1.heap.size := by have := hb1.size; simp at this; omega
  obtain ⟨hc, hf⟩ := implValid.bcell hb1
  go_wp2_with fail
  refine (HS.out _).mono ?_
  rintro e w2 ⟨rfl, hb2⟩
  obtain ⟨hc2, hf2⟩ := implValid.bcell hb2
  have hz2 : w.heap.size < w2.heap.size := by have := hb2.size; omega
  go_wp2_with fail
  refine (HT.out _).mono ?_
  rintro e w3 ⟨rfl, hb3⟩
  go_wp2_with fail
  refine (HI.out _).mono ?_
  rintro e w4 ⟨rfl, hb4⟩
  go_wp2
  go_ret
  exact ⟨rfl, B1.out.trans ((hb2.mono (by omega)).trans ((hb3.mono (by omega)).trans (hb4.mono (by have := hb3.size; omega))))⟩

section
variable {H : Type} {enc : TypeId × Value → H} {w : World}
theorem read_deed {r : Reach} {b0 : Nat} {v : Value} {d : DataW H} {p : List MemPlace} (hv : Value.okWide Try.prog w r b0 60 v) (h : DataW.Trod enc Try.prog w 0 (fun _ => true) true 60 v d p) :
    ∃ x : Int × Int, v = dv x.1 x.2 := by
  obtain ⟨v0, v1, y0, y1, n, rfl, _, _, h0, h1⟩ := open_agg2 Try.underlying60 (by kernel_rfl) (by kernel_rfl) hv h
  obtain ⟨s, e0, _, _⟩ := DataW.trod_int Try.underlying2 h0
  obtain ⟨t, e1, _, _⟩ := DataW.trod_int Try.underlying2 h1
  simp at e0 e1
  subst e0 e1
  exact ⟨(s, t), rfl⟩
theorem law' (w : World) (v : Value) (x : Int × Int) (h : v = dv x.1 x.2) : Calls Try.prog 14 #[v] w fun e w' => e = .returned (.bool true) ∧ Below w.heap.size w w' := h ▸ law w x.1 x.2
end
end Go.Proofs.Yticpmakpajnilaa.Deed
