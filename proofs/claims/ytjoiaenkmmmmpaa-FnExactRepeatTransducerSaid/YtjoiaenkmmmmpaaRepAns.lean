
/- What the model's RepeatTransducer answers, whatever the transducer.
   Conditions: the transducer is read as XEdg's text says. -/
import Derived.Test.YtjoiaenkmmmmpaaRepSpec
namespace Go.Proofs.Ytjoiaenkmmmmpaa.RepAns
set_option linter.unusedVariables false
set_option linter.unusedSimpArgs false
set_option maxRecDepth 100000
open Go.RowKit Mem Copy Rel Heap MarkRow Edg EdgCopy EdgEq TrHeap TrLawKit TrValid TrImplValid TurnImpl TurnSpec AddSpec ToldTr RepSpec

def ansC (t : T) : Int := if okT t = true then (if fitsT (repA t) (repN t) = true then 0 else 3) else 1
def ansA (t : T) : List Bool := if okT t = true ∧ fitsT (repA t) (repN t) = true then repA t else []
def ansN (t : T) : List E := if okT t = true ∧ fitsT (repA t) (repN t) = true then repN t else []
theorem ans_len (t : T) : (ansA t).length ≤ 1000 ∧ (ansN t).length ≤ 1000 := by
  unfold ansA ansN
  by_cases h : okT t = true ∧ fitsT (repA t) (repN t) = true
  · rw [if_pos h, if_pos h]
    obtain ⟨-, h2⟩ := h
    unfold fitsT at h2
    simp only [Bool.and_eq_true, decide_eq_true_eq] at h2
    exact ⟨by omega, by omega⟩
  · rw [if_neg h, if_neg h]; exact ⟨Nat.zero_le _, Nat.zero_le _⟩
theorem none_built (w : World) (B : Nat) : BuiltT w B (.slice none 0 0) (.slice none 0 0) [] [] := ⟨Lst.nil _ _ _, LstE.nil _ _, fun i hi => absurd hi (Nat.not_lt_zero i), by simp⟩

set_option maxHeartbeats 2000000 in
theorem specNo (v : Value) (t : T) (w : World) (B : Nat) (h : TrAt w B v t) (hB : B ≤ w.heap.size) (hok : okT t = false) :
    Calls Try.prog 23 #[v] w fun e w' => e = .returned (.tuple #[.agg #[.int .i64 0, .slice none 0 0, .slice none 0 0], .int .i64 1]) ∧ Below w.heap.size w w' := by
  obtain ⟨va, vn, rfl, hacc, hed⟩ := h
  obtain ⟨c, hc⟩ : ∃ c : Array Value, c = #[.int .i64 t.start, va, vn] := ⟨_, rfl⟩
  have hk0 : K2 w c ((w.alloc (.cells c 30)).alloc Z3) := Below.refl _ _
  have hP : TrPtr ((w.alloc (.cells c 30)).alloc Z3) B w.heap.size t va vn := ⟨by rw [hc]; exact (Kept3.new _ _ _ _ _).box _, hacc.below (K2.base hk0) hB, hed.below (K2.base hk0) hB⟩
  have HV := Lib.hid (specOk t va vn w.heap.size _ B hP)
  have HK0 := Lib.hid hk0
  rw [hok] at HV
  clear hk0 hP hacc hed hok
  go_enter Try.func23, Try.ntmps23
  go_wp2_with fail
  rw [← hc]
  clear hc
  refine HV.out.mono ?_
  rintro e w1 ⟨rfl, rfl⟩
  obtain ⟨r0, r1, r2, s0, s1, s2⟩ := K2.cells HK0.out
  have hl := K2.size HK0.out
  have HRES := Lib.hid (K2.res HK0.out)
  obtain ⟨W, hW⟩ : ∃ W, W = (w.alloc (.cells c 30)).alloc Z3 := ⟨_, rfl⟩
  rw [← hW] at r0 r1 r2 s0 s1 s2 hl HRES HK0
  rw [← hW]
  clear hW
  go_wp2
  obtain ⟨g0, g1, g2⟩ := put3_cells (a := .int .i64 0) (b := .slice none 0 0) (c := .slice none 0 0) HRES.out
  exact bodyPost_ret (v := .tuple #[.agg #[.int .i64 0, .slice none 0 0, .slice none 0 0], .int .i64 1]) (by simp [results, Try.results23, go_sem, g0, g1, g2]) rfl ⟨rfl, put3_below (K2.base HK0.out) (by omega)⟩

theorem specAns (v : Value) (t : T) (w : World) (B : Nat) (h : TrAt w B v t) (hB : B ≤ w.heap.size) :
    Calls Try.prog 23 #[v] w fun e w' => ∃ va vn, e = .returned (.tuple #[.agg #[.int .i64 0, va, vn], .int .i64 (ansC t)]) ∧ BuiltT w' w.heap.size va vn (ansA t) (ansN t) ∧ Below w.heap.size w w' := by
  cases hok : okT t with
  | false =>
    have h1 : ansC t = 1 ∧ ansA t = [] ∧ ansN t = [] := by unfold ansC ansA ansN; rw [hok]; simp
    rw [h1.1, h1.2.1, h1.2.2]
    refine (specNo v t w B h hB hok).mono ?_
    rintro e w' ⟨rfl, hb⟩
    exact ⟨_, _, rfl, none_built _ _, hb⟩
  | true =>
    refine (repSpec v t w B h hB hok).mono ?_
    rintro e w' ⟨hb, ⟨hf, va, vn, rfl, hbu⟩ | ⟨hf, rfl⟩⟩
    · have h1 : ansC t = 0 ∧ ansA t = repA t ∧ ansN t = repN t := by unfold ansC ansA ansN; rw [hok, hf]; simp
      rw [h1.1, h1.2.1, h1.2.2]
      exact ⟨_, _, rfl, hbu, hb⟩
    · have h1 : ansC t = 3 ∧ ansA t = [] ∧ ansN t = [] := by unfold ansC ansA ansN; rw [hok, hf]; simp
      rw [h1.1, h1.2.1, h1.2.2]
      exact ⟨_, _, rfl, none_built _ _, hb⟩
end Go.Proofs.Ytjoiaenkmmmmpaa.RepAns
