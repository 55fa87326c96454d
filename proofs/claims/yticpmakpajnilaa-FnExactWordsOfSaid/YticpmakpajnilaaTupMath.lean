
/- Plain facts on the words that columns spell.
   Conditions: none. -/
import Derived.Test.YticpmakpajnilaaColMath
import Derived.Test.YticpmakpajnilaaMark
namespace Go.Proofs.Yticpmakpajnilaa.TupMath
open Mem ColMath

/-- What a column has on a tape. -/
def dg (c : Int) (t : Nat) : Int := c / pow3 t % 3
/-- The letters that columns have on a tape, but for the pads. -/
def wd (cs : List Int) (t : Nat) : List Int := (cs.filter fun c => dg c t != 2).map fun c => 97 + dg c t
def stepOk (cs : List Int) (i t : Nat) : Bool := (dg (cs.getD i 0) t == 2) || !decide ((wd (cs.take i) t).length < i)
def rightB (n : Nat) (cs : List Int) : Bool := (List.range cs.length).all fun i => (List.range n).all fun t => stepOk cs i t

theorem dg_range (c : Int) (t : Nat) : dg c t = 0 ∨ dg c t = 1 ∨ dg c t = 2 := by
  unfold dg; omega
theorem wd_len (cs : List Int) (t : Nat) : (wd cs t).length ≤ cs.length := by
  unfold wd; rw [List.length_map]; exact List.length_filter_le _ _
theorem wd_pad {cs : List Int} {i t : Nat} (hi : i < cs.length) (h : dg (cs.getD i 0) t = 2) : wd (cs.take (i + 1)) t = wd (cs.take i) t := by
  unfold wd
  rw [take_succ_getD cs 0 i hi, List.filter_append]
  have : ¬ (dg (cs.getD i 0) t != 2) = true := by rw [bne_iff_ne]; exact fun e => e h
  rw [List.filter_cons, if_neg this, List.filter_nil, List.append_nil]
theorem wd_letter {cs : List Int} {i t : Nat} (hi : i < cs.length) (h : ¬ dg (cs.getD i 0) t = 2) : wd (cs.take (i + 1)) t = wd (cs.take i) t ++ [97 + dg (cs.getD i 0) t] := by
  unfold wd
  rw [take_succ_getD cs 0 i hi, List.filter_append, List.map_append]
  have : (dg (cs.getD i 0) t != 2) = true := by rw [bne_iff_ne]; exact h
  rw [List.filter_cons, if_pos this]; rfl

theorem right_bad {n : Nat} {cs : List Int} {i t : Nat} (hi : i < cs.length) (ht : t < n) (h : stepOk cs i t = false) : rightB n cs = false := by
  unfold rightB
  rw [List.all_eq_false]
  refine ⟨i, List.mem_range.2 hi, ?_⟩
  rw [Bool.not_eq_true, List.all_eq_false]
  exact ⟨t, List.mem_range.2 ht, by rw [h]; exact Bool.false_ne_true⟩
theorem right_good {n : Nat} {cs : List Int} (h : ∀ i t, i < cs.length → t < n → stepOk cs i t = true) : rightB n cs = true := by
  unfold rightB
  rw [List.all_eq_true]
  intro i hi
  rw [List.all_eq_true]
  intro t ht
  exact h i t (List.mem_range.1 hi) (List.mem_range.1 ht)
end Go.Proofs.Yticpmakpajnilaa.TupMath
