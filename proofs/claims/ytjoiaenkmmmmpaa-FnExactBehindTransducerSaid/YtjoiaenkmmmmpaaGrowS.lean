
/- The program's function that adds states to a machine that grows.
   Conditions: stated at each theorem. -/
import Derived.Test.YtjoiaenkmmmmpaaGrow
namespace Go.Proofs.Ytjoiaenkmmmmpaa.GrowS
set_option linter.unusedVariables false
set_option linter.unusedSimpArgs false
set_option maxRecDepth 100000
open Go.RowKit Mem Copy Rel Heap MarkRow Edg EdgCopy EdgEq TrHeap TrLawKit TrValid TrImplValid TurnImpl TurnSpec Push TrimKit Grow

theorem below_drewN {B : Nat} {a w : World} (h : Below B a w) (m : Nat) : Below B a (w.drewN m) := ⟨h.os, h.tape, h.output, h.size, h.block⟩

set_option maxHeartbeats 4000000 in
theorem addStates (Z C : Nat) (s : Int) (va vn : Value) (A : List Bool) (es : List E) (N : List Bool) (b o m c : Nat) (w : World) (hb : BldG w C Z s va vn A es) (hm : N.length = m) (hA : A.length ≤ 1000) (hN : m ≤ 1000)
    (hnews : ∀ j u, (N.map Value.bool)[j]? = some u → w.cell? ((⟨b, o, none⟩ : Addr).add j) = some u) :
    Calls Try.prog 81 #[.pointer (some ⟨Z, 0, none⟩), .slice (some ⟨b, o, none⟩) m c] w fun e w' => Below C w w' ∧
      ((A.length + m ≤ 40 ∧ e = .returned (.tuple #[]) ∧ ∃ va', BldG w' C Z s va' vn (A ++ N) es) ∨ (40 < A.length + m ∧ e = .panicked [{ v := .iface 109 (.agg #[]), recovered := false }])) := by
  obtain ⟨a1, n1, c1, rfl, HN1⟩ := hb.acc.shape'
  have HB := Lib.hid hb
  have HNW := Lib.hid hnews
  have b1 := (cell_of_block hb.at_ 1).1
  have b3 := (cell_of_block hb.at_ 3).1
  simp at b1 b3
  have b4 := (cell_of_block hb.at_ 1).2
  have b6 := hb.lt
  have HCS := Lib.hid (show C ≤ w.heap.size by have := hb.lt; have := hb.obB; omega)
  have HLN := Lib.hid (show (A.map Value.bool).length + (N.map Value.bool).length ≤ 100000000 by rw [List.length_map, List.length_map, hm]; omega)
  have HML := Lib.hid (show (N.map Value.bool).length = m by rw [List.length_map, hm])
  clear hb hnews
  go_enter Try.func81, Try.ntmps81
  go_upto_region 1 with (at_builtin; refine wpList_pushs rfl _ _ 22 rfl 4 (.bool false) 1 Try.underlying22 info4 (by decide) (by decide) C (.slice a1 n1 c1) (A.map Value.bool) HB.out.acc HCS.out (N.map Value.bool) (fun u hu => by obtain ⟨b, -, rfl⟩ := List.mem_map.1 hu; rfl) HLN.out rfl ⟨b, o, none⟩ m c rfl HML.out HNW.out ?_; intro v5 w5 hl5 hg5; obtain ⟨a5, n5, c5, rfl, HN5⟩ := hl5.shape'; have HD5 := Lib.hid (HB.out.pushA hl5 hg5); have HK5 := Lib.hid (Below.setCell (below_grown (Below.refl C w) hg5 HCS.out (fun k hk => HB.out.acc.ge hk)) (p := ⟨Z, 1, none⟩) HB.out.obB (.slice a5 n5 c5)); have ob5 := BldG.obA HB.out hg5; have u1 := (cell_of_block ob5 1).1; have u4 := (cell_of_block ob5 1).2; have u6 := lt_of_block ob5; simp at u1; clear hl5 hg5 ob5)
  obtain rfl : n5 = A.length + m := by rw [HN5.out, List.length_append, HML.out, List.length_map]
  clear b1 b3 b4 b6 u1 u4 u6 HN5
  generalize w5.setCell ⟨Z, 1, none⟩ (.slice a5 (A.length + m) c5) = X at HD5 HK5 ⊢
  have b1 := (cell_of_block HD5.out.at_ 1).1
  have b3 := (cell_of_block HD5.out.at_ 3).1
  simp at b1 b3
  have b6 := HD5.out.lt
  obtain ⟨p, hp⟩ : ∃ p, p = A.length + m := ⟨_, rfl⟩
  rw [← hp] at HD5 b1 ⊢
  have HP := Lib.hid hp
  clear HB HNW HCS HLN HML hp HN1
  by_cases hle : p ≤ 40
  · have d1 : decide ((40 : Int) < (p : Int)) = false := by simp; omega
    go_quiet (fail)
    go_wp2
    go_end0
    exact ⟨below_drewN HK5.out _, .inl ⟨by rw [← HP.out]; exact hle, rfl, _, HD5.out.below (below_drewN (Below.refl _ _) _)⟩⟩
  · have d1 : decide ((40 : Int) < (p : Int)) = true := by simp; omega
    go_quiet (fail)
    go_wp2
    exact ⟨rfl, below_drewN HK5.out _, .inr ⟨by rw [← HP.out]; omega, rfl⟩⟩
end Go.Proofs.Ytjoiaenkmmmmpaa.GrowS
