
/- What both sides' functions that trim a transducer hand back, as one transducer.
   Conditions: the transducer is read as XEdg's text says, and is valid. -/
import Derived.Test.YtjoiaenkmmmmpaaTrimSpec
namespace Go.Proofs.Ytjoiaenkmmmmpaa.TrimAns
set_option linter.unusedVariables false
set_option linter.unusedSimpArgs false
open Go.RowKit Mem Copy Rel Heap MarkRow Edg EdgCopy EdgEq TrHeap TrLawKit TrValid TrImplValid TurnImpl TurnSpec TrReach TrReached TrimKit TrimImpl TrimSpec

open Classical in
/-- What the passes end in, if they end. -/
noncomputable def fixOf (es : List E) (s0 : List Bool) : List Bool := if h : ∃ s, Fix es s0 s then Classical.choose h else s0
theorem fixOf_eq {es : List E} {s0 s : List Bool} (h : Fix es s0 s) : fixOf es s0 = s := by
  have he : ∃ s, Fix es s0 s := ⟨s, h⟩
  unfold fixOf
  rw [dif_pos he]
  exact fix_uniq (Classical.choose_spec he) h
noncomputable def trimT (t : T) : T := trimOf (fixOf t.edges ((List.replicate t.accept.length false).set t.start.toNat true)) (fixOf (t.edges.map flipD) t.accept) t

theorem short_TrimTransducer (t : T) (hok : okT t = true) : (trimT t).accept.length ≤ 1000 ∧ (trimT t).edges.length ≤ 1000 := by
  obtain ⟨h1, h2, h3, -⟩ := ok_parts hok
  unfold trimT trimOf
  constructor
  · rw [accOf_length]
    exact Nat.le_trans (numOf_le _ _) (by omega)
  · exact Nat.le_trans (edgOf_length _ _) (by omega)

theorem trimI (v : Value) (t : T) (w : World) (B : Nat) (h : TrAt w B v t) (hB : B ≤ w.heap.size) (hok : okT t = true) :
    Calls Try.prog 66 #[v] w fun e w' => ∃ va vn, e = .returned (.agg #[.int .i64 (trimT t).start, va, vn]) ∧ BuiltT w' w.heap.size va vn (trimT t).accept (trimT t).edges ∧ Below w.heap.size w w' := by
  refine (TrimImpl.trimmed v t w B h hB hok).mono ?_
  rintro e w' ⟨s1, s2, ua, un, h1, h2, he, hb, hw⟩
  have e1 : trimT t = trimOf s1 s2 t := by unfold trimT; rw [fixOf_eq h1, fixOf_eq h2]
  rw [e1]
  exact ⟨ua, un, he, hb, hw⟩

theorem trimP (t : T) (hok : okT t = true) (va vn : Value) (bp : Nat) (w : World) (B : Nat) (h : TrPtr w B bp t va vn) (hB : B ≤ w.heap.size) (hbp : bp < w.heap.size) :
    Calls Try.prog 65 #[.pointer (some ⟨bp, 0, none⟩)] w fun e w' => ∃ ua un, e = .returned (.agg #[.int .i64 (trimT t).start, ua, un]) ∧ BuiltT w' w.heap.size ua un (trimT t).accept (trimT t).edges ∧ Below w.heap.size w w' := by
  refine (TrimSpec.trimmedP t hok va vn bp w B h hB hbp).mono ?_
  rintro e w' ⟨s1, s2, ua, un, h1, h2, he, hb, hw⟩
  have e1 : trimT t = trimOf s1 s2 t := by unfold trimT; rw [fixOf_eq h1, fixOf_eq h2]
  rw [e1]
  exact ⟨ua, un, he, hb, hw⟩
end Go.Proofs.Ytjoiaenkmmmmpaa.TrimAns
