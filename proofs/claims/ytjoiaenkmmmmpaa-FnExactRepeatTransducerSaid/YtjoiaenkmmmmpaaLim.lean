
/- The program's limited, where it repeats a transducer.
   Conditions: the transducer lies in a box, and is valid. -/
import Derived.Test.YtjoiaenkmmmmpaaLimC
namespace Go.Proofs.Ytjoiaenkmmmmpaa.Lim
set_option linter.unusedVariables false
set_option linter.unusedSimpArgs false
set_option maxRecDepth 100000
open Go.RowKit Mem Copy Rel Heap MarkRow Edg EdgCopy EdgEq TrHeap TrLawKit TrValid TrImplValid TurnImpl TurnSpec TrReach TrReached TrimKit AddSpec ToldTr Grow GrowS RepSpec GrowN RepImpl LimC

set_option maxHeartbeats 4000000 in
theorem built (t : T) (aa ab : Option Addr) (n ca q cb : Nat) (bp : Nat) (w : World) (B : Nat) (hp : TrPtr w B bp t (.slice aa n ca) (.slice ab q cb)) (hB : B ≤ w.heap.size) (hok : okT t = true) (hins : Inside t.accept.length t.edges) :
    Calls Try.prog 56 #[.pointer (some ⟨bp, 0, none⟩)] w fun e w' => Below w.heap.size w w' ∧
      ((fitsT (repA t) (repN t) = true ∧ ∃ va vn, e = .returned (.agg #[.int .i64 0, va, vn]) ∧ BuiltT w' w.heap.size va vn (repA t) (repN t)) ∨
        (fitsT (repA t) (repN t) = false ∧ e = .panicked [{ v := .iface 109 (.agg #[]), recovered := false }])) := by
  have HR := Lib.hid (fun W (hb : Below w.heap.size w W) => repeated (.agg #[.int .i64 t.start, .slice aa n ca, .slice ab q cb]) t W B ⟨_, _, rfl, hp.acc.below hb hB, hp.edges.below hb hB⟩ (Nat.le_trans hB hb.size) hok hins)
  obtain ⟨⟨c0, c1, c2, hlt⟩, -, -⟩ := hp
  have HR1 := Lib.hid (HR.out _ ((Below.refl _ w).alloc (Nat.le_refl _) (.cells #[Value.int .i64 0, .slice none 0 0, .slice none 0 0] 30)))
  have HW := Lib.hid ((Below.refl _ w).alloc (Nat.le_refl _) (.cells #[Value.int .i64 0, .slice none 0 0, .slice none 0 0] 30))
  go_enter Try.func56, Try.ntmps56
  go_wp2_with fail
  refine HR1.out.mono ?_
  rintro e w1 ⟨hb, ⟨hf, va', vn', rfl, hbu⟩ | ⟨hf, rfl⟩⟩
  · have HKP := Lib.hid (show Kp w w1 from by have := hb; rwa [size_alloc'] at this)
    have HBU := Lib.hid (show BuiltT w1 (w.heap.size + 1) va' vn' (repA t) (repN t) by have := hbu; rwa [size_alloc'] at this)
    have HF := Lib.hid hf
    obtain ⟨a4, n4, c4, rfl, -⟩ := hbu.acc.shape'
    obtain ⟨b4, m4, d4, rfl, -⟩ := hbu.edg.shape'
    have hrs := Kp.res HKP.out
    have r0 := (cell_of_block hrs 0).1
    have r1 := (cell_of_block hrs 1).1
    have r2 := (cell_of_block hrs 2).1
    have r3 := (cell_of_block hrs 0).2
    have r4 := (cell_of_block hrs 1).2
    have r5 := (cell_of_block hrs 2).2
    simp at r0 r1 r2
    have l1 := lt_of_block hrs
    clear hb hf hbu hrs HR HR1 HW
    go_wp2
    obtain ⟨g0, g1, g2⟩ := put3_cells (a := .int .i64 0) (b := .slice a4 n4 c4) (c := .slice b4 m4 d4) (Kp.res HKP.out)
    refine bodyPost_ret (v := .agg #[.int .i64 0, .slice a4 n4 c4, .slice b4 m4 d4]) (by simp [results, Try.results56, go_sem, g0, g1, g2]) rfl ⟨put3_below (Kp.base HKP.out) (Nat.le_refl _), .inl ⟨HF.out, _, _, rfl, BuiltT.mono (BuiltT.put3 HBU.out (Nat.lt_succ_self _)) (Nat.le_succ _)⟩⟩
  · have HB := Lib.hid (base_step HW.out hb)
    have HF := Lib.hid hf
    clear hb hf
    go_wp2_with fail
    exact ⟨rfl, HB.out, .inr ⟨HF.out, rfl⟩⟩
end Go.Proofs.Ytjoiaenkmmmmpaa.Lim
