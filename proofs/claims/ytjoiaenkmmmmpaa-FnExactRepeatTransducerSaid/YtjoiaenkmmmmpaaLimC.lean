
/- The closure that the program defers where a machine may grow too great.
   Conditions: stated at each theorem. -/
import Derived.Test.YtjoiaenkmmmmpaaRepImpl
import Derived.Defers
import Derived.Recover
import Derived.WalkKit
namespace Go.Proofs.Ytjoiaenkmmmmpaa.LimC
set_option linter.unusedVariables false
set_option linter.unusedSimpArgs false
set_option maxRecDepth 100000
open Go.RowKit

/-- Where nothing has panicked it turns nothing. -/
theorem idle (q : Addr) (w : World) :
    CallsD Try.prog 80 #[.pointer (some q)] .returning w fun e u' w' => e = .returned (.tuple #[]) ∧ u' = .returning ∧ w' = w := by
  refine callsD_of_wpS Try.func80 rfl fun c₀ cs hu => ?_
  have hnil : ∀ w : World, (binOp BinOp.neq 20 .nilIface .nilIface).run Try.prog w = .ok (.bool false) w := fun _ => by kernel_rfl
  apply wpS_seq
  apply wpS_region
  simp [wpOpsS, go_sem, recoverD, hu, Try.ntmps80, Exit.thenS]
  refine wpS_of_wp ?_
  go_wp2
  cases c₀
  simp_all [bodyPostS, results, Try.results80, Exit.thenS]

set_option maxHeartbeats 2000000 in
/-- Where a machine would have grown too great the code is that of a limit. -/
theorem caught (b : Nat) (x : Value) (w : World) (hc : w.cell? ⟨b, 0, none⟩ = some x) (hf : w.frozen? ⟨b, 0, none⟩ = false) (hb : b < w.heap.size) :
    CallsD Try.prog 80 #[.pointer (some ⟨b, 0, none⟩)] (.panicking [{ v := .iface 109 (.agg #[]), recovered := false }]) w fun e u' w' =>
      e = .returned (.tuple #[]) ∧ u' = .panicking [{ v := .iface 109 (.agg #[]), recovered := true }] ∧ w' = ((w.setCell ⟨b, 0, none⟩ (.int .i64 3)).setCell ⟨b, 0, none⟩ (.int .i64 3)).alloc (.cells #[] 109) := by
  refine callsD_of_wpS Try.func80 rfl fun c₀ cs hu => ?_
  have hnil : ∀ w : World, (binOp BinOp.neq 20 (.iface 109 (.agg #[])) .nilIface).run Try.prog w = .ok (.bool true) w := fun _ => by kernel_rfl
  have hta : ∀ w : World, (Instr.typeAssert (.iface 109 (.agg #[])) 20 83 true).run Try.prog w = .ok (.tuple #[.iface 109 (.agg #[]), .bool true]) w := fun _ => by kernel_rfl
  have hme : ∀ w : World, (method 229 109 (.agg #[]) "loop.example/g01168/impl.code").run Try.prog w = .ok (113, .agg #[]) w := fun _ => by kernel_rfl
  apply wpS_seq
  apply wpS_region
  simp [wpOpsS, go_sem, recoverD, hu, Try.ntmps80, Exit.thenS]
  refine wpS_of_wp ?_
  go_wp2
  simp [bodyPostS, results, Try.results80, Exit.thenS]
end Go.Proofs.Ytjoiaenkmmmmpaa.LimC
