
/- What the model's function that looks at the number of states hands back.
   Conditions: the relation's fields are slices. -/
import Derived.Test.YthebmpdkiocbmaaDoorBld
import Derived.Test.YthebmpdkiocbmaaDoorValid
namespace Go.Proofs.YthebmpdkiocbmaaDoor.SpecTold
set_option linter.unusedVariables false
set_option linter.unusedSimpArgs false
open Go.RowKit Mem Rel Bld

set_option maxHeartbeats 2000000 in
theorem told_few (k : Int) (aa ab : Option Addr) (n ca nb cb : Nat) (w : World) (hn : n ≤ 150) :
    Calls Tryd.prog 35 #[.agg #[.int .i64 k, .int .i64 0, .slice aa n ca, .slice ab nb cb]] w fun e w' => e = .returned (.tuple #[.agg #[.int .i64 k, .int .i64 0, .slice aa n ca, .slice ab nb cb], .int .i64 0]) ∧ Below w.heap.size w w' := by
  go_enter Tryd.func35, Tryd.ntmps35
  go_wp2
  exact bodyPost_ret (v := .tuple #[.agg #[.int .i64 k, .int .i64 0, .slice aa n ca, .slice ab nb cb], .int .i64 0]) (by simp [results, Tryd.results35, go_sem]) rfl ⟨rfl, ((Below.refl _ _).alloc (Nat.le_refl _) _).alloc (by simp) _⟩
theorem told_many (k : Int) (aa ab : Option Addr) (n ca nb cb : Nat) (w : World) (hn : 150 < n) (hm : n ≤ 1000000) :
    Calls Tryd.prog 35 #[.agg #[.int .i64 k, .int .i64 0, .slice aa n ca, .slice ab nb cb]] w fun e w' => e = .returned (.tuple #[.agg #[.int .i64 0, .int .i64 0, .slice none 0 0, .slice none 0 0], .int .i64 3]) ∧ Below w.heap.size w w' := by
  go_enter Tryd.func35, Tryd.ntmps35
  go_wp2
  exact bodyPost_ret (v := .tuple #[.agg #[.int .i64 0, .int .i64 0, .slice none 0 0, .slice none 0 0], .int .i64 3]) (by simp [results, Tryd.results35, go_sem]) rfl ⟨rfl, ((Below.refl _ _).alloc (Nat.le_refl _) _).alloc (by simp) _⟩
end Go.Proofs.YthebmpdkiocbmaaDoor.SpecTold
