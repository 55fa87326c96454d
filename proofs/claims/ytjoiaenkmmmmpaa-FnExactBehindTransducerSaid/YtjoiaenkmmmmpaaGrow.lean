
/- A machine that grows: its lists, and the program's function that adds states.
   Conditions: stated at each theorem. -/
import Derived.Test.YtjoiaenkmmmmpaaTrimKit
import Derived.Test.YtjoiaenkmmmmpaaPush
namespace Go.Proofs.Ytjoiaenkmmmmpaa.Grow
set_option linter.unusedVariables false
set_option linter.unusedSimpArgs false
set_option maxRecDepth 100000
open Go.RowKit Mem Copy Rel Heap MarkRow Edg EdgCopy EdgEq TrHeap TrLawKit TrValid TrImplValid TurnImpl TurnSpec Push TrimKit

/-- A growing machine in a block, and its lists, all from block B on. -/
structure BldG (w : World) (B ob : Nat) (s : Int) (va vn : Value) (A : List Bool) (es : List E) : Prop where
  acc : Lst w B 4 va (A.map Value.bool)
  edg : LstE w B vn es
  at_ : w.heap[ob]? = some (.cells #[.int .i64 s, va, vn, .int .i64 40, .int .i64 200] 90 (0, 0))
  obB : B ≤ ob
section
variable {w w' : World} {B ob : Nat} {s : Int} {va va' vn vn' : Value} {A N : List Bool} {es : List E} {x : E}
theorem BldG.lt (h : BldG w B ob s va vn A es) : ob < w.heap.size := lt_of_block h.at_
theorem BldG.below (h : BldG w B ob s va vn A es) (hb : Below w.heap.size w w') : BldG w' B ob s va vn A es :=
  ⟨h.acc.below hb, h.edg.below hb, (hb.block ob h.lt).trans h.at_, h.obB⟩
theorem BldG.alloc (h : BldG w B ob s va vn A es) (o : Obj) : BldG (w.alloc o) B ob s va vn A es := h.below ((Below.refl _ _).alloc (Nat.le_refl _) _)
theorem BldG.obA (h : BldG w B ob s va vn A es) (hg : w.grownBy w' va.ownBlock) : w'.heap[ob]? = some (.cells #[.int .i64 s, va, vn, .int .i64 40, .int .i64 200] 90 (0, 0)) := by
  rw [hg.block ob h.lt fun e => block_apart h.acc h.at_ (by decide) e.symm]; exact h.at_
theorem BldG.pushA (h : BldG w B ob s va vn A es) (hl : Lst w' B 4 va' (A.map Value.bool ++ N.map Value.bool)) (hg : w.grownBy w' va.ownBlock) : BldG (w'.setCell ⟨ob, 1, none⟩ va') B ob s va' vn (A ++ N) es := by
  have hob := BldG.obA h hg
  have hl2 : Lst w' B 4 va' ((A ++ N).map Value.bool) := by rw [List.map_append]; exact hl
  have he : LstE w' B vn es := h.edg.grown hg fun k hk e => apartL h.acc h.edg (by decide) k e hk
  exact ⟨hl2.setOther (block_apart hl2 hob (by decide)) _, he.setOther (apartE he hob (by decide)) _, blk_set hob, h.obB⟩
theorem BldG.obE (h : BldG w B ob s va vn A es) (hp : PushedE w w' B vn vn' es x) : w'.heap[ob]? = some (.cells #[.int .i64 s, va, vn, .int .i64 40, .int .i64 200] 90 (0, 0)) := by
  rw [hp.grow.block ob h.lt fun e => apartE h.edg h.at_ (by decide) e.symm]; exact h.at_
theorem BldG.pushE (h : BldG w B ob s va vn A es) (hp : PushedE w w' B vn vn' es x) : BldG (w'.setCell ⟨ob, 2, none⟩ vn') B ob s va vn' A (es ++ [x]) := by
  have hob := h.obE hp
  have ha : Lst w' B 4 va (A.map Value.bool) := h.acc.grown hp.grow fun k hk => apartL h.acc h.edg (by decide) k hk
  exact ⟨ha.setOther (block_apart ha hob (by decide)) _, hp.lst.setOther (apartE hp.lst hob (by decide)) _, blk_set hob, h.obB⟩
end

/-- A machine without states. -/
theorem newMachine (w : World) :
    Calls Try.prog 63 #[] w fun e w' => e = .returned (.pointer (some ⟨w.heap.size, 0, none⟩)) ∧ BldG w' w.heap.size w.heap.size 0 (.slice none 0 0) (.slice none 0 0) [] [] ∧ Below w.heap.size w w' := by
  go_enter Try.func63, Try.ntmps63
  go_wp2
  go_ret
  exact ⟨rfl, ⟨Lst.nil _ _ _, LstE.nil _ _, heap_alloc_new _ _, Nat.le_refl _⟩, (Below.refl _ _).alloc (Nat.le_refl _) _⟩
end Go.Proofs.Ytjoiaenkmmmmpaa.Grow
