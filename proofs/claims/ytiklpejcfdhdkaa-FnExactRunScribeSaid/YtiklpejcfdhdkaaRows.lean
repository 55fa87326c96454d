/-
  No cell of these rows narrows 'for every input' (looked for: loops, veiled, ifaces, maps, wideKeys, modest, calm, conditions, laid).
  DERIVED. THE GIVEN ROWS OF THIS SEAT. 4 by the template 'for every input the law returns true; each argument reads behind the call as it read before'; 0 by the template 'total and deterministic' (their statements: YtiklpejcfdhdkaaTotals.lean).
  GIVEN WITH THE SEED: the statements are not yours to turn. If you find one false, say at which input.
  Laid BY PROGRAM, IN A SANDBOX (cutbox-rows.mjs): the forced cells as the released guide's own fill.sh prints them over the translation 2bd5e0004622dcc9… (all of the seat's roots in one cut). By AI agents, Wed Nov 11 2026. No macro, syntax, notation, axiom, sorry.
-/
import Derived.Test.YtiklpejcfdhdkaaChecked
import GoSem.Claim
import GoSem.ClaimJoined
import GoSem.ClaimMapViews
import Derived.JoinedTies
import Derived.KernelRfl
namespace Go.Proofs.Ytiklpejcfdhdkaa
/- THE CELL 'sum', in the pinned program and in every row, IS THE sha256 OF THE DUMP (.gsa) THAT YtiklpejcfdhdkaaProg.lean LOADS. Nothing in Lean hashes anything: it is a label: what it is worth is what the hold of that sum in a sandbox is worth. -/
noncomputable def Try.pinned : Pinned := { name := "ytiklpejcfdhdkaa", sum := "2bd5e0004622dcc987e0e0efed9957503b3d583fcdf1c044bee42700de365696", checked := Try.checked }
namespace Rows
def none {H : Type} : Left H := { results := [], args := [] }

/-- 'laws.FnExactValidScribe': WHATEVER THE INPUT: true; the input reads as it did. -/
def fnExactValidScribeSpec : ChangeSpec := { name := "fnExactValidScribe", fn := fun _ => fun
  | [d] => { results := [.lit (.bool true)], args := [d] }
  | _ => none }
def fnExactValidScribeRow : OpenClaim := { program := "ytiklpejcfdhdkaa", sum := "2bd5e0004622dcc987e0e0efed9957503b3d583fcdf1c044bee42700de365696", func := "loop.example/g01168/laws.FnExactValidScribe", spec := "fnExactValidScribe", plainKeys := false, apart := false }
def FnExactValidScribeSaid : Prop := fnExactValidScribeRow.holds Try.pinned (OpenSpec.ofChange fnExactValidScribeSpec)

/-- ITS FALSE NEIGHBOUR: 'it returns false'. Refute it at one input. -/
def fnExactValidScribeWrong : ChangeSpec := { name := "fnExactValidScribe", fn := fun _ => fun
  | [d] => { results := [.lit (.bool false)], args := [d] }
  | _ => none }
def FnExactValidScribeWrongFalsely : Prop := fnExactValidScribeRow.holds Try.pinned (OpenSpec.ofChange fnExactValidScribeWrong)

/-- 'laws.FnExactSameScribe': WHATEVER THE INPUT: true; the input reads as it did. -/
def fnExactSameScribeSpec : ChangeSpec := { name := "fnExactSameScribe", fn := fun _ => fun
  | [d1, d2] => { results := [.lit (.bool true)], args := [d1, d2] }
  | _ => none }
def fnExactSameScribeRow : OpenClaim := { program := "ytiklpejcfdhdkaa", sum := "2bd5e0004622dcc987e0e0efed9957503b3d583fcdf1c044bee42700de365696", func := "loop.example/g01168/laws.FnExactSameScribe", spec := "fnExactSameScribe", plainKeys := false, apart := false }
def FnExactSameScribeSaid : Prop := fnExactSameScribeRow.holds Try.pinned (OpenSpec.ofChange fnExactSameScribeSpec)

/-- ITS FALSE NEIGHBOUR: 'it returns false'. Refute it at one input. -/
def fnExactSameScribeWrong : ChangeSpec := { name := "fnExactSameScribe", fn := fun _ => fun
  | [d1, d2] => { results := [.lit (.bool false)], args := [d1, d2] }
  | _ => none }
def FnExactSameScribeWrongFalsely : Prop := fnExactSameScribeRow.holds Try.pinned (OpenSpec.ofChange fnExactSameScribeWrong)

/-- 'laws.FnExactRunScribe': WHATEVER THE INPUT: true; the input reads as it did. -/
def fnExactRunScribeSpec : ChangeSpec := { name := "fnExactRunScribe", fn := fun _ => fun
  | [d1, d2] => { results := [.lit (.bool true)], args := [d1, d2] }
  | _ => none }
def fnExactRunScribeRow : OpenClaim := { program := "ytiklpejcfdhdkaa", sum := "2bd5e0004622dcc987e0e0efed9957503b3d583fcdf1c044bee42700de365696", func := "loop.example/g01168/laws.FnExactRunScribe", spec := "fnExactRunScribe", plainKeys := false, apart := false }
def FnExactRunScribeSaid : Prop := fnExactRunScribeRow.holds Try.pinned (OpenSpec.ofChange fnExactRunScribeSpec)

/-- ITS FALSE NEIGHBOUR: 'it returns false'. Refute it at one input. -/
def fnExactRunScribeWrong : ChangeSpec := { name := "fnExactRunScribe", fn := fun _ => fun
  | [d1, d2] => { results := [.lit (.bool false)], args := [d1, d2] }
  | _ => none }
def FnExactRunScribeWrongFalsely : Prop := fnExactRunScribeRow.holds Try.pinned (OpenSpec.ofChange fnExactRunScribeWrong)

/-- 'laws.FnExactRelationOfScribe': WHATEVER THE INPUT: true; the input reads as it did. -/
def fnExactRelationOfScribeSpec : ChangeSpec := { name := "fnExactRelationOfScribe", fn := fun _ => fun
  | [d] => { results := [.lit (.bool true)], args := [d] }
  | _ => none }
def fnExactRelationOfScribeRow : OpenClaim := { program := "ytiklpejcfdhdkaa", sum := "2bd5e0004622dcc987e0e0efed9957503b3d583fcdf1c044bee42700de365696", func := "loop.example/g01168/laws.FnExactRelationOfScribe", spec := "fnExactRelationOfScribe", unfollowed := true, recurses := true, plainKeys := false, apart := false }
def FnExactRelationOfScribeSaid : Prop := fnExactRelationOfScribeRow.holds Try.pinned (OpenSpec.ofChange fnExactRelationOfScribeSpec)

/-- ITS FALSE NEIGHBOUR: 'it returns false'. Refute it at one input. -/
def fnExactRelationOfScribeWrong : ChangeSpec := { name := "fnExactRelationOfScribe", fn := fun _ => fun
  | [d] => { results := [.lit (.bool false)], args := [d] }
  | _ => none }
def FnExactRelationOfScribeWrongFalsely : Prop := fnExactRelationOfScribeRow.holds Try.pinned (OpenSpec.ofChange fnExactRelationOfScribeWrong)

/- THE SECOND FORM. 'bulk': how many values and letters a reading holds, each counted each time it is reached (what is shared counts as often as it is met; a slice's spare places count too). A statement '..UptoSaid' is the law's where the arguments, and the package variables that the reading takes, are together of bulk at most 1048576: NARROWER than '..Said'. Prove '..Said' where nothing that the law and all that it calls make is longer than what came in: it says more and counts as full. Else prove '..UptoSaid'. A law counts once. -/
mutual
def uptoBulk {H : Type} : DataW H → Nat
  | .lit (.string bytes) => bytes.length + 1
  | .lit _ => 1
  | .nil => 1
  | .ptr d => uptoBulk d + 1
  | .slice elems spare => uptoBulkAll elems + uptoBulkAll spare + 1
  | .agg parts => uptoBulkAll parts + 1
  | .iface _ d => uptoBulk d + 1
  | .map entries => uptoBulkEntries entries + 1
  | .held _ => 1
def uptoBulkAll {H : Type} : List (DataW H) → Nat
  | [] => 0
  | d :: r => uptoBulk d + uptoBulkAll r
def uptoBulkEntries {H : Type} : List (Lit × DataW H) → Nat
  | [] => 0
  | x :: r => uptoBulkEntry x + uptoBulkEntries r
def uptoBulkEntry {H : Type} : Lit × DataW H → Nat
  | (.string bytes, d) => bytes.length + uptoBulk d + 1
  | (_, d) => uptoBulk d + 1
 end
def uptoSmall : (H : Type) → List (DataW H) → Bool := fun _ ds => decide (uptoBulkAll ds ≤ 1048576)
def OpenSpec.upto (s : _root_.Go.ChangeSpec) : _root_.Go.OpenSpec := { _root_.Go.OpenSpec.ofChange s with cond := some uptoSmall }

/-- 'laws.FnExactValidScribe', WHERE WHAT IT READS IS OF BULK AT MOST 1048576: true; the input reads as it did. -/
def fnExactValidScribeUptoRow : OpenClaim := { program := "ytiklpejcfdhdkaa", sum := "2bd5e0004622dcc987e0e0efed9957503b3d583fcdf1c044bee42700de365696", func := "loop.example/g01168/laws.FnExactValidScribe", spec := "fnExactValidScribe", plainKeys := false, apart := false, narrowed := true }
def FnExactValidScribeUptoSaid : Prop := fnExactValidScribeUptoRow.holds Try.pinned (OpenSpec.upto fnExactValidScribeSpec)

/-- 'laws.FnExactSameScribe', WHERE WHAT IT READS IS OF BULK AT MOST 1048576: true; the input reads as it did. -/
def fnExactSameScribeUptoRow : OpenClaim := { program := "ytiklpejcfdhdkaa", sum := "2bd5e0004622dcc987e0e0efed9957503b3d583fcdf1c044bee42700de365696", func := "loop.example/g01168/laws.FnExactSameScribe", spec := "fnExactSameScribe", plainKeys := false, apart := false, narrowed := true }
def FnExactSameScribeUptoSaid : Prop := fnExactSameScribeUptoRow.holds Try.pinned (OpenSpec.upto fnExactSameScribeSpec)

/-- 'laws.FnExactRunScribe', WHERE WHAT IT READS IS OF BULK AT MOST 1048576: true; the input reads as it did. -/
def fnExactRunScribeUptoRow : OpenClaim := { program := "ytiklpejcfdhdkaa", sum := "2bd5e0004622dcc987e0e0efed9957503b3d583fcdf1c044bee42700de365696", func := "loop.example/g01168/laws.FnExactRunScribe", spec := "fnExactRunScribe", plainKeys := false, apart := false, narrowed := true }
def FnExactRunScribeUptoSaid : Prop := fnExactRunScribeUptoRow.holds Try.pinned (OpenSpec.upto fnExactRunScribeSpec)

/-- 'laws.FnExactRelationOfScribe', WHERE WHAT IT READS IS OF BULK AT MOST 1048576: true; the input reads as it did. -/
def fnExactRelationOfScribeUptoRow : OpenClaim := { program := "ytiklpejcfdhdkaa", sum := "2bd5e0004622dcc987e0e0efed9957503b3d583fcdf1c044bee42700de365696", func := "loop.example/g01168/laws.FnExactRelationOfScribe", spec := "fnExactRelationOfScribe", unfollowed := true, recurses := true, plainKeys := false, apart := false, narrowed := true }
def FnExactRelationOfScribeUptoSaid : Prop := fnExactRelationOfScribeUptoRow.holds Try.pinned (OpenSpec.upto fnExactRelationOfScribeSpec)

end Rows
end Go.Proofs.Ytiklpejcfdhdkaa
