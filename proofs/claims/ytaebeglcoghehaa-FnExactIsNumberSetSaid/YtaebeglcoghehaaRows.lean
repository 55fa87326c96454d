/-
  No cell of these rows narrows 'for every input' (looked for: loops, veiled, ifaces, maps, wideKeys, modest, calm, conditions, laid).
  DERIVED. THE GIVEN ROWS OF THIS SEAT. 6 by the template 'for every input the law returns true; each argument reads behind the call as it read before'; 0 by the template 'total and deterministic' (their statements: YtaebeglcoghehaaTotals.lean).
  GIVEN WITH THE SEED: the statements are not yours to turn. If you find one false, say at which input.
  Laid BY PROGRAM, IN A SANDBOX (cutbox-rows.mjs): the forced cells as the released guide's own fill.sh prints them over the translation 3ece630469903333… (all of the seat's roots in one cut). By AI agents, Wed Nov 11 2026. No macro, syntax, notation, axiom, sorry.
-/
import Derived.Test.YtaebeglcoghehaaChecked
import GoSem.Claim
import GoSem.ClaimJoined
import GoSem.ClaimMapViews
import Derived.JoinedTies
import Derived.KernelRfl
namespace Go.Proofs.Ytaebeglcoghehaa
/- THE CELL 'sum', in the pinned program and in every row, IS THE sha256 OF THE DUMP (.gsa) THAT YtaebeglcoghehaaProg.lean LOADS. Nothing in Lean hashes anything: it is a label: what it is worth is what the hold of that sum in a sandbox is worth. -/
noncomputable def Try.pinned : Pinned := { name := "ytaebeglcoghehaa", sum := "3ece630469903333608628386b9a5d234cc21bbe43293d243598e869bc21b28e", checked := Try.checked }
namespace Rows
def none {H : Type} : Left H := { results := [], args := [] }

/-- 'laws.FnExactIsNumberSet': WHATEVER THE INPUT: true; the input reads as it did. -/
def fnExactIsNumberSetSpec : ChangeSpec := { name := "fnExactIsNumberSet", fn := fun _ => fun
  | [d] => { results := [.lit (.bool true)], args := [d] }
  | _ => none }
def fnExactIsNumberSetRow : OpenClaim := { program := "ytaebeglcoghehaa", sum := "3ece630469903333608628386b9a5d234cc21bbe43293d243598e869bc21b28e", func := "loop.example/g01168/laws.FnExactIsNumberSet", spec := "fnExactIsNumberSet", unfollowed := true, recurses := true, plainKeys := false, apart := false }
def FnExactIsNumberSetSaid : Prop := fnExactIsNumberSetRow.holds Try.pinned (OpenSpec.ofChange fnExactIsNumberSetSpec)

/-- ITS FALSE NEIGHBOUR: 'it returns false'. Refute it at one input. -/
def fnExactIsNumberSetWrong : ChangeSpec := { name := "fnExactIsNumberSet", fn := fun _ => fun
  | [d] => { results := [.lit (.bool false)], args := [d] }
  | _ => none }
def FnExactIsNumberSetWrongFalsely : Prop := fnExactIsNumberSetRow.holds Try.pinned (OpenSpec.ofChange fnExactIsNumberSetWrong)

/-- 'laws.FnExactCountBelow': WHATEVER THE INPUT: true; the input reads as it did. -/
def fnExactCountBelowSpec : ChangeSpec := { name := "fnExactCountBelow", fn := fun _ => fun
  | [d1, d2] => { results := [.lit (.bool true)], args := [d1, d2] }
  | _ => none }
def fnExactCountBelowRow : OpenClaim := { program := "ytaebeglcoghehaa", sum := "3ece630469903333608628386b9a5d234cc21bbe43293d243598e869bc21b28e", func := "loop.example/g01168/laws.FnExactCountBelow", spec := "fnExactCountBelow", unfollowed := true, recurses := true, plainKeys := false, apart := false }
def FnExactCountBelowSaid : Prop := fnExactCountBelowRow.holds Try.pinned (OpenSpec.ofChange fnExactCountBelowSpec)

/-- ITS FALSE NEIGHBOUR: 'it returns false'. Refute it at one input. -/
def fnExactCountBelowWrong : ChangeSpec := { name := "fnExactCountBelow", fn := fun _ => fun
  | [d1, d2] => { results := [.lit (.bool false)], args := [d1, d2] }
  | _ => none }
def FnExactCountBelowWrongFalsely : Prop := fnExactCountBelowRow.holds Try.pinned (OpenSpec.ofChange fnExactCountBelowWrong)

/-- 'laws.FnExactCountTuples': WHATEVER THE INPUT: true; the input reads as it did. -/
def fnExactCountTuplesSpec : ChangeSpec := { name := "fnExactCountTuples", fn := fun _ => fun
  | [d1, d2] => { results := [.lit (.bool true)], args := [d1, d2] }
  | _ => none }
def fnExactCountTuplesRow : OpenClaim := { program := "ytaebeglcoghehaa", sum := "3ece630469903333608628386b9a5d234cc21bbe43293d243598e869bc21b28e", func := "loop.example/g01168/laws.FnExactCountTuples", spec := "fnExactCountTuples", unfollowed := true, recurses := true, plainKeys := false, apart := false }
def FnExactCountTuplesSaid : Prop := fnExactCountTuplesRow.holds Try.pinned (OpenSpec.ofChange fnExactCountTuplesSpec)

/-- ITS FALSE NEIGHBOUR: 'it returns false'. Refute it at one input. -/
def fnExactCountTuplesWrong : ChangeSpec := { name := "fnExactCountTuples", fn := fun _ => fun
  | [d1, d2] => { results := [.lit (.bool false)], args := [d1, d2] }
  | _ => none }
def FnExactCountTuplesWrongFalsely : Prop := fnExactCountTuplesRow.holds Try.pinned (OpenSpec.ofChange fnExactCountTuplesWrong)

/-- 'laws.FnExactRelationOf': WHATEVER THE INPUT: true; the input reads as it did. -/
def fnExactRelationOfSpec : ChangeSpec := { name := "fnExactRelationOf", fn := fun _ => fun
  | [d1, d2] => { results := [.lit (.bool true)], args := [d1, d2] }
  | _ => none }
def fnExactRelationOfRow : OpenClaim := { program := "ytaebeglcoghehaa", sum := "3ece630469903333608628386b9a5d234cc21bbe43293d243598e869bc21b28e", func := "loop.example/g01168/laws.FnExactRelationOf", spec := "fnExactRelationOf", unfollowed := true, recurses := true, plainKeys := false, apart := false }
def FnExactRelationOfSaid : Prop := fnExactRelationOfRow.holds Try.pinned (OpenSpec.ofChange fnExactRelationOfSpec)

/-- ITS FALSE NEIGHBOUR: 'it returns false'. Refute it at one input. -/
def fnExactRelationOfWrong : ChangeSpec := { name := "fnExactRelationOf", fn := fun _ => fun
  | [d1, d2] => { results := [.lit (.bool false)], args := [d1, d2] }
  | _ => none }
def FnExactRelationOfWrongFalsely : Prop := fnExactRelationOfRow.holds Try.pinned (OpenSpec.ofChange fnExactRelationOfWrong)

/-- 'laws.FnExactNumberSet': WHATEVER THE INPUT: true; the input reads as it did. -/
def fnExactNumberSetSpec : ChangeSpec := { name := "fnExactNumberSet", fn := fun _ => fun
  | [d] => { results := [.lit (.bool true)], args := [d] }
  | _ => none }
def fnExactNumberSetRow : OpenClaim := { program := "ytaebeglcoghehaa", sum := "3ece630469903333608628386b9a5d234cc21bbe43293d243598e869bc21b28e", func := "loop.example/g01168/laws.FnExactNumberSet", spec := "fnExactNumberSet", unfollowed := true, recurses := true, plainKeys := false, apart := false }
def FnExactNumberSetSaid : Prop := fnExactNumberSetRow.holds Try.pinned (OpenSpec.ofChange fnExactNumberSetSpec)

/-- ITS FALSE NEIGHBOUR: 'it returns false'. Refute it at one input. -/
def fnExactNumberSetWrong : ChangeSpec := { name := "fnExactNumberSet", fn := fun _ => fun
  | [d] => { results := [.lit (.bool false)], args := [d] }
  | _ => none }
def FnExactNumberSetWrongFalsely : Prop := fnExactNumberSetRow.holds Try.pinned (OpenSpec.ofChange fnExactNumberSetWrong)

/-- 'laws.FnExactLeastNumber': WHATEVER THE INPUT: true; the input reads as it did. -/
def fnExactLeastNumberSpec : ChangeSpec := { name := "fnExactLeastNumber", fn := fun _ => fun
  | [d] => { results := [.lit (.bool true)], args := [d] }
  | _ => none }
def fnExactLeastNumberRow : OpenClaim := { program := "ytaebeglcoghehaa", sum := "3ece630469903333608628386b9a5d234cc21bbe43293d243598e869bc21b28e", func := "loop.example/g01168/laws.FnExactLeastNumber", spec := "fnExactLeastNumber", unfollowed := true, recurses := true, plainKeys := false, apart := false }
def FnExactLeastNumberSaid : Prop := fnExactLeastNumberRow.holds Try.pinned (OpenSpec.ofChange fnExactLeastNumberSpec)

/-- ITS FALSE NEIGHBOUR: 'it returns false'. Refute it at one input. -/
def fnExactLeastNumberWrong : ChangeSpec := { name := "fnExactLeastNumber", fn := fun _ => fun
  | [d] => { results := [.lit (.bool false)], args := [d] }
  | _ => none }
def FnExactLeastNumberWrongFalsely : Prop := fnExactLeastNumberRow.holds Try.pinned (OpenSpec.ofChange fnExactLeastNumberWrong)

/- THE SECOND FORM. 'bulk': how many values and letters a reading holds, each counted each time it is reached (what is shared counts as often as it is met; a slice's spare places count too). A statement '..UptoSaid' is the law's where the arguments, and the package variables that the reading takes, are together of bulk at most 1048576: NARROWER than '..Said'. Prove '..Said' where nothing that the law and all that it calls make is longer than what came in: it says more and counts as full. Else prove '..UptoSaid'. A law counts once. -/
mutual
def uptoBulk {H : Type} : DataW H → Nat
  | .lit (.string bytes) => bytes.length + 1
  | .lit _ => 1
  | .nil => 1
  | .ptr d => uptoBulk d + 1
  | .slice elems spare => uptoBulkAll elems + uptoBulkAll spare + 1
  | .agg parts => uptoBulkAll parts + 1
  | .iface _ d => uptoBulk d + 1
  | .map entries => uptoBulkEntries entries + 1
  | .held _ => 1
def uptoBulkAll {H : Type} : List (DataW H) → Nat
  | [] => 0
  | d :: r => uptoBulk d + uptoBulkAll r
def uptoBulkEntries {H : Type} : List (Lit × DataW H) → Nat
  | [] => 0
  | x :: r => uptoBulkEntry x + uptoBulkEntries r
def uptoBulkEntry {H : Type} : Lit × DataW H → Nat
  | (.string bytes, d) => bytes.length + uptoBulk d + 1
  | (_, d) => uptoBulk d + 1
 end
def uptoSmall : (H : Type) → List (DataW H) → Bool := fun _ ds => decide (uptoBulkAll ds ≤ 1048576)
def OpenSpec.upto (s : _root_.Go.ChangeSpec) : _root_.Go.OpenSpec := { _root_.Go.OpenSpec.ofChange s with cond := some uptoSmall }

/-- 'laws.FnExactIsNumberSet', WHERE WHAT IT READS IS OF BULK AT MOST 1048576: true; the input reads as it did. -/
def fnExactIsNumberSetUptoRow : OpenClaim := { program := "ytaebeglcoghehaa", sum := "3ece630469903333608628386b9a5d234cc21bbe43293d243598e869bc21b28e", func := "loop.example/g01168/laws.FnExactIsNumberSet", spec := "fnExactIsNumberSet", unfollowed := true, recurses := true, plainKeys := false, apart := false, narrowed := true }
def FnExactIsNumberSetUptoSaid : Prop := fnExactIsNumberSetUptoRow.holds Try.pinned (OpenSpec.upto fnExactIsNumberSetSpec)

/-- 'laws.FnExactCountBelow', WHERE WHAT IT READS IS OF BULK AT MOST 1048576: true; the input reads as it did. -/
def fnExactCountBelowUptoRow : OpenClaim := { program := "ytaebeglcoghehaa", sum := "3ece630469903333608628386b9a5d234cc21bbe43293d243598e869bc21b28e", func := "loop.example/g01168/laws.FnExactCountBelow", spec := "fnExactCountBelow", unfollowed := true, recurses := true, plainKeys := false, apart := false, narrowed := true }
def FnExactCountBelowUptoSaid : Prop := fnExactCountBelowUptoRow.holds Try.pinned (OpenSpec.upto fnExactCountBelowSpec)

/-- 'laws.FnExactCountTuples', WHERE WHAT IT READS IS OF BULK AT MOST 1048576: true; the input reads as it did. -/
def fnExactCountTuplesUptoRow : OpenClaim := { program := "ytaebeglcoghehaa", sum := "3ece630469903333608628386b9a5d234cc21bbe43293d243598e869bc21b28e", func := "loop.example/g01168/laws.FnExactCountTuples", spec := "fnExactCountTuples", unfollowed := true, recurses := true, plainKeys := false, apart := false, narrowed := true }
def FnExactCountTuplesUptoSaid : Prop := fnExactCountTuplesUptoRow.holds Try.pinned (OpenSpec.upto fnExactCountTuplesSpec)

/-- 'laws.FnExactRelationOf', WHERE WHAT IT READS IS OF BULK AT MOST 1048576: true; the input reads as it did. -/
def fnExactRelationOfUptoRow : OpenClaim := { program := "ytaebeglcoghehaa", sum := "3ece630469903333608628386b9a5d234cc21bbe43293d243598e869bc21b28e", func := "loop.example/g01168/laws.FnExactRelationOf", spec := "fnExactRelationOf", unfollowed := true, recurses := true, plainKeys := false, apart := false, narrowed := true }
def FnExactRelationOfUptoSaid : Prop := fnExactRelationOfUptoRow.holds Try.pinned (OpenSpec.upto fnExactRelationOfSpec)

/-- 'laws.FnExactNumberSet', WHERE WHAT IT READS IS OF BULK AT MOST 1048576: true; the input reads as it did. -/
def fnExactNumberSetUptoRow : OpenClaim := { program := "ytaebeglcoghehaa", sum := "3ece630469903333608628386b9a5d234cc21bbe43293d243598e869bc21b28e", func := "loop.example/g01168/laws.FnExactNumberSet", spec := "fnExactNumberSet", unfollowed := true, recurses := true, plainKeys := false, apart := false, narrowed := true }
def FnExactNumberSetUptoSaid : Prop := fnExactNumberSetUptoRow.holds Try.pinned (OpenSpec.upto fnExactNumberSetSpec)

/-- 'laws.FnExactLeastNumber', WHERE WHAT IT READS IS OF BULK AT MOST 1048576: true; the input reads as it did. -/
def fnExactLeastNumberUptoRow : OpenClaim := { program := "ytaebeglcoghehaa", sum := "3ece630469903333608628386b9a5d234cc21bbe43293d243598e869bc21b28e", func := "loop.example/g01168/laws.FnExactLeastNumber", spec := "fnExactLeastNumber", unfollowed := true, recurses := true, plainKeys := false, apart := false, narrowed := true }
def FnExactLeastNumberUptoSaid : Prop := fnExactLeastNumberUptoRow.holds Try.pinned (OpenSpec.upto fnExactLeastNumberSpec)

end Rows
end Go.Proofs.Ytaebeglcoghehaa
