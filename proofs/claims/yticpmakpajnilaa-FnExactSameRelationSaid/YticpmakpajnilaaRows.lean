/-
  No cell of these rows narrows 'for every input' (looked for: loops, veiled, ifaces, maps, wideKeys, modest, calm, conditions, laid).
  DERIVED. THE GIVEN ROWS OF THIS SEAT. 12 by the template 'for every input the law returns true; each argument reads behind the call as it read before'; 0 by the template 'total and deterministic' (their statements: YticpmakpajnilaaTotals.lean).
  GIVEN WITH THE SEED: the statements are not yours to turn. If you find one false, say at which input.
  Laid BY PROGRAM, IN A SANDBOX (cutbox-rows.mjs): the forced cells as the released guide's own fill.sh prints them over the translation 9dd888ffb6626644… (all of the seat's roots in one cut). By AI agents, Wed Nov 11 2026. No macro, syntax, notation, axiom, sorry.
-/
import Derived.Test.YticpmakpajnilaaChecked
import GoSem.Claim
import GoSem.ClaimJoined
import GoSem.ClaimMapViews
import Derived.JoinedTies
import Derived.KernelRfl
namespace Go.Proofs.Yticpmakpajnilaa
/- THE CELL 'sum', in the pinned program and in every row, IS THE sha256 OF THE DUMP (.gsa) THAT YticpmakpajnilaaProg.lean LOADS. Nothing in Lean hashes anything: it is a label: what it is worth is what the hold of that sum in a sandbox is worth. -/
noncomputable def Try.pinned : Pinned := { name := "yticpmakpajnilaa", sum := "9dd888ffb6626644082206bd3bb943f88e9cfc4dec6e8000d066f459a3d9d7ca", checked := Try.checked }
namespace Rows
def none {H : Type} : Left H := { results := [], args := [] }

/-- 'laws.FnExactCodeName': WHATEVER THE INPUT: true; the input reads as it did. -/
def fnExactCodeNameSpec : ChangeSpec := { name := "fnExactCodeName", fn := fun _ => fun
  | [d] => { results := [.lit (.bool true)], args := [d] }
  | _ => none }
def fnExactCodeNameRow : OpenClaim := { program := "yticpmakpajnilaa", sum := "9dd888ffb6626644082206bd3bb943f88e9cfc4dec6e8000d066f459a3d9d7ca", func := "loop.example/g01168/laws.FnExactCodeName", spec := "fnExactCodeName", plainKeys := false, apart := false }
def FnExactCodeNameSaid : Prop := fnExactCodeNameRow.holds Try.pinned (OpenSpec.ofChange fnExactCodeNameSpec)

/-- ITS FALSE NEIGHBOUR: 'it returns false'. Refute it at one input. -/
def fnExactCodeNameWrong : ChangeSpec := { name := "fnExactCodeName", fn := fun _ => fun
  | [d] => { results := [.lit (.bool false)], args := [d] }
  | _ => none }
def FnExactCodeNameWrongFalsely : Prop := fnExactCodeNameRow.holds Try.pinned (OpenSpec.ofChange fnExactCodeNameWrong)

/-- 'laws.FnExactValidWord': WHATEVER THE INPUT: true; the input reads as it did. -/
def fnExactValidWordSpec : ChangeSpec := { name := "fnExactValidWord", fn := fun _ => fun
  | [d] => { results := [.lit (.bool true)], args := [d] }
  | _ => none }
def fnExactValidWordRow : OpenClaim := { program := "yticpmakpajnilaa", sum := "9dd888ffb6626644082206bd3bb943f88e9cfc4dec6e8000d066f459a3d9d7ca", func := "loop.example/g01168/laws.FnExactValidWord", spec := "fnExactValidWord", plainKeys := false, apart := false }
def FnExactValidWordSaid : Prop := fnExactValidWordRow.holds Try.pinned (OpenSpec.ofChange fnExactValidWordSpec)

/-- ITS FALSE NEIGHBOUR: 'it returns false'. Refute it at one input. -/
def fnExactValidWordWrong : ChangeSpec := { name := "fnExactValidWord", fn := fun _ => fun
  | [d] => { results := [.lit (.bool false)], args := [d] }
  | _ => none }
def FnExactValidWordWrongFalsely : Prop := fnExactValidWordRow.holds Try.pinned (OpenSpec.ofChange fnExactValidWordWrong)

/-- 'laws.FnExactColumnText': WHATEVER THE INPUT: true; the input reads as it did. -/
def fnExactColumnTextSpec : ChangeSpec := { name := "fnExactColumnText", fn := fun _ => fun
  | [d1, d2] => { results := [.lit (.bool true)], args := [d1, d2] }
  | _ => none }
def fnExactColumnTextRow : OpenClaim := { program := "yticpmakpajnilaa", sum := "9dd888ffb6626644082206bd3bb943f88e9cfc4dec6e8000d066f459a3d9d7ca", func := "loop.example/g01168/laws.FnExactColumnText", spec := "fnExactColumnText", plainKeys := false, apart := false }
def FnExactColumnTextSaid : Prop := fnExactColumnTextRow.holds Try.pinned (OpenSpec.ofChange fnExactColumnTextSpec)

/-- ITS FALSE NEIGHBOUR: 'it returns false'. Refute it at one input. -/
def fnExactColumnTextWrong : ChangeSpec := { name := "fnExactColumnText", fn := fun _ => fun
  | [d1, d2] => { results := [.lit (.bool false)], args := [d1, d2] }
  | _ => none }
def FnExactColumnTextWrongFalsely : Prop := fnExactColumnTextRow.holds Try.pinned (OpenSpec.ofChange fnExactColumnTextWrong)

/-- 'laws.FnExactValidRelation': WHATEVER THE INPUT: true; the input reads as it did. -/
def fnExactValidRelationSpec : ChangeSpec := { name := "fnExactValidRelation", fn := fun _ => fun
  | [d] => { results := [.lit (.bool true)], args := [d] }
  | _ => none }
def fnExactValidRelationRow : OpenClaim := { program := "yticpmakpajnilaa", sum := "9dd888ffb6626644082206bd3bb943f88e9cfc4dec6e8000d066f459a3d9d7ca", func := "loop.example/g01168/laws.FnExactValidRelation", spec := "fnExactValidRelation", plainKeys := false, apart := false }
def FnExactValidRelationSaid : Prop := fnExactValidRelationRow.holds Try.pinned (OpenSpec.ofChange fnExactValidRelationSpec)

/-- ITS FALSE NEIGHBOUR: 'it returns false'. Refute it at one input. -/
def fnExactValidRelationWrong : ChangeSpec := { name := "fnExactValidRelation", fn := fun _ => fun
  | [d] => { results := [.lit (.bool false)], args := [d] }
  | _ => none }
def FnExactValidRelationWrongFalsely : Prop := fnExactValidRelationRow.holds Try.pinned (OpenSpec.ofChange fnExactValidRelationWrong)

/-- 'laws.FnExactSameRelation': WHATEVER THE INPUT: true; the input reads as it did. -/
def fnExactSameRelationSpec : ChangeSpec := { name := "fnExactSameRelation", fn := fun _ => fun
  | [d1, d2] => { results := [.lit (.bool true)], args := [d1, d2] }
  | _ => none }
def fnExactSameRelationRow : OpenClaim := { program := "yticpmakpajnilaa", sum := "9dd888ffb6626644082206bd3bb943f88e9cfc4dec6e8000d066f459a3d9d7ca", func := "loop.example/g01168/laws.FnExactSameRelation", spec := "fnExactSameRelation", unfollowed := true, recurses := true, plainKeys := false, apart := false }
def FnExactSameRelationSaid : Prop := fnExactSameRelationRow.holds Try.pinned (OpenSpec.ofChange fnExactSameRelationSpec)

/-- ITS FALSE NEIGHBOUR: 'it returns false'. Refute it at one input. -/
def fnExactSameRelationWrong : ChangeSpec := { name := "fnExactSameRelation", fn := fun _ => fun
  | [d1, d2] => { results := [.lit (.bool false)], args := [d1, d2] }
  | _ => none }
def FnExactSameRelationWrongFalsely : Prop := fnExactSameRelationRow.holds Try.pinned (OpenSpec.ofChange fnExactSameRelationWrong)

/-- 'laws.FnExactColumnsOf': WHATEVER THE INPUT: true; the input reads as it did. -/
def fnExactColumnsOfSpec : ChangeSpec := { name := "fnExactColumnsOf", fn := fun _ => fun
  | [d] => { results := [.lit (.bool true)], args := [d] }
  | _ => none }
def fnExactColumnsOfRow : OpenClaim := { program := "yticpmakpajnilaa", sum := "9dd888ffb6626644082206bd3bb943f88e9cfc4dec6e8000d066f459a3d9d7ca", func := "loop.example/g01168/laws.FnExactColumnsOf", spec := "fnExactColumnsOf", plainKeys := false, apart := false }
def FnExactColumnsOfSaid : Prop := fnExactColumnsOfRow.holds Try.pinned (OpenSpec.ofChange fnExactColumnsOfSpec)

/-- ITS FALSE NEIGHBOUR: 'it returns false'. Refute it at one input. -/
def fnExactColumnsOfWrong : ChangeSpec := { name := "fnExactColumnsOf", fn := fun _ => fun
  | [d] => { results := [.lit (.bool false)], args := [d] }
  | _ => none }
def FnExactColumnsOfWrongFalsely : Prop := fnExactColumnsOfRow.holds Try.pinned (OpenSpec.ofChange fnExactColumnsOfWrong)

/-- 'laws.FnExactHolds': WHATEVER THE INPUT: true; the input reads as it did. -/
def fnExactHoldsSpec : ChangeSpec := { name := "fnExactHolds", fn := fun _ => fun
  | [d1, d2] => { results := [.lit (.bool true)], args := [d1, d2] }
  | _ => none }
def fnExactHoldsRow : OpenClaim := { program := "yticpmakpajnilaa", sum := "9dd888ffb6626644082206bd3bb943f88e9cfc4dec6e8000d066f459a3d9d7ca", func := "loop.example/g01168/laws.FnExactHolds", spec := "fnExactHolds", plainKeys := false, apart := false }
def FnExactHoldsSaid : Prop := fnExactHoldsRow.holds Try.pinned (OpenSpec.ofChange fnExactHoldsSpec)

/-- ITS FALSE NEIGHBOUR: 'it returns false'. Refute it at one input. -/
def fnExactHoldsWrong : ChangeSpec := { name := "fnExactHolds", fn := fun _ => fun
  | [d1, d2] => { results := [.lit (.bool false)], args := [d1, d2] }
  | _ => none }
def FnExactHoldsWrongFalsely : Prop := fnExactHoldsRow.holds Try.pinned (OpenSpec.ofChange fnExactHoldsWrong)

/-- 'laws.FnExactWordsOf': WHATEVER THE INPUT: true; the input reads as it did. -/
def fnExactWordsOfSpec : ChangeSpec := { name := "fnExactWordsOf", fn := fun _ => fun
  | [d1, d2] => { results := [.lit (.bool true)], args := [d1, d2] }
  | _ => none }
def fnExactWordsOfRow : OpenClaim := { program := "yticpmakpajnilaa", sum := "9dd888ffb6626644082206bd3bb943f88e9cfc4dec6e8000d066f459a3d9d7ca", func := "loop.example/g01168/laws.FnExactWordsOf", spec := "fnExactWordsOf", plainKeys := false, apart := false }
def FnExactWordsOfSaid : Prop := fnExactWordsOfRow.holds Try.pinned (OpenSpec.ofChange fnExactWordsOfSpec)

/-- ITS FALSE NEIGHBOUR: 'it returns false'. Refute it at one input. -/
def fnExactWordsOfWrong : ChangeSpec := { name := "fnExactWordsOf", fn := fun _ => fun
  | [d1, d2] => { results := [.lit (.bool false)], args := [d1, d2] }
  | _ => none }
def FnExactWordsOfWrongFalsely : Prop := fnExactWordsOfRow.holds Try.pinned (OpenSpec.ofChange fnExactWordsOfWrong)

/-- 'laws.FnExactPropertyText': WHATEVER THE INPUT: true; the input reads as it did. -/
def fnExactPropertyTextSpec : ChangeSpec := { name := "fnExactPropertyText", fn := fun _ => fun
  | [d] => { results := [.lit (.bool true)], args := [d] }
  | _ => none }
def fnExactPropertyTextRow : OpenClaim := { program := "yticpmakpajnilaa", sum := "9dd888ffb6626644082206bd3bb943f88e9cfc4dec6e8000d066f459a3d9d7ca", func := "loop.example/g01168/laws.FnExactPropertyText", spec := "fnExactPropertyText", unfollowed := true, recurses := true, plainKeys := false, apart := false }
def FnExactPropertyTextSaid : Prop := fnExactPropertyTextRow.holds Try.pinned (OpenSpec.ofChange fnExactPropertyTextSpec)

/-- ITS FALSE NEIGHBOUR: 'it returns false'. Refute it at one input. -/
def fnExactPropertyTextWrong : ChangeSpec := { name := "fnExactPropertyText", fn := fun _ => fun
  | [d] => { results := [.lit (.bool false)], args := [d] }
  | _ => none }
def FnExactPropertyTextWrongFalsely : Prop := fnExactPropertyTextRow.holds Try.pinned (OpenSpec.ofChange fnExactPropertyTextWrong)

/-- 'laws.FnExactNumberWord': WHATEVER THE INPUT: true; the input reads as it did. -/
def fnExactNumberWordSpec : ChangeSpec := { name := "fnExactNumberWord", fn := fun _ => fun
  | [d] => { results := [.lit (.bool true)], args := [d] }
  | _ => none }
def fnExactNumberWordRow : OpenClaim := { program := "yticpmakpajnilaa", sum := "9dd888ffb6626644082206bd3bb943f88e9cfc4dec6e8000d066f459a3d9d7ca", func := "loop.example/g01168/laws.FnExactNumberWord", spec := "fnExactNumberWord", plainKeys := false, apart := false }
def FnExactNumberWordSaid : Prop := fnExactNumberWordRow.holds Try.pinned (OpenSpec.ofChange fnExactNumberWordSpec)

/-- ITS FALSE NEIGHBOUR: 'it returns false'. Refute it at one input. -/
def fnExactNumberWordWrong : ChangeSpec := { name := "fnExactNumberWord", fn := fun _ => fun
  | [d] => { results := [.lit (.bool false)], args := [d] }
  | _ => none }
def FnExactNumberWordWrongFalsely : Prop := fnExactNumberWordRow.holds Try.pinned (OpenSpec.ofChange fnExactNumberWordWrong)

/-- 'laws.FnExactWordNumber': WHATEVER THE INPUT: true; the input reads as it did. -/
def fnExactWordNumberSpec : ChangeSpec := { name := "fnExactWordNumber", fn := fun _ => fun
  | [d] => { results := [.lit (.bool true)], args := [d] }
  | _ => none }
def fnExactWordNumberRow : OpenClaim := { program := "yticpmakpajnilaa", sum := "9dd888ffb6626644082206bd3bb943f88e9cfc4dec6e8000d066f459a3d9d7ca", func := "loop.example/g01168/laws.FnExactWordNumber", spec := "fnExactWordNumber", plainKeys := false, apart := false }
def FnExactWordNumberSaid : Prop := fnExactWordNumberRow.holds Try.pinned (OpenSpec.ofChange fnExactWordNumberSpec)

/-- ITS FALSE NEIGHBOUR: 'it returns false'. Refute it at one input. -/
def fnExactWordNumberWrong : ChangeSpec := { name := "fnExactWordNumber", fn := fun _ => fun
  | [d] => { results := [.lit (.bool false)], args := [d] }
  | _ => none }
def FnExactWordNumberWrongFalsely : Prop := fnExactWordNumberRow.holds Try.pinned (OpenSpec.ofChange fnExactWordNumberWrong)

/-- 'laws.FnExactValidDeed': WHATEVER THE INPUT: true; the input reads as it did. -/
def fnExactValidDeedSpec : ChangeSpec := { name := "fnExactValidDeed", fn := fun _ => fun
  | [d] => { results := [.lit (.bool true)], args := [d] }
  | _ => none }
def fnExactValidDeedRow : OpenClaim := { program := "yticpmakpajnilaa", sum := "9dd888ffb6626644082206bd3bb943f88e9cfc4dec6e8000d066f459a3d9d7ca", func := "loop.example/g01168/laws.FnExactValidDeed", spec := "fnExactValidDeed", plainKeys := false, apart := false }
def FnExactValidDeedSaid : Prop := fnExactValidDeedRow.holds Try.pinned (OpenSpec.ofChange fnExactValidDeedSpec)

/-- ITS FALSE NEIGHBOUR: 'it returns false'. Refute it at one input. -/
def fnExactValidDeedWrong : ChangeSpec := { name := "fnExactValidDeed", fn := fun _ => fun
  | [d] => { results := [.lit (.bool false)], args := [d] }
  | _ => none }
def FnExactValidDeedWrongFalsely : Prop := fnExactValidDeedRow.holds Try.pinned (OpenSpec.ofChange fnExactValidDeedWrong)

/- THE SECOND FORM. 'bulk': how many values and letters a reading holds, each counted each time it is reached (what is shared counts as often as it is met; a slice's spare places count too). A statement '..UptoSaid' is the law's where the arguments, and the package variables that the reading takes, are together of bulk at most 1048576: NARROWER than '..Said'. Prove '..Said' where nothing that the law and all that it calls make is longer than what came in: it says more and counts as full. Else prove '..UptoSaid'. A law counts once. -/
mutual
def uptoBulk {H : Type} : DataW H → Nat
  | .lit (.string bytes) => bytes.length + 1
  | .lit _ => 1
  | .nil => 1
  | .ptr d => uptoBulk d + 1
  | .slice elems spare => uptoBulkAll elems + uptoBulkAll spare + 1
  | .agg parts => uptoBulkAll parts + 1
  | .iface _ d => uptoBulk d + 1
  | .map entries => uptoBulkEntries entries + 1
  | .held _ => 1
def uptoBulkAll {H : Type} : List (DataW H) → Nat
  | [] => 0
  | d :: r => uptoBulk d + uptoBulkAll r
def uptoBulkEntries {H : Type} : List (Lit × DataW H) → Nat
  | [] => 0
  | x :: r => uptoBulkEntry x + uptoBulkEntries r
def uptoBulkEntry {H : Type} : Lit × DataW H → Nat
  | (.string bytes, d) => bytes.length + uptoBulk d + 1
  | (_, d) => uptoBulk d + 1
 end
def uptoSmall : (H : Type) → List (DataW H) → Bool := fun _ ds => decide (uptoBulkAll ds ≤ 1048576)
def OpenSpec.upto (s : _root_.Go.ChangeSpec) : _root_.Go.OpenSpec := { _root_.Go.OpenSpec.ofChange s with cond := some uptoSmall }

/-- 'laws.FnExactCodeName', WHERE WHAT IT READS IS OF BULK AT MOST 1048576: true; the input reads as it did. -/
def fnExactCodeNameUptoRow : OpenClaim := { program := "yticpmakpajnilaa", sum := "9dd888ffb6626644082206bd3bb943f88e9cfc4dec6e8000d066f459a3d9d7ca", func := "loop.example/g01168/laws.FnExactCodeName", spec := "fnExactCodeName", plainKeys := false, apart := false, narrowed := true }
def FnExactCodeNameUptoSaid : Prop := fnExactCodeNameUptoRow.holds Try.pinned (OpenSpec.upto fnExactCodeNameSpec)

/-- 'laws.FnExactValidWord', WHERE WHAT IT READS IS OF BULK AT MOST 1048576: true; the input reads as it did. -/
def fnExactValidWordUptoRow : OpenClaim := { program := "yticpmakpajnilaa", sum := "9dd888ffb6626644082206bd3bb943f88e9cfc4dec6e8000d066f459a3d9d7ca", func := "loop.example/g01168/laws.FnExactValidWord", spec := "fnExactValidWord", plainKeys := false, apart := false, narrowed := true }
def FnExactValidWordUptoSaid : Prop := fnExactValidWordUptoRow.holds Try.pinned (OpenSpec.upto fnExactValidWordSpec)

/-- 'laws.FnExactColumnText', WHERE WHAT IT READS IS OF BULK AT MOST 1048576: true; the input reads as it did. -/
def fnExactColumnTextUptoRow : OpenClaim := { program := "yticpmakpajnilaa", sum := "9dd888ffb6626644082206bd3bb943f88e9cfc4dec6e8000d066f459a3d9d7ca", func := "loop.example/g01168/laws.FnExactColumnText", spec := "fnExactColumnText", plainKeys := false, apart := false, narrowed := true }
def FnExactColumnTextUptoSaid : Prop := fnExactColumnTextUptoRow.holds Try.pinned (OpenSpec.upto fnExactColumnTextSpec)

/-- 'laws.FnExactValidRelation', WHERE WHAT IT READS IS OF BULK AT MOST 1048576: true; the input reads as it did. -/
def fnExactValidRelationUptoRow : OpenClaim := { program := "yticpmakpajnilaa", sum := "9dd888ffb6626644082206bd3bb943f88e9cfc4dec6e8000d066f459a3d9d7ca", func := "loop.example/g01168/laws.FnExactValidRelation", spec := "fnExactValidRelation", plainKeys := false, apart := false, narrowed := true }
def FnExactValidRelationUptoSaid : Prop := fnExactValidRelationUptoRow.holds Try.pinned (OpenSpec.upto fnExactValidRelationSpec)

/-- 'laws.FnExactSameRelation', WHERE WHAT IT READS IS OF BULK AT MOST 1048576: true; the input reads as it did. -/
def fnExactSameRelationUptoRow : OpenClaim := { program := "yticpmakpajnilaa", sum := "9dd888ffb6626644082206bd3bb943f88e9cfc4dec6e8000d066f459a3d9d7ca", func := "loop.example/g01168/laws.FnExactSameRelation", spec := "fnExactSameRelation", unfollowed := true, recurses := true, plainKeys := false, apart := false, narrowed := true }
def FnExactSameRelationUptoSaid : Prop := fnExactSameRelationUptoRow.holds Try.pinned (OpenSpec.upto fnExactSameRelationSpec)

/-- 'laws.FnExactColumnsOf', WHERE WHAT IT READS IS OF BULK AT MOST 1048576: true; the input reads as it did. -/
def fnExactColumnsOfUptoRow : OpenClaim := { program := "yticpmakpajnilaa", sum := "9dd888ffb6626644082206bd3bb943f88e9cfc4dec6e8000d066f459a3d9d7ca", func := "loop.example/g01168/laws.FnExactColumnsOf", spec := "fnExactColumnsOf", plainKeys := false, apart := false, narrowed := true }
def FnExactColumnsOfUptoSaid : Prop := fnExactColumnsOfUptoRow.holds Try.pinned (OpenSpec.upto fnExactColumnsOfSpec)

/-- 'laws.FnExactHolds', WHERE WHAT IT READS IS OF BULK AT MOST 1048576: true; the input reads as it did. -/
def fnExactHoldsUptoRow : OpenClaim := { program := "yticpmakpajnilaa", sum := "9dd888ffb6626644082206bd3bb943f88e9cfc4dec6e8000d066f459a3d9d7ca", func := "loop.example/g01168/laws.FnExactHolds", spec := "fnExactHolds", plainKeys := false, apart := false, narrowed := true }
def FnExactHoldsUptoSaid : Prop := fnExactHoldsUptoRow.holds Try.pinned (OpenSpec.upto fnExactHoldsSpec)

/-- 'laws.FnExactWordsOf', WHERE WHAT IT READS IS OF BULK AT MOST 1048576: true; the input reads as it did. -/
def fnExactWordsOfUptoRow : OpenClaim := { program := "yticpmakpajnilaa", sum := "9dd888ffb6626644082206bd3bb943f88e9cfc4dec6e8000d066f459a3d9d7ca", func := "loop.example/g01168/laws.FnExactWordsOf", spec := "fnExactWordsOf", plainKeys := false, apart := false, narrowed := true }
def FnExactWordsOfUptoSaid : Prop := fnExactWordsOfUptoRow.holds Try.pinned (OpenSpec.upto fnExactWordsOfSpec)

/-- 'laws.FnExactPropertyText', WHERE WHAT IT READS IS OF BULK AT MOST 1048576: true; the input reads as it did. -/
def fnExactPropertyTextUptoRow : OpenClaim := { program := "yticpmakpajnilaa", sum := "9dd888ffb6626644082206bd3bb943f88e9cfc4dec6e8000d066f459a3d9d7ca", func := "loop.example/g01168/laws.FnExactPropertyText", spec := "fnExactPropertyText", unfollowed := true, recurses := true, plainKeys := false, apart := false, narrowed := true }
def FnExactPropertyTextUptoSaid : Prop := fnExactPropertyTextUptoRow.holds Try.pinned (OpenSpec.upto fnExactPropertyTextSpec)

/-- 'laws.FnExactNumberWord', WHERE WHAT IT READS IS OF BULK AT MOST 1048576: true; the input reads as it did. -/
def fnExactNumberWordUptoRow : OpenClaim := { program := "yticpmakpajnilaa", sum := "9dd888ffb6626644082206bd3bb943f88e9cfc4dec6e8000d066f459a3d9d7ca", func := "loop.example/g01168/laws.FnExactNumberWord", spec := "fnExactNumberWord", plainKeys := false, apart := false, narrowed := true }
def FnExactNumberWordUptoSaid : Prop := fnExactNumberWordUptoRow.holds Try.pinned (OpenSpec.upto fnExactNumberWordSpec)

/-- 'laws.FnExactWordNumber', WHERE WHAT IT READS IS OF BULK AT MOST 1048576: true; the input reads as it did. -/
def fnExactWordNumberUptoRow : OpenClaim := { program := "yticpmakpajnilaa", sum := "9dd888ffb6626644082206bd3bb943f88e9cfc4dec6e8000d066f459a3d9d7ca", func := "loop.example/g01168/laws.FnExactWordNumber", spec := "fnExactWordNumber", plainKeys := false, apart := false, narrowed := true }
def FnExactWordNumberUptoSaid : Prop := fnExactWordNumberUptoRow.holds Try.pinned (OpenSpec.upto fnExactWordNumberSpec)

/-- 'laws.FnExactValidDeed', WHERE WHAT IT READS IS OF BULK AT MOST 1048576: true; the input reads as it did. -/
def fnExactValidDeedUptoRow : OpenClaim := { program := "yticpmakpajnilaa", sum := "9dd888ffb6626644082206bd3bb943f88e9cfc4dec6e8000d066f459a3d9d7ca", func := "loop.example/g01168/laws.FnExactValidDeed", spec := "fnExactValidDeed", plainKeys := false, apart := false, narrowed := true }
def FnExactValidDeedUptoSaid : Prop := fnExactValidDeedUptoRow.holds Try.pinned (OpenSpec.upto fnExactValidDeedSpec)

end Rows
end Go.Proofs.Yticpmakpajnilaa
