/-
  NARROWER THAN 'FOR EVERY INPUT', by the rows' own cells (each row's printed sentence says how): FnExactOppositeRelation: laid · FnExactInverseRelation: laid · FnExactMoveTapes: laid · FnExactAddTape: laid · FnExactBothRelations: laid · FnExactEitherRelation: laid · FnExactWithoutRelation: laid.
  DERIVED. THE GIVEN ROWS OF THIS SEAT. 7 by the template 'for every input the law returns true; each argument reads behind the call as it read before'; 0 by the template 'total and deterministic' (their statements: YthebmpdkiocbmaaDoorTotals.lean).
  GIVEN WITH THE SEED: the statements are not yours to turn. If you find one false, say at which input.
  Laid BY PROGRAM, IN A SANDBOX (cutbox-rows.mjs): the forced cells as the released guide's own fill.sh prints them over the translation 66c6376dd36433e9… (all of the seat's roots in one cut). By AI agents, Wed Nov 11 2026. No macro, syntax, notation, axiom, sorry.
-/
import Derived.Test.YthebmpdkiocbmaaDoorChecked
import GoSem.Claim
import GoSem.ClaimJoined
import GoSem.ClaimMapViews
import Derived.JoinedTies
import Derived.KernelRfl
namespace Go.Proofs.YthebmpdkiocbmaaDoor
/- THE CELL 'sum', in the pinned program and in every row, IS THE sha256 OF THE DUMP (.gsa) THAT YthebmpdkiocbmaaDoorProg.lean LOADS. Nothing in Lean hashes anything: it is a label: what it is worth is what the hold of that sum in a sandbox is worth. -/
noncomputable def Tryd.pinned : Pinned := { name := "ythebmpdkiocbmaadoor", sum := "66c6376dd36433e9dc0266672a43eeeeae35097f36bfad431d4ccb7ae3b89a79", checked := Tryd.checked }
namespace Rows
def none {H : Type} : Left H := { results := [], args := [] }

/- WHAT THE LISTED PACKAGE-LEVEL VARIABLES READ AS WHEN THE CALL BEGINS. Each datum BY PROGRAM (the guide's laid-datum.mjs) off the statement by which the dump's own 'gosem.cut.vars' lays the variable. In a bare row this is a premise. The card (YthebmpdkiocbmaaDoorCards.lean) ties it to the program's text. -/
def laid_errors_errorType {H : Type} : DataW H := .iface "internal/reflectlite.rtype" (.agg [.ptr (.lit (.string [101, 114, 114, 111, 114]))])

/-- 'laws.FnExactOppositeRelation': WHATEVER THE INPUT: true; the input reads as it did. -/
def fnExactOppositeRelationSpec : ChangeSpec := { name := "fnExactOppositeRelation", fn := fun _ => fun
  | [d] => { results := [.lit (.bool true)], args := [d] }
  | _ => none }
def fnExactOppositeRelationRow : OpenClaim := { program := "ythebmpdkiocbmaadoor", sum := "66c6376dd36433e9dc0266672a43eeeeae35097f36bfad431d4ccb7ae3b89a79", func := "loop.example/g01168/laws.FnExactOppositeRelation", spec := "fnExactOppositeRelation", inPlace := ["internal/reflectlite.ValueOf", "(internal/reflectlite.Value).Type", "(internal/reflectlite.Value).IsNil", "internal/reflectlite.TypeOf", "(internal/reflectlite.Value).Elem", "(internal/reflectlite.Value).Set"], unfollowed := true, recurses := true, named := ["errors.errorType"], plainKeys := false, apart := false, laid := [("errors.errorType", laid_errors_errorType)] }
def FnExactOppositeRelationSaid : Prop := fnExactOppositeRelationRow.holds Tryd.pinned (OpenSpec.ofChange fnExactOppositeRelationSpec)

/-- ITS FALSE NEIGHBOUR: 'it returns false'. Refute it at one input. -/
def fnExactOppositeRelationWrong : ChangeSpec := { name := "fnExactOppositeRelation", fn := fun _ => fun
  | [d] => { results := [.lit (.bool false)], args := [d] }
  | _ => none }
def FnExactOppositeRelationWrongFalsely : Prop := fnExactOppositeRelationRow.holds Tryd.pinned (OpenSpec.ofChange fnExactOppositeRelationWrong)

/-- 'laws.FnExactInverseRelation': WHATEVER THE INPUT: true; the input reads as it did. -/
def fnExactInverseRelationSpec : ChangeSpec := { name := "fnExactInverseRelation", fn := fun _ => fun
  | [d] => { results := [.lit (.bool true)], args := [d] }
  | _ => none }
def fnExactInverseRelationRow : OpenClaim := { program := "ythebmpdkiocbmaadoor", sum := "66c6376dd36433e9dc0266672a43eeeeae35097f36bfad431d4ccb7ae3b89a79", func := "loop.example/g01168/laws.FnExactInverseRelation", spec := "fnExactInverseRelation", inPlace := ["internal/reflectlite.ValueOf", "(internal/reflectlite.Value).Type", "(internal/reflectlite.Value).IsNil", "internal/reflectlite.TypeOf", "(internal/reflectlite.Value).Elem", "(internal/reflectlite.Value).Set"], unfollowed := true, recurses := true, named := ["errors.errorType"], plainKeys := false, apart := false, laid := [("errors.errorType", laid_errors_errorType)] }
def FnExactInverseRelationSaid : Prop := fnExactInverseRelationRow.holds Tryd.pinned (OpenSpec.ofChange fnExactInverseRelationSpec)

/-- ITS FALSE NEIGHBOUR: 'it returns false'. Refute it at one input. -/
def fnExactInverseRelationWrong : ChangeSpec := { name := "fnExactInverseRelation", fn := fun _ => fun
  | [d] => { results := [.lit (.bool false)], args := [d] }
  | _ => none }
def FnExactInverseRelationWrongFalsely : Prop := fnExactInverseRelationRow.holds Tryd.pinned (OpenSpec.ofChange fnExactInverseRelationWrong)

/-- 'laws.FnExactMoveTapes': WHATEVER THE INPUT: true; the input reads as it did. -/
def fnExactMoveTapesSpec : ChangeSpec := { name := "fnExactMoveTapes", fn := fun _ => fun
  | [d1, d2] => { results := [.lit (.bool true)], args := [d1, d2] }
  | _ => none }
def fnExactMoveTapesRow : OpenClaim := { program := "ythebmpdkiocbmaadoor", sum := "66c6376dd36433e9dc0266672a43eeeeae35097f36bfad431d4ccb7ae3b89a79", func := "loop.example/g01168/laws.FnExactMoveTapes", spec := "fnExactMoveTapes", inPlace := ["internal/reflectlite.ValueOf", "(internal/reflectlite.Value).Type", "(internal/reflectlite.Value).IsNil", "internal/reflectlite.TypeOf", "(internal/reflectlite.Value).Elem", "(internal/reflectlite.Value).Set"], unfollowed := true, recurses := true, named := ["errors.errorType"], plainKeys := false, apart := false, laid := [("errors.errorType", laid_errors_errorType)] }
def FnExactMoveTapesSaid : Prop := fnExactMoveTapesRow.holds Tryd.pinned (OpenSpec.ofChange fnExactMoveTapesSpec)

/-- ITS FALSE NEIGHBOUR: 'it returns false'. Refute it at one input. -/
def fnExactMoveTapesWrong : ChangeSpec := { name := "fnExactMoveTapes", fn := fun _ => fun
  | [d1, d2] => { results := [.lit (.bool false)], args := [d1, d2] }
  | _ => none }
def FnExactMoveTapesWrongFalsely : Prop := fnExactMoveTapesRow.holds Tryd.pinned (OpenSpec.ofChange fnExactMoveTapesWrong)

/-- 'laws.FnExactAddTape': WHATEVER THE INPUT: true; the input reads as it did. -/
def fnExactAddTapeSpec : ChangeSpec := { name := "fnExactAddTape", fn := fun _ => fun
  | [d1, d2] => { results := [.lit (.bool true)], args := [d1, d2] }
  | _ => none }
def fnExactAddTapeRow : OpenClaim := { program := "ythebmpdkiocbmaadoor", sum := "66c6376dd36433e9dc0266672a43eeeeae35097f36bfad431d4ccb7ae3b89a79", func := "loop.example/g01168/laws.FnExactAddTape", spec := "fnExactAddTape", inPlace := ["internal/reflectlite.ValueOf", "(internal/reflectlite.Value).Type", "(internal/reflectlite.Value).IsNil", "internal/reflectlite.TypeOf", "(internal/reflectlite.Value).Elem", "(internal/reflectlite.Value).Set"], unfollowed := true, recurses := true, named := ["errors.errorType"], plainKeys := false, apart := false, laid := [("errors.errorType", laid_errors_errorType)] }
def FnExactAddTapeSaid : Prop := fnExactAddTapeRow.holds Tryd.pinned (OpenSpec.ofChange fnExactAddTapeSpec)

/-- ITS FALSE NEIGHBOUR: 'it returns false'. Refute it at one input. -/
def fnExactAddTapeWrong : ChangeSpec := { name := "fnExactAddTape", fn := fun _ => fun
  | [d1, d2] => { results := [.lit (.bool false)], args := [d1, d2] }
  | _ => none }
def FnExactAddTapeWrongFalsely : Prop := fnExactAddTapeRow.holds Tryd.pinned (OpenSpec.ofChange fnExactAddTapeWrong)

/-- 'laws.FnExactBothRelations': WHATEVER THE INPUT: true; the input reads as it did. -/
def fnExactBothRelationsSpec : ChangeSpec := { name := "fnExactBothRelations", fn := fun _ => fun
  | [d1, d2] => { results := [.lit (.bool true)], args := [d1, d2] }
  | _ => none }
def fnExactBothRelationsRow : OpenClaim := { program := "ythebmpdkiocbmaadoor", sum := "66c6376dd36433e9dc0266672a43eeeeae35097f36bfad431d4ccb7ae3b89a79", func := "loop.example/g01168/laws.FnExactBothRelations", spec := "fnExactBothRelations", inPlace := ["internal/reflectlite.ValueOf", "(internal/reflectlite.Value).Type", "(internal/reflectlite.Value).IsNil", "internal/reflectlite.TypeOf", "(internal/reflectlite.Value).Elem", "(internal/reflectlite.Value).Set"], unfollowed := true, recurses := true, named := ["errors.errorType"], plainKeys := false, apart := false, laid := [("errors.errorType", laid_errors_errorType)] }
def FnExactBothRelationsSaid : Prop := fnExactBothRelationsRow.holds Tryd.pinned (OpenSpec.ofChange fnExactBothRelationsSpec)

/-- ITS FALSE NEIGHBOUR: 'it returns false'. Refute it at one input. -/
def fnExactBothRelationsWrong : ChangeSpec := { name := "fnExactBothRelations", fn := fun _ => fun
  | [d1, d2] => { results := [.lit (.bool false)], args := [d1, d2] }
  | _ => none }
def FnExactBothRelationsWrongFalsely : Prop := fnExactBothRelationsRow.holds Tryd.pinned (OpenSpec.ofChange fnExactBothRelationsWrong)

/-- 'laws.FnExactEitherRelation': WHATEVER THE INPUT: true; the input reads as it did. -/
def fnExactEitherRelationSpec : ChangeSpec := { name := "fnExactEitherRelation", fn := fun _ => fun
  | [d1, d2] => { results := [.lit (.bool true)], args := [d1, d2] }
  | _ => none }
def fnExactEitherRelationRow : OpenClaim := { program := "ythebmpdkiocbmaadoor", sum := "66c6376dd36433e9dc0266672a43eeeeae35097f36bfad431d4ccb7ae3b89a79", func := "loop.example/g01168/laws.FnExactEitherRelation", spec := "fnExactEitherRelation", inPlace := ["internal/reflectlite.ValueOf", "(internal/reflectlite.Value).Type", "(internal/reflectlite.Value).IsNil", "internal/reflectlite.TypeOf", "(internal/reflectlite.Value).Elem", "(internal/reflectlite.Value).Set"], unfollowed := true, recurses := true, named := ["errors.errorType"], plainKeys := false, apart := false, laid := [("errors.errorType", laid_errors_errorType)] }
def FnExactEitherRelationSaid : Prop := fnExactEitherRelationRow.holds Tryd.pinned (OpenSpec.ofChange fnExactEitherRelationSpec)

/-- ITS FALSE NEIGHBOUR: 'it returns false'. Refute it at one input. -/
def fnExactEitherRelationWrong : ChangeSpec := { name := "fnExactEitherRelation", fn := fun _ => fun
  | [d1, d2] => { results := [.lit (.bool false)], args := [d1, d2] }
  | _ => none }
def FnExactEitherRelationWrongFalsely : Prop := fnExactEitherRelationRow.holds Tryd.pinned (OpenSpec.ofChange fnExactEitherRelationWrong)

/-- 'laws.FnExactWithoutRelation': WHATEVER THE INPUT: true; the input reads as it did. -/
def fnExactWithoutRelationSpec : ChangeSpec := { name := "fnExactWithoutRelation", fn := fun _ => fun
  | [d1, d2] => { results := [.lit (.bool true)], args := [d1, d2] }
  | _ => none }
def fnExactWithoutRelationRow : OpenClaim := { program := "ythebmpdkiocbmaadoor", sum := "66c6376dd36433e9dc0266672a43eeeeae35097f36bfad431d4ccb7ae3b89a79", func := "loop.example/g01168/laws.FnExactWithoutRelation", spec := "fnExactWithoutRelation", inPlace := ["internal/reflectlite.ValueOf", "(internal/reflectlite.Value).Type", "(internal/reflectlite.Value).IsNil", "internal/reflectlite.TypeOf", "(internal/reflectlite.Value).Elem", "(internal/reflectlite.Value).Set"], unfollowed := true, recurses := true, named := ["errors.errorType"], plainKeys := false, apart := false, laid := [("errors.errorType", laid_errors_errorType)] }
def FnExactWithoutRelationSaid : Prop := fnExactWithoutRelationRow.holds Tryd.pinned (OpenSpec.ofChange fnExactWithoutRelationSpec)

/-- ITS FALSE NEIGHBOUR: 'it returns false'. Refute it at one input. -/
def fnExactWithoutRelationWrong : ChangeSpec := { name := "fnExactWithoutRelation", fn := fun _ => fun
  | [d1, d2] => { results := [.lit (.bool false)], args := [d1, d2] }
  | _ => none }
def FnExactWithoutRelationWrongFalsely : Prop := fnExactWithoutRelationRow.holds Tryd.pinned (OpenSpec.ofChange fnExactWithoutRelationWrong)

/- THE SECOND FORM. 'bulk': how many values and letters a reading holds, each counted each time it is reached (what is shared counts as often as it is met; a slice's spare places count too). A statement '..UptoSaid' is the law's where the arguments, and the package variables that the reading takes, are together of bulk at most 1048576: NARROWER than '..Said'. Prove '..Said' where nothing that the law and all that it calls make is longer than what came in: it says more and counts as full. Else prove '..UptoSaid'. A law counts once. -/
mutual
def uptoBulk {H : Type} : DataW H → Nat
  | .lit (.string bytes) => bytes.length + 1
  | .lit _ => 1
  | .nil => 1
  | .ptr d => uptoBulk d + 1
  | .slice elems spare => uptoBulkAll elems + uptoBulkAll spare + 1
  | .agg parts => uptoBulkAll parts + 1
  | .iface _ d => uptoBulk d + 1
  | .map entries => uptoBulkEntries entries + 1
  | .held _ => 1
def uptoBulkAll {H : Type} : List (DataW H) → Nat
  | [] => 0
  | d :: r => uptoBulk d + uptoBulkAll r
def uptoBulkEntries {H : Type} : List (Lit × DataW H) → Nat
  | [] => 0
  | x :: r => uptoBulkEntry x + uptoBulkEntries r
def uptoBulkEntry {H : Type} : Lit × DataW H → Nat
  | (.string bytes, d) => bytes.length + uptoBulk d + 1
  | (_, d) => uptoBulk d + 1
 end
def uptoSmall : (H : Type) → List (DataW H) → Bool := fun _ ds => decide (uptoBulkAll ds ≤ 1048576)
def OpenSpec.upto (s : _root_.Go.ChangeSpec) : _root_.Go.OpenSpec := { _root_.Go.OpenSpec.ofChange s with cond := some uptoSmall }

/-- 'laws.FnExactOppositeRelation', WHERE WHAT IT READS IS OF BULK AT MOST 1048576: true; the input reads as it did. -/
def fnExactOppositeRelationUptoRow : OpenClaim := { program := "ythebmpdkiocbmaadoor", sum := "66c6376dd36433e9dc0266672a43eeeeae35097f36bfad431d4ccb7ae3b89a79", func := "loop.example/g01168/laws.FnExactOppositeRelation", spec := "fnExactOppositeRelation", inPlace := ["internal/reflectlite.ValueOf", "(internal/reflectlite.Value).Type", "(internal/reflectlite.Value).IsNil", "internal/reflectlite.TypeOf", "(internal/reflectlite.Value).Elem", "(internal/reflectlite.Value).Set"], unfollowed := true, recurses := true, named := ["errors.errorType"], plainKeys := false, apart := false, laid := [("errors.errorType", laid_errors_errorType)], narrowed := true }
def FnExactOppositeRelationUptoSaid : Prop := fnExactOppositeRelationUptoRow.holds Tryd.pinned (OpenSpec.upto fnExactOppositeRelationSpec)

/-- 'laws.FnExactInverseRelation', WHERE WHAT IT READS IS OF BULK AT MOST 1048576: true; the input reads as it did. -/
def fnExactInverseRelationUptoRow : OpenClaim := { program := "ythebmpdkiocbmaadoor", sum := "66c6376dd36433e9dc0266672a43eeeeae35097f36bfad431d4ccb7ae3b89a79", func := "loop.example/g01168/laws.FnExactInverseRelation", spec := "fnExactInverseRelation", inPlace := ["internal/reflectlite.ValueOf", "(internal/reflectlite.Value).Type", "(internal/reflectlite.Value).IsNil", "internal/reflectlite.TypeOf", "(internal/reflectlite.Value).Elem", "(internal/reflectlite.Value).Set"], unfollowed := true, recurses := true, named := ["errors.errorType"], plainKeys := false, apart := false, laid := [("errors.errorType", laid_errors_errorType)], narrowed := true }
def FnExactInverseRelationUptoSaid : Prop := fnExactInverseRelationUptoRow.holds Tryd.pinned (OpenSpec.upto fnExactInverseRelationSpec)

/-- 'laws.FnExactMoveTapes', WHERE WHAT IT READS IS OF BULK AT MOST 1048576: true; the input reads as it did. -/
def fnExactMoveTapesUptoRow : OpenClaim := { program := "ythebmpdkiocbmaadoor", sum := "66c6376dd36433e9dc0266672a43eeeeae35097f36bfad431d4ccb7ae3b89a79", func := "loop.example/g01168/laws.FnExactMoveTapes", spec := "fnExactMoveTapes", inPlace := ["internal/reflectlite.ValueOf", "(internal/reflectlite.Value).Type", "(internal/reflectlite.Value).IsNil", "internal/reflectlite.TypeOf", "(internal/reflectlite.Value).Elem", "(internal/reflectlite.Value).Set"], unfollowed := true, recurses := true, named := ["errors.errorType"], plainKeys := false, apart := false, laid := [("errors.errorType", laid_errors_errorType)], narrowed := true }
def FnExactMoveTapesUptoSaid : Prop := fnExactMoveTapesUptoRow.holds Tryd.pinned (OpenSpec.upto fnExactMoveTapesSpec)

/-- 'laws.FnExactAddTape', WHERE WHAT IT READS IS OF BULK AT MOST 1048576: true; the input reads as it did. -/
def fnExactAddTapeUptoRow : OpenClaim := { program := "ythebmpdkiocbmaadoor", sum := "66c6376dd36433e9dc0266672a43eeeeae35097f36bfad431d4ccb7ae3b89a79", func := "loop.example/g01168/laws.FnExactAddTape", spec := "fnExactAddTape", inPlace := ["internal/reflectlite.ValueOf", "(internal/reflectlite.Value).Type", "(internal/reflectlite.Value).IsNil", "internal/reflectlite.TypeOf", "(internal/reflectlite.Value).Elem", "(internal/reflectlite.Value).Set"], unfollowed := true, recurses := true, named := ["errors.errorType"], plainKeys := false, apart := false, laid := [("errors.errorType", laid_errors_errorType)], narrowed := true }
def FnExactAddTapeUptoSaid : Prop := fnExactAddTapeUptoRow.holds Tryd.pinned (OpenSpec.upto fnExactAddTapeSpec)

/-- 'laws.FnExactBothRelations', WHERE WHAT IT READS IS OF BULK AT MOST 1048576: true; the input reads as it did. -/
def fnExactBothRelationsUptoRow : OpenClaim := { program := "ythebmpdkiocbmaadoor", sum := "66c6376dd36433e9dc0266672a43eeeeae35097f36bfad431d4ccb7ae3b89a79", func := "loop.example/g01168/laws.FnExactBothRelations", spec := "fnExactBothRelations", inPlace := ["internal/reflectlite.ValueOf", "(internal/reflectlite.Value).Type", "(internal/reflectlite.Value).IsNil", "internal/reflectlite.TypeOf", "(internal/reflectlite.Value).Elem", "(internal/reflectlite.Value).Set"], unfollowed := true, recurses := true, named := ["errors.errorType"], plainKeys := false, apart := false, laid := [("errors.errorType", laid_errors_errorType)], narrowed := true }
def FnExactBothRelationsUptoSaid : Prop := fnExactBothRelationsUptoRow.holds Tryd.pinned (OpenSpec.upto fnExactBothRelationsSpec)

/-- 'laws.FnExactEitherRelation', WHERE WHAT IT READS IS OF BULK AT MOST 1048576: true; the input reads as it did. -/
def fnExactEitherRelationUptoRow : OpenClaim := { program := "ythebmpdkiocbmaadoor", sum := "66c6376dd36433e9dc0266672a43eeeeae35097f36bfad431d4ccb7ae3b89a79", func := "loop.example/g01168/laws.FnExactEitherRelation", spec := "fnExactEitherRelation", inPlace := ["internal/reflectlite.ValueOf", "(internal/reflectlite.Value).Type", "(internal/reflectlite.Value).IsNil", "internal/reflectlite.TypeOf", "(internal/reflectlite.Value).Elem", "(internal/reflectlite.Value).Set"], unfollowed := true, recurses := true, named := ["errors.errorType"], plainKeys := false, apart := false, laid := [("errors.errorType", laid_errors_errorType)], narrowed := true }
def FnExactEitherRelationUptoSaid : Prop := fnExactEitherRelationUptoRow.holds Tryd.pinned (OpenSpec.upto fnExactEitherRelationSpec)

/-- 'laws.FnExactWithoutRelation', WHERE WHAT IT READS IS OF BULK AT MOST 1048576: true; the input reads as it did. -/
def fnExactWithoutRelationUptoRow : OpenClaim := { program := "ythebmpdkiocbmaadoor", sum := "66c6376dd36433e9dc0266672a43eeeeae35097f36bfad431d4ccb7ae3b89a79", func := "loop.example/g01168/laws.FnExactWithoutRelation", spec := "fnExactWithoutRelation", inPlace := ["internal/reflectlite.ValueOf", "(internal/reflectlite.Value).Type", "(internal/reflectlite.Value).IsNil", "internal/reflectlite.TypeOf", "(internal/reflectlite.Value).Elem", "(internal/reflectlite.Value).Set"], unfollowed := true, recurses := true, named := ["errors.errorType"], plainKeys := false, apart := false, laid := [("errors.errorType", laid_errors_errorType)], narrowed := true }
def FnExactWithoutRelationUptoSaid : Prop := fnExactWithoutRelationUptoRow.holds Tryd.pinned (OpenSpec.upto fnExactWithoutRelationSpec)

end Rows
end Go.Proofs.YthebmpdkiocbmaaDoor
