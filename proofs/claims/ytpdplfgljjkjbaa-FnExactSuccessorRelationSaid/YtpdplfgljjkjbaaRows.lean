/-
  No cell of these rows narrows 'for every input' (looked for: loops, veiled, ifaces, maps, wideKeys, modest, calm, conditions, laid).
  DERIVED. THE GIVEN ROWS OF THIS SEAT. 8 by the template 'for every input the law returns true; each argument reads behind the call as it read before'; 0 by the template 'total and deterministic' (their statements: YtpdplfgljjkjbaaTotals.lean).
  GIVEN WITH THE SEED: the statements are not yours to turn. If you find one false, say at which input.
  Laid BY PROGRAM, IN A SANDBOX (cutbox-rows.mjs): the forced cells as the released guide's own fill.sh prints them over the translation f99c4ef3941ef6c8… (all of the seat's roots in one cut). By AI agents, Wed Nov 11 2026. No macro, syntax, notation, axiom, sorry.
-/
import Derived.Test.YtpdplfgljjkjbaaChecked
import GoSem.Claim
import GoSem.ClaimJoined
import GoSem.ClaimMapViews
import Derived.JoinedTies
import Derived.KernelRfl
namespace Go.Proofs.Ytpdplfgljjkjbaa
/- THE CELL 'sum', in the pinned program and in every row, IS THE sha256 OF THE DUMP (.gsa) THAT YtpdplfgljjkjbaaProg.lean LOADS. Nothing in Lean hashes anything: it is a label: what it is worth is what the hold of that sum in a sandbox is worth. -/
noncomputable def Try.pinned : Pinned := { name := "ytpdplfgljjkjbaa", sum := "f99c4ef3941ef6c8538ad52d83fce6f3a54871f3d7cad4baeeb6c25e466dc1e2", checked := Try.checked }
namespace Rows
def none {H : Type} : Left H := { results := [], args := [] }

/-- 'laws.FnExactTidyRelation': WHATEVER THE INPUT: true; the input reads as it did. -/
def fnExactTidyRelationSpec : ChangeSpec := { name := "fnExactTidyRelation", fn := fun _ => fun
  | [d] => { results := [.lit (.bool true)], args := [d] }
  | _ => none }
def fnExactTidyRelationRow : OpenClaim := { program := "ytpdplfgljjkjbaa", sum := "f99c4ef3941ef6c8538ad52d83fce6f3a54871f3d7cad4baeeb6c25e466dc1e2", func := "loop.example/g01168/laws.FnExactTidyRelation", spec := "fnExactTidyRelation", unfollowed := true, recurses := true, plainKeys := false, apart := false }
def FnExactTidyRelationSaid : Prop := fnExactTidyRelationRow.holds Try.pinned (OpenSpec.ofChange fnExactTidyRelationSpec)

/-- ITS FALSE NEIGHBOUR: 'it returns false'. Refute it at one input. -/
def fnExactTidyRelationWrong : ChangeSpec := { name := "fnExactTidyRelation", fn := fun _ => fun
  | [d] => { results := [.lit (.bool false)], args := [d] }
  | _ => none }
def FnExactTidyRelationWrongFalsely : Prop := fnExactTidyRelationRow.holds Try.pinned (OpenSpec.ofChange fnExactTidyRelationWrong)

/-- 'laws.FnExactEqualWords': WHATEVER THE INPUT: true; the input reads as it did. -/
def fnExactEqualWordsSpec : ChangeSpec := { name := "fnExactEqualWords", fn := fun _ => fun
  | [] => { results := [.lit (.bool true)], args := [] }
  | _ => none }
def fnExactEqualWordsRow : OpenClaim := { program := "ytpdplfgljjkjbaa", sum := "f99c4ef3941ef6c8538ad52d83fce6f3a54871f3d7cad4baeeb6c25e466dc1e2", func := "loop.example/g01168/laws.FnExactEqualWords", spec := "fnExactEqualWords", unfollowed := true, recurses := true, plainKeys := false, apart := false }
def FnExactEqualWordsSaid : Prop := fnExactEqualWordsRow.holds Try.pinned (OpenSpec.ofChange fnExactEqualWordsSpec)

/-- ITS FALSE NEIGHBOUR: 'it returns false'. Refute it at one input. -/
def fnExactEqualWordsWrong : ChangeSpec := { name := "fnExactEqualWords", fn := fun _ => fun
  | [] => { results := [.lit (.bool false)], args := [] }
  | _ => none }
def FnExactEqualWordsWrongFalsely : Prop := fnExactEqualWordsRow.holds Try.pinned (OpenSpec.ofChange fnExactEqualWordsWrong)

/-- 'laws.FnExactIsPrefixRelation': WHATEVER THE INPUT: true; the input reads as it did. -/
def fnExactIsPrefixRelationSpec : ChangeSpec := { name := "fnExactIsPrefixRelation", fn := fun _ => fun
  | [] => { results := [.lit (.bool true)], args := [] }
  | _ => none }
def fnExactIsPrefixRelationRow : OpenClaim := { program := "ytpdplfgljjkjbaa", sum := "f99c4ef3941ef6c8538ad52d83fce6f3a54871f3d7cad4baeeb6c25e466dc1e2", func := "loop.example/g01168/laws.FnExactIsPrefixRelation", spec := "fnExactIsPrefixRelation", unfollowed := true, recurses := true, plainKeys := false, apart := false }
def FnExactIsPrefixRelationSaid : Prop := fnExactIsPrefixRelationRow.holds Try.pinned (OpenSpec.ofChange fnExactIsPrefixRelationSpec)

/-- ITS FALSE NEIGHBOUR: 'it returns false'. Refute it at one input. -/
def fnExactIsPrefixRelationWrong : ChangeSpec := { name := "fnExactIsPrefixRelation", fn := fun _ => fun
  | [] => { results := [.lit (.bool false)], args := [] }
  | _ => none }
def FnExactIsPrefixRelationWrongFalsely : Prop := fnExactIsPrefixRelationRow.holds Try.pinned (OpenSpec.ofChange fnExactIsPrefixRelationWrong)

/-- 'laws.FnExactOrderRelation': WHATEVER THE INPUT: true; the input reads as it did. -/
def fnExactOrderRelationSpec : ChangeSpec := { name := "fnExactOrderRelation", fn := fun _ => fun
  | [] => { results := [.lit (.bool true)], args := [] }
  | _ => none }
def fnExactOrderRelationRow : OpenClaim := { program := "ytpdplfgljjkjbaa", sum := "f99c4ef3941ef6c8538ad52d83fce6f3a54871f3d7cad4baeeb6c25e466dc1e2", func := "loop.example/g01168/laws.FnExactOrderRelation", spec := "fnExactOrderRelation", unfollowed := true, recurses := true, plainKeys := false, apart := false }
def FnExactOrderRelationSaid : Prop := fnExactOrderRelationRow.holds Try.pinned (OpenSpec.ofChange fnExactOrderRelationSpec)

/-- ITS FALSE NEIGHBOUR: 'it returns false'. Refute it at one input. -/
def fnExactOrderRelationWrong : ChangeSpec := { name := "fnExactOrderRelation", fn := fun _ => fun
  | [] => { results := [.lit (.bool false)], args := [] }
  | _ => none }
def FnExactOrderRelationWrongFalsely : Prop := fnExactOrderRelationRow.holds Try.pinned (OpenSpec.ofChange fnExactOrderRelationWrong)

/-- 'laws.FnExactSuccessorRelation': WHATEVER THE INPUT: true; the input reads as it did. -/
def fnExactSuccessorRelationSpec : ChangeSpec := { name := "fnExactSuccessorRelation", fn := fun _ => fun
  | [] => { results := [.lit (.bool true)], args := [] }
  | _ => none }
def fnExactSuccessorRelationRow : OpenClaim := { program := "ytpdplfgljjkjbaa", sum := "f99c4ef3941ef6c8538ad52d83fce6f3a54871f3d7cad4baeeb6c25e466dc1e2", func := "loop.example/g01168/laws.FnExactSuccessorRelation", spec := "fnExactSuccessorRelation", unfollowed := true, recurses := true, plainKeys := false, apart := false }
def FnExactSuccessorRelationSaid : Prop := fnExactSuccessorRelationRow.holds Try.pinned (OpenSpec.ofChange fnExactSuccessorRelationSpec)

/-- ITS FALSE NEIGHBOUR: 'it returns false'. Refute it at one input. -/
def fnExactSuccessorRelationWrong : ChangeSpec := { name := "fnExactSuccessorRelation", fn := fun _ => fun
  | [] => { results := [.lit (.bool false)], args := [] }
  | _ => none }
def FnExactSuccessorRelationWrongFalsely : Prop := fnExactSuccessorRelationRow.holds Try.pinned (OpenSpec.ofChange fnExactSuccessorRelationWrong)

/-- 'laws.FnExactLengthRelation': WHATEVER THE INPUT: true; the input reads as it did. -/
def fnExactLengthRelationSpec : ChangeSpec := { name := "fnExactLengthRelation", fn := fun _ => fun
  | [d] => { results := [.lit (.bool true)], args := [d] }
  | _ => none }
def fnExactLengthRelationRow : OpenClaim := { program := "ytpdplfgljjkjbaa", sum := "f99c4ef3941ef6c8538ad52d83fce6f3a54871f3d7cad4baeeb6c25e466dc1e2", func := "loop.example/g01168/laws.FnExactLengthRelation", spec := "fnExactLengthRelation", unfollowed := true, recurses := true, plainKeys := false, apart := false }
def FnExactLengthRelationSaid : Prop := fnExactLengthRelationRow.holds Try.pinned (OpenSpec.ofChange fnExactLengthRelationSpec)

/-- ITS FALSE NEIGHBOUR: 'it returns false'. Refute it at one input. -/
def fnExactLengthRelationWrong : ChangeSpec := { name := "fnExactLengthRelation", fn := fun _ => fun
  | [d] => { results := [.lit (.bool false)], args := [d] }
  | _ => none }
def FnExactLengthRelationWrongFalsely : Prop := fnExactLengthRelationRow.holds Try.pinned (OpenSpec.ofChange fnExactLengthRelationWrong)

/-- 'laws.FnExactAllTuples': WHATEVER THE INPUT: true; the input reads as it did. -/
def fnExactAllTuplesSpec : ChangeSpec := { name := "fnExactAllTuples", fn := fun _ => fun
  | [d] => { results := [.lit (.bool true)], args := [d] }
  | _ => none }
def fnExactAllTuplesRow : OpenClaim := { program := "ytpdplfgljjkjbaa", sum := "f99c4ef3941ef6c8538ad52d83fce6f3a54871f3d7cad4baeeb6c25e466dc1e2", func := "loop.example/g01168/laws.FnExactAllTuples", spec := "fnExactAllTuples", unfollowed := true, recurses := true, plainKeys := false, apart := false }
def FnExactAllTuplesSaid : Prop := fnExactAllTuplesRow.holds Try.pinned (OpenSpec.ofChange fnExactAllTuplesSpec)

/-- ITS FALSE NEIGHBOUR: 'it returns false'. Refute it at one input. -/
def fnExactAllTuplesWrong : ChangeSpec := { name := "fnExactAllTuples", fn := fun _ => fun
  | [d] => { results := [.lit (.bool false)], args := [d] }
  | _ => none }
def FnExactAllTuplesWrongFalsely : Prop := fnExactAllTuplesRow.holds Try.pinned (OpenSpec.ofChange fnExactAllTuplesWrong)

/-- 'laws.FnExactNumberDomain': WHATEVER THE INPUT: true; the input reads as it did. -/
def fnExactNumberDomainSpec : ChangeSpec := { name := "fnExactNumberDomain", fn := fun _ => fun
  | [] => { results := [.lit (.bool true)], args := [] }
  | _ => none }
def fnExactNumberDomainRow : OpenClaim := { program := "ytpdplfgljjkjbaa", sum := "f99c4ef3941ef6c8538ad52d83fce6f3a54871f3d7cad4baeeb6c25e466dc1e2", func := "loop.example/g01168/laws.FnExactNumberDomain", spec := "fnExactNumberDomain", unfollowed := true, recurses := true, plainKeys := false, apart := false }
def FnExactNumberDomainSaid : Prop := fnExactNumberDomainRow.holds Try.pinned (OpenSpec.ofChange fnExactNumberDomainSpec)

/-- ITS FALSE NEIGHBOUR: 'it returns false'. Refute it at one input. -/
def fnExactNumberDomainWrong : ChangeSpec := { name := "fnExactNumberDomain", fn := fun _ => fun
  | [] => { results := [.lit (.bool false)], args := [] }
  | _ => none }
def FnExactNumberDomainWrongFalsely : Prop := fnExactNumberDomainRow.holds Try.pinned (OpenSpec.ofChange fnExactNumberDomainWrong)

/- THE SECOND FORM. 'bulk': how many values and letters a reading holds, each counted each time it is reached (what is shared counts as often as it is met; a slice's spare places count too). A statement '..UptoSaid' is the law's where the arguments, and the package variables that the reading takes, are together of bulk at most 1048576: NARROWER than '..Said'. Prove '..Said' where nothing that the law and all that it calls make is longer than what came in: it says more and counts as full. Else prove '..UptoSaid'. A law counts once. -/
mutual
def uptoBulk {H : Type} : DataW H → Nat
  | .lit (.string bytes) => bytes.length + 1
  | .lit _ => 1
  | .nil => 1
  | .ptr d => uptoBulk d + 1
  | .slice elems spare => uptoBulkAll elems + uptoBulkAll spare + 1
  | .agg parts => uptoBulkAll parts + 1
  | .iface _ d => uptoBulk d + 1
  | .map entries => uptoBulkEntries entries + 1
  | .held _ => 1
def uptoBulkAll {H : Type} : List (DataW H) → Nat
  | [] => 0
  | d :: r => uptoBulk d + uptoBulkAll r
def uptoBulkEntries {H : Type} : List (Lit × DataW H) → Nat
  | [] => 0
  | x :: r => uptoBulkEntry x + uptoBulkEntries r
def uptoBulkEntry {H : Type} : Lit × DataW H → Nat
  | (.string bytes, d) => bytes.length + uptoBulk d + 1
  | (_, d) => uptoBulk d + 1
 end
def uptoSmall : (H : Type) → List (DataW H) → Bool := fun _ ds => decide (uptoBulkAll ds ≤ 1048576)
def OpenSpec.upto (s : _root_.Go.ChangeSpec) : _root_.Go.OpenSpec := { _root_.Go.OpenSpec.ofChange s with cond := some uptoSmall }

/-- 'laws.FnExactTidyRelation', WHERE WHAT IT READS IS OF BULK AT MOST 1048576: true; the input reads as it did. -/
def fnExactTidyRelationUptoRow : OpenClaim := { program := "ytpdplfgljjkjbaa", sum := "f99c4ef3941ef6c8538ad52d83fce6f3a54871f3d7cad4baeeb6c25e466dc1e2", func := "loop.example/g01168/laws.FnExactTidyRelation", spec := "fnExactTidyRelation", unfollowed := true, recurses := true, plainKeys := false, apart := false, narrowed := true }
def FnExactTidyRelationUptoSaid : Prop := fnExactTidyRelationUptoRow.holds Try.pinned (OpenSpec.upto fnExactTidyRelationSpec)

/-- 'laws.FnExactEqualWords', WHERE WHAT IT READS IS OF BULK AT MOST 1048576: true; the input reads as it did. -/
def fnExactEqualWordsUptoRow : OpenClaim := { program := "ytpdplfgljjkjbaa", sum := "f99c4ef3941ef6c8538ad52d83fce6f3a54871f3d7cad4baeeb6c25e466dc1e2", func := "loop.example/g01168/laws.FnExactEqualWords", spec := "fnExactEqualWords", unfollowed := true, recurses := true, plainKeys := false, apart := false, narrowed := true }
def FnExactEqualWordsUptoSaid : Prop := fnExactEqualWordsUptoRow.holds Try.pinned (OpenSpec.upto fnExactEqualWordsSpec)

/-- 'laws.FnExactIsPrefixRelation', WHERE WHAT IT READS IS OF BULK AT MOST 1048576: true; the input reads as it did. -/
def fnExactIsPrefixRelationUptoRow : OpenClaim := { program := "ytpdplfgljjkjbaa", sum := "f99c4ef3941ef6c8538ad52d83fce6f3a54871f3d7cad4baeeb6c25e466dc1e2", func := "loop.example/g01168/laws.FnExactIsPrefixRelation", spec := "fnExactIsPrefixRelation", unfollowed := true, recurses := true, plainKeys := false, apart := false, narrowed := true }
def FnExactIsPrefixRelationUptoSaid : Prop := fnExactIsPrefixRelationUptoRow.holds Try.pinned (OpenSpec.upto fnExactIsPrefixRelationSpec)

/-- 'laws.FnExactOrderRelation', WHERE WHAT IT READS IS OF BULK AT MOST 1048576: true; the input reads as it did. -/
def fnExactOrderRelationUptoRow : OpenClaim := { program := "ytpdplfgljjkjbaa", sum := "f99c4ef3941ef6c8538ad52d83fce6f3a54871f3d7cad4baeeb6c25e466dc1e2", func := "loop.example/g01168/laws.FnExactOrderRelation", spec := "fnExactOrderRelation", unfollowed := true, recurses := true, plainKeys := false, apart := false, narrowed := true }
def FnExactOrderRelationUptoSaid : Prop := fnExactOrderRelationUptoRow.holds Try.pinned (OpenSpec.upto fnExactOrderRelationSpec)

/-- 'laws.FnExactSuccessorRelation', WHERE WHAT IT READS IS OF BULK AT MOST 1048576: true; the input reads as it did. -/
def fnExactSuccessorRelationUptoRow : OpenClaim := { program := "ytpdplfgljjkjbaa", sum := "f99c4ef3941ef6c8538ad52d83fce6f3a54871f3d7cad4baeeb6c25e466dc1e2", func := "loop.example/g01168/laws.FnExactSuccessorRelation", spec := "fnExactSuccessorRelation", unfollowed := true, recurses := true, plainKeys := false, apart := false, narrowed := true }
def FnExactSuccessorRelationUptoSaid : Prop := fnExactSuccessorRelationUptoRow.holds Try.pinned (OpenSpec.upto fnExactSuccessorRelationSpec)

/-- 'laws.FnExactLengthRelation', WHERE WHAT IT READS IS OF BULK AT MOST 1048576: true; the input reads as it did. -/
def fnExactLengthRelationUptoRow : OpenClaim := { program := "ytpdplfgljjkjbaa", sum := "f99c4ef3941ef6c8538ad52d83fce6f3a54871f3d7cad4baeeb6c25e466dc1e2", func := "loop.example/g01168/laws.FnExactLengthRelation", spec := "fnExactLengthRelation", unfollowed := true, recurses := true, plainKeys := false, apart := false, narrowed := true }
def FnExactLengthRelationUptoSaid : Prop := fnExactLengthRelationUptoRow.holds Try.pinned (OpenSpec.upto fnExactLengthRelationSpec)

/-- 'laws.FnExactAllTuples', WHERE WHAT IT READS IS OF BULK AT MOST 1048576: true; the input reads as it did. -/
def fnExactAllTuplesUptoRow : OpenClaim := { program := "ytpdplfgljjkjbaa", sum := "f99c4ef3941ef6c8538ad52d83fce6f3a54871f3d7cad4baeeb6c25e466dc1e2", func := "loop.example/g01168/laws.FnExactAllTuples", spec := "fnExactAllTuples", unfollowed := true, recurses := true, plainKeys := false, apart := false, narrowed := true }
def FnExactAllTuplesUptoSaid : Prop := fnExactAllTuplesUptoRow.holds Try.pinned (OpenSpec.upto fnExactAllTuplesSpec)

/-- 'laws.FnExactNumberDomain', WHERE WHAT IT READS IS OF BULK AT MOST 1048576: true; the input reads as it did. -/
def fnExactNumberDomainUptoRow : OpenClaim := { program := "ytpdplfgljjkjbaa", sum := "f99c4ef3941ef6c8538ad52d83fce6f3a54871f3d7cad4baeeb6c25e466dc1e2", func := "loop.example/g01168/laws.FnExactNumberDomain", spec := "fnExactNumberDomain", unfollowed := true, recurses := true, plainKeys := false, apart := false, narrowed := true }
def FnExactNumberDomainUptoSaid : Prop := fnExactNumberDomainUptoRow.holds Try.pinned (OpenSpec.upto fnExactNumberDomainSpec)

end Rows
end Go.Proofs.Ytpdplfgljjkjbaa
