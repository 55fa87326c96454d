/-
  No cell of these rows narrows 'for every input' (looked for: loops, veiled, ifaces, maps, wideKeys, modest, calm, conditions, laid).
  DERIVED. THE GIVEN ROWS OF THIS SEAT. 6 by the template 'for every input the law returns true; each argument reads behind the call as it read before'; 0 by the template 'total and deterministic' (their statements: YtlmgplkgnfejeaaTotals.lean).
  GIVEN WITH THE SEED: the statements are not yours to turn. If you find one false, say at which input.
  Laid BY PROGRAM, IN A SANDBOX (cutbox-rows.mjs): the forced cells as the released guide's own fill.sh prints them over the translation c5549483d5732092… (all of the seat's roots in one cut). By AI agents, Wed Nov 11 2026. No macro, syntax, notation, axiom, sorry.
-/
import Derived.Test.YtlmgplkgnfejeaaChecked
import GoSem.Claim
import GoSem.ClaimJoined
import GoSem.ClaimMapViews
import Derived.JoinedTies
import Derived.KernelRfl
namespace Go.Proofs.Ytlmgplkgnfejeaa
/- THE CELL 'sum', in the pinned program and in every row, IS THE sha256 OF THE DUMP (.gsa) THAT YtlmgplkgnfejeaaProg.lean LOADS. Nothing in Lean hashes anything: it is a label: what it is worth is what the hold of that sum in a sandbox is worth. -/
noncomputable def Try.pinned : Pinned := { name := "ytlmgplkgnfejeaa", sum := "c5549483d57320925d46042492f82861729d805fe141d66122ba75a6a2c9d6f9", checked := Try.checked }
namespace Rows
def none {H : Type} : Left H := { results := [], args := [] }

/-- 'laws.FnExactNumberWord': WHATEVER THE INPUT: true; the input reads as it did. -/
def fnExactNumberWordSpec : ChangeSpec := { name := "fnExactNumberWord", fn := fun _ => fun
  | [d] => { results := [.lit (.bool true)], args := [d] }
  | _ => none }
def fnExactNumberWordRow : OpenClaim := { program := "ytlmgplkgnfejeaa", sum := "c5549483d57320925d46042492f82861729d805fe141d66122ba75a6a2c9d6f9", func := "loop.example/g01168/laws.FnExactNumberWord", spec := "fnExactNumberWord", plainKeys := false, apart := false }
def FnExactNumberWordSaid : Prop := fnExactNumberWordRow.holds Try.pinned (OpenSpec.ofChange fnExactNumberWordSpec)

/-- ITS FALSE NEIGHBOUR: 'it returns false'. Refute it at one input. -/
def fnExactNumberWordWrong : ChangeSpec := { name := "fnExactNumberWord", fn := fun _ => fun
  | [d] => { results := [.lit (.bool false)], args := [d] }
  | _ => none }
def FnExactNumberWordWrongFalsely : Prop := fnExactNumberWordRow.holds Try.pinned (OpenSpec.ofChange fnExactNumberWordWrong)

/-- 'laws.FnExactWordNumber': WHATEVER THE INPUT: true; the input reads as it did. -/
def fnExactWordNumberSpec : ChangeSpec := { name := "fnExactWordNumber", fn := fun _ => fun
  | [d] => { results := [.lit (.bool true)], args := [d] }
  | _ => none }
def fnExactWordNumberRow : OpenClaim := { program := "ytlmgplkgnfejeaa", sum := "c5549483d57320925d46042492f82861729d805fe141d66122ba75a6a2c9d6f9", func := "loop.example/g01168/laws.FnExactWordNumber", spec := "fnExactWordNumber", plainKeys := false, apart := false }
def FnExactWordNumberSaid : Prop := fnExactWordNumberRow.holds Try.pinned (OpenSpec.ofChange fnExactWordNumberSpec)

/-- ITS FALSE NEIGHBOUR: 'it returns false'. Refute it at one input. -/
def fnExactWordNumberWrong : ChangeSpec := { name := "fnExactWordNumber", fn := fun _ => fun
  | [d] => { results := [.lit (.bool false)], args := [d] }
  | _ => none }
def FnExactWordNumberWrongFalsely : Prop := fnExactWordNumberRow.holds Try.pinned (OpenSpec.ofChange fnExactWordNumberWrong)

/-- 'laws.FnExactNumberDomain': WHATEVER THE INPUT: true; the input reads as it did. -/
def fnExactNumberDomainSpec : ChangeSpec := { name := "fnExactNumberDomain", fn := fun _ => fun
  | [] => { results := [.lit (.bool true)], args := [] }
  | _ => none }
def fnExactNumberDomainRow : OpenClaim := { program := "ytlmgplkgnfejeaa", sum := "c5549483d57320925d46042492f82861729d805fe141d66122ba75a6a2c9d6f9", func := "loop.example/g01168/laws.FnExactNumberDomain", spec := "fnExactNumberDomain", unfollowed := true, recurses := true, plainKeys := false, apart := false }
def FnExactNumberDomainSaid : Prop := fnExactNumberDomainRow.holds Try.pinned (OpenSpec.ofChange fnExactNumberDomainSpec)

/-- ITS FALSE NEIGHBOUR: 'it returns false'. Refute it at one input. -/
def fnExactNumberDomainWrong : ChangeSpec := { name := "fnExactNumberDomain", fn := fun _ => fun
  | [] => { results := [.lit (.bool false)], args := [] }
  | _ => none }
def FnExactNumberDomainWrongFalsely : Prop := fnExactNumberDomainRow.holds Try.pinned (OpenSpec.ofChange fnExactNumberDomainWrong)

/-- 'laws.FnExactTidyRelation': WHATEVER THE INPUT: true; the input reads as it did. -/
def fnExactTidyRelationSpec : ChangeSpec := { name := "fnExactTidyRelation", fn := fun _ => fun
  | [d] => { results := [.lit (.bool true)], args := [d] }
  | _ => none }
def fnExactTidyRelationRow : OpenClaim := { program := "ytlmgplkgnfejeaa", sum := "c5549483d57320925d46042492f82861729d805fe141d66122ba75a6a2c9d6f9", func := "loop.example/g01168/laws.FnExactTidyRelation", spec := "fnExactTidyRelation", unfollowed := true, recurses := true, plainKeys := false, apart := false }
def FnExactTidyRelationSaid : Prop := fnExactTidyRelationRow.holds Try.pinned (OpenSpec.ofChange fnExactTidyRelationSpec)

/-- ITS FALSE NEIGHBOUR: 'it returns false'. Refute it at one input. -/
def fnExactTidyRelationWrong : ChangeSpec := { name := "fnExactTidyRelation", fn := fun _ => fun
  | [d] => { results := [.lit (.bool false)], args := [d] }
  | _ => none }
def FnExactTidyRelationWrongFalsely : Prop := fnExactTidyRelationRow.holds Try.pinned (OpenSpec.ofChange fnExactTidyRelationWrong)

/-- 'laws.FnExactValidPresentation': WHATEVER THE INPUT: true; the input reads as it did. -/
def fnExactValidPresentationSpec : ChangeSpec := { name := "fnExactValidPresentation", fn := fun _ => fun
  | [d] => { results := [.lit (.bool true)], args := [d] }
  | _ => none }
def fnExactValidPresentationRow : OpenClaim := { program := "ytlmgplkgnfejeaa", sum := "c5549483d57320925d46042492f82861729d805fe141d66122ba75a6a2c9d6f9", func := "loop.example/g01168/laws.FnExactValidPresentation", spec := "fnExactValidPresentation", plainKeys := false, apart := false }
def FnExactValidPresentationSaid : Prop := fnExactValidPresentationRow.holds Try.pinned (OpenSpec.ofChange fnExactValidPresentationSpec)

/-- ITS FALSE NEIGHBOUR: 'it returns false'. Refute it at one input. -/
def fnExactValidPresentationWrong : ChangeSpec := { name := "fnExactValidPresentation", fn := fun _ => fun
  | [d] => { results := [.lit (.bool false)], args := [d] }
  | _ => none }
def FnExactValidPresentationWrongFalsely : Prop := fnExactValidPresentationRow.holds Try.pinned (OpenSpec.ofChange fnExactValidPresentationWrong)

/-- 'laws.FnExactSamePresentation': WHATEVER THE INPUT: true; the input reads as it did. -/
def fnExactSamePresentationSpec : ChangeSpec := { name := "fnExactSamePresentation", fn := fun _ => fun
  | [d1, d2] => { results := [.lit (.bool true)], args := [d1, d2] }
  | _ => none }
def fnExactSamePresentationRow : OpenClaim := { program := "ytlmgplkgnfejeaa", sum := "c5549483d57320925d46042492f82861729d805fe141d66122ba75a6a2c9d6f9", func := "loop.example/g01168/laws.FnExactSamePresentation", spec := "fnExactSamePresentation", unfollowed := true, recurses := true, plainKeys := false, apart := false }
def FnExactSamePresentationSaid : Prop := fnExactSamePresentationRow.holds Try.pinned (OpenSpec.ofChange fnExactSamePresentationSpec)

/-- ITS FALSE NEIGHBOUR: 'it returns false'. Refute it at one input. -/
def fnExactSamePresentationWrong : ChangeSpec := { name := "fnExactSamePresentation", fn := fun _ => fun
  | [d1, d2] => { results := [.lit (.bool false)], args := [d1, d2] }
  | _ => none }
def FnExactSamePresentationWrongFalsely : Prop := fnExactSamePresentationRow.holds Try.pinned (OpenSpec.ofChange fnExactSamePresentationWrong)

/- THE SECOND FORM. 'bulk': how many values and letters a reading holds, each counted each time it is reached (what is shared counts as often as it is met; a slice's spare places count too). A statement '..UptoSaid' is the law's where the arguments, and the package variables that the reading takes, are together of bulk at most 1048576: NARROWER than '..Said'. Prove '..Said' where nothing that the law and all that it calls make is longer than what came in: it says more and counts as full. Else prove '..UptoSaid'. A law counts once. -/
mutual
def uptoBulk {H : Type} : DataW H → Nat
  | .lit (.string bytes) => bytes.length + 1
  | .lit _ => 1
  | .nil => 1
  | .ptr d => uptoBulk d + 1
  | .slice elems spare => uptoBulkAll elems + uptoBulkAll spare + 1
  | .agg parts => uptoBulkAll parts + 1
  | .iface _ d => uptoBulk d + 1
  | .map entries => uptoBulkEntries entries + 1
  | .held _ => 1
def uptoBulkAll {H : Type} : List (DataW H) → Nat
  | [] => 0
  | d :: r => uptoBulk d + uptoBulkAll r
def uptoBulkEntries {H : Type} : List (Lit × DataW H) → Nat
  | [] => 0
  | x :: r => uptoBulkEntry x + uptoBulkEntries r
def uptoBulkEntry {H : Type} : Lit × DataW H → Nat
  | (.string bytes, d) => bytes.length + uptoBulk d + 1
  | (_, d) => uptoBulk d + 1
 end
def uptoSmall : (H : Type) → List (DataW H) → Bool := fun _ ds => decide (uptoBulkAll ds ≤ 1048576)
def OpenSpec.upto (s : _root_.Go.ChangeSpec) : _root_.Go.OpenSpec := { _root_.Go.OpenSpec.ofChange s with cond := some uptoSmall }

/-- 'laws.FnExactNumberWord', WHERE WHAT IT READS IS OF BULK AT MOST 1048576: true; the input reads as it did. -/
def fnExactNumberWordUptoRow : OpenClaim := { program := "ytlmgplkgnfejeaa", sum := "c5549483d57320925d46042492f82861729d805fe141d66122ba75a6a2c9d6f9", func := "loop.example/g01168/laws.FnExactNumberWord", spec := "fnExactNumberWord", plainKeys := false, apart := false, narrowed := true }
def FnExactNumberWordUptoSaid : Prop := fnExactNumberWordUptoRow.holds Try.pinned (OpenSpec.upto fnExactNumberWordSpec)

/-- 'laws.FnExactWordNumber', WHERE WHAT IT READS IS OF BULK AT MOST 1048576: true; the input reads as it did. -/
def fnExactWordNumberUptoRow : OpenClaim := { program := "ytlmgplkgnfejeaa", sum := "c5549483d57320925d46042492f82861729d805fe141d66122ba75a6a2c9d6f9", func := "loop.example/g01168/laws.FnExactWordNumber", spec := "fnExactWordNumber", plainKeys := false, apart := false, narrowed := true }
def FnExactWordNumberUptoSaid : Prop := fnExactWordNumberUptoRow.holds Try.pinned (OpenSpec.upto fnExactWordNumberSpec)

/-- 'laws.FnExactNumberDomain', WHERE WHAT IT READS IS OF BULK AT MOST 1048576: true; the input reads as it did. -/
def fnExactNumberDomainUptoRow : OpenClaim := { program := "ytlmgplkgnfejeaa", sum := "c5549483d57320925d46042492f82861729d805fe141d66122ba75a6a2c9d6f9", func := "loop.example/g01168/laws.FnExactNumberDomain", spec := "fnExactNumberDomain", unfollowed := true, recurses := true, plainKeys := false, apart := false, narrowed := true }
def FnExactNumberDomainUptoSaid : Prop := fnExactNumberDomainUptoRow.holds Try.pinned (OpenSpec.upto fnExactNumberDomainSpec)

/-- 'laws.FnExactTidyRelation', WHERE WHAT IT READS IS OF BULK AT MOST 1048576: true; the input reads as it did. -/
def fnExactTidyRelationUptoRow : OpenClaim := { program := "ytlmgplkgnfejeaa", sum := "c5549483d57320925d46042492f82861729d805fe141d66122ba75a6a2c9d6f9", func := "loop.example/g01168/laws.FnExactTidyRelation", spec := "fnExactTidyRelation", unfollowed := true, recurses := true, plainKeys := false, apart := false, narrowed := true }
def FnExactTidyRelationUptoSaid : Prop := fnExactTidyRelationUptoRow.holds Try.pinned (OpenSpec.upto fnExactTidyRelationSpec)

/-- 'laws.FnExactValidPresentation', WHERE WHAT IT READS IS OF BULK AT MOST 1048576: true; the input reads as it did. -/
def fnExactValidPresentationUptoRow : OpenClaim := { program := "ytlmgplkgnfejeaa", sum := "c5549483d57320925d46042492f82861729d805fe141d66122ba75a6a2c9d6f9", func := "loop.example/g01168/laws.FnExactValidPresentation", spec := "fnExactValidPresentation", plainKeys := false, apart := false, narrowed := true }
def FnExactValidPresentationUptoSaid : Prop := fnExactValidPresentationUptoRow.holds Try.pinned (OpenSpec.upto fnExactValidPresentationSpec)

/-- 'laws.FnExactSamePresentation', WHERE WHAT IT READS IS OF BULK AT MOST 1048576: true; the input reads as it did. -/
def fnExactSamePresentationUptoRow : OpenClaim := { program := "ytlmgplkgnfejeaa", sum := "c5549483d57320925d46042492f82861729d805fe141d66122ba75a6a2c9d6f9", func := "loop.example/g01168/laws.FnExactSamePresentation", spec := "fnExactSamePresentation", unfollowed := true, recurses := true, plainKeys := false, apart := false, narrowed := true }
def FnExactSamePresentationUptoSaid : Prop := fnExactSamePresentationUptoRow.holds Try.pinned (OpenSpec.upto fnExactSamePresentationSpec)

end Rows
end Go.Proofs.Ytlmgplkgnfejeaa
