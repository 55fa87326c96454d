/-
  DERIVED. GIVEN WITH THE SEED: THE CARDS: each row of YtcpcbmappcndcaaGreatDoorRows.lean that lists a variable, with what it lists TIED to the program's text (the seventh form; the later family's looks); each row that meets fmt, with fmt's text TOLD by the authors' own Lean function (tested against real Go, not proved from fmt's source: count such statements apart). THE CARD IS WHAT COUNTS. Prove the row's statement (the work); the ties are given (YtcpcbmappcndcaaGreatDoorTie.lean); close each card by the builder's one call (the guide's Derived/Test/ToyasCard.lean, 'card_holds'). Laid BY PROGRAM, IN A SANDBOX (cutbox-door.mjs). By AI agents, Wed Nov 11 2026. No macro, syntax, notation, axiom, sorry.
-/
import Derived.Test.YtcpcbmappcndcaaGreatDoorRows
import GoSem.ClaimSeven
namespace Go.Proofs.YtcpcbmappcndcaaGreatDoor
namespace Rows

/-- THE TIED CARD OF 'laws.FnExactFixedWords'. -/
def fnExactFixedWordsCard : Claim7 := { stood := { row := fnExactFixedWordsRow, standIns := [], harness := (true, "0d982f417fbc920f7438a0bb3fbb9f9a52522d08d5835f79bd702902800aaee1"), looks := true }, kinds := [], alts := [], laidByText := true, laidKinds := [.data, .handle], laidTests := true, laidLooks := .later }
def FnExactFixedWordsCardSaid : Prop := Claim7.holds Tryz.pinned (.plain (OpenSpec.ofChange fnExactFixedWordsSpec)) fnExactFixedWordsCard

/-- THE TIED CARD OF 'laws.FnExactSomeOn'. -/
def fnExactSomeOnCard : Claim7 := { stood := { row := fnExactSomeOnRow, standIns := [], harness := (true, "0d982f417fbc920f7438a0bb3fbb9f9a52522d08d5835f79bd702902800aaee1"), looks := true }, kinds := [], alts := [], laidByText := true, laidKinds := [.data, .handle], laidTests := true, laidLooks := .later }
def FnExactSomeOnCardSaid : Prop := Claim7.holds Tryz.pinned (.plain (OpenSpec.ofChange fnExactSomeOnSpec)) fnExactSomeOnCard

/-- THE TIED CARD OF 'laws.FnExactInputsIn'. -/
def fnExactInputsInCard : Claim7 := { stood := { row := fnExactInputsInRow, standIns := [], harness := (true, "0d982f417fbc920f7438a0bb3fbb9f9a52522d08d5835f79bd702902800aaee1"), looks := true }, kinds := [], alts := [], laidByText := true, laidKinds := [.data, .handle], laidTests := true, laidLooks := .later }
def FnExactInputsInCardSaid : Prop := Claim7.holds Tryz.pinned (.plain (OpenSpec.ofChange fnExactInputsInSpec)) fnExactInputsInCard

/-- THE TIED CARD OF 'laws.FnExactOutputsIn'. -/
def fnExactOutputsInCard : Claim7 := { stood := { row := fnExactOutputsInRow, standIns := [], harness := (true, "0d982f417fbc920f7438a0bb3fbb9f9a52522d08d5835f79bd702902800aaee1"), looks := true }, kinds := [], alts := [], laidByText := true, laidKinds := [.data, .handle], laidTests := true, laidLooks := .later }
def FnExactOutputsInCardSaid : Prop := Claim7.holds Tryz.pinned (.plain (OpenSpec.ofChange fnExactOutputsInSpec)) fnExactOutputsInCard

/-- THE TIED CARD OF 'laws.FnExactRestrictFunction'. -/
def fnExactRestrictFunctionCard : Claim7 := { stood := { row := fnExactRestrictFunctionRow, standIns := [], harness := (true, "0d982f417fbc920f7438a0bb3fbb9f9a52522d08d5835f79bd702902800aaee1"), looks := true }, kinds := [], alts := [], laidByText := true, laidKinds := [.handle], laidTests := true, laidLooks := .later }
def FnExactRestrictFunctionCardSaid : Prop := Claim7.holds Tryz.pinned (.plain (OpenSpec.ofChange fnExactRestrictFunctionSpec)) fnExactRestrictFunctionCard

/-- THE TIED CARD OF 'laws.FnExactComposeRelations'. -/
def fnExactComposeRelationsCard : Claim7 := { stood := { row := fnExactComposeRelationsRow, standIns := [], harness := (true, "0d982f417fbc920f7438a0bb3fbb9f9a52522d08d5835f79bd702902800aaee1"), looks := true }, kinds := [], alts := [], laidByText := true, laidKinds := [.data, .handle], laidTests := true, laidLooks := .later }
def FnExactComposeRelationsCardSaid : Prop := Claim7.holds Tryz.pinned (.plain (OpenSpec.ofChange fnExactComposeRelationsSpec)) fnExactComposeRelationsCard

/-- THE SECOND FORM's CARD OF 'laws.FnExactFixedWords'. -/
def fnExactFixedWordsUptoCard : Claim7 := { stood := { row := fnExactFixedWordsUptoRow, standIns := [], harness := (true, "0d982f417fbc920f7438a0bb3fbb9f9a52522d08d5835f79bd702902800aaee1"), looks := true }, kinds := [], alts := [], laidByText := true, laidKinds := [.data, .handle], laidTests := true, laidLooks := .later }
def FnExactFixedWordsUptoCardSaid : Prop := Claim7.holds Tryz.pinned (.plain (OpenSpec.upto fnExactFixedWordsSpec)) fnExactFixedWordsUptoCard

/-- THE SECOND FORM's CARD OF 'laws.FnExactSomeOn'. -/
def fnExactSomeOnUptoCard : Claim7 := { stood := { row := fnExactSomeOnUptoRow, standIns := [], harness := (true, "0d982f417fbc920f7438a0bb3fbb9f9a52522d08d5835f79bd702902800aaee1"), looks := true }, kinds := [], alts := [], laidByText := true, laidKinds := [.data, .handle], laidTests := true, laidLooks := .later }
def FnExactSomeOnUptoCardSaid : Prop := Claim7.holds Tryz.pinned (.plain (OpenSpec.upto fnExactSomeOnSpec)) fnExactSomeOnUptoCard

/-- THE SECOND FORM's CARD OF 'laws.FnExactInputsIn'. -/
def fnExactInputsInUptoCard : Claim7 := { stood := { row := fnExactInputsInUptoRow, standIns := [], harness := (true, "0d982f417fbc920f7438a0bb3fbb9f9a52522d08d5835f79bd702902800aaee1"), looks := true }, kinds := [], alts := [], laidByText := true, laidKinds := [.data, .handle], laidTests := true, laidLooks := .later }
def FnExactInputsInUptoCardSaid : Prop := Claim7.holds Tryz.pinned (.plain (OpenSpec.upto fnExactInputsInSpec)) fnExactInputsInUptoCard

/-- THE SECOND FORM's CARD OF 'laws.FnExactOutputsIn'. -/
def fnExactOutputsInUptoCard : Claim7 := { stood := { row := fnExactOutputsInUptoRow, standIns := [], harness := (true, "0d982f417fbc920f7438a0bb3fbb9f9a52522d08d5835f79bd702902800aaee1"), looks := true }, kinds := [], alts := [], laidByText := true, laidKinds := [.data, .handle], laidTests := true, laidLooks := .later }
def FnExactOutputsInUptoCardSaid : Prop := Claim7.holds Tryz.pinned (.plain (OpenSpec.upto fnExactOutputsInSpec)) fnExactOutputsInUptoCard

/-- THE SECOND FORM's CARD OF 'laws.FnExactRestrictFunction'. -/
def fnExactRestrictFunctionUptoCard : Claim7 := { stood := { row := fnExactRestrictFunctionUptoRow, standIns := [], harness := (true, "0d982f417fbc920f7438a0bb3fbb9f9a52522d08d5835f79bd702902800aaee1"), looks := true }, kinds := [], alts := [], laidByText := true, laidKinds := [.handle], laidTests := true, laidLooks := .later }
def FnExactRestrictFunctionUptoCardSaid : Prop := Claim7.holds Tryz.pinned (.plain (OpenSpec.upto fnExactRestrictFunctionSpec)) fnExactRestrictFunctionUptoCard

/-- THE SECOND FORM's CARD OF 'laws.FnExactComposeRelations'. -/
def fnExactComposeRelationsUptoCard : Claim7 := { stood := { row := fnExactComposeRelationsUptoRow, standIns := [], harness := (true, "0d982f417fbc920f7438a0bb3fbb9f9a52522d08d5835f79bd702902800aaee1"), looks := true }, kinds := [], alts := [], laidByText := true, laidKinds := [.data, .handle], laidTests := true, laidLooks := .later }
def FnExactComposeRelationsUptoCardSaid : Prop := Claim7.holds Tryz.pinned (.plain (OpenSpec.upto fnExactComposeRelationsSpec)) fnExactComposeRelationsUptoCard
end Rows
end Go.Proofs.YtcpcbmappcndcaaGreatDoor
