/-
  DERIVED. GIVEN WITH THE SEED: THE CARDS: each row of YtgaipjofhkijbaaDoorRows.lean that lists a variable, with what it lists TIED to the program's text (the seventh form; the later family's looks); each row that meets fmt, with fmt's text TOLD by the authors' own Lean function (tested against real Go, not proved from fmt's source: count such statements apart). THE CARD IS WHAT COUNTS. Prove the row's statement (the work); the ties are given (YtgaipjofhkijbaaDoorTie.lean); close each card by the builder's one call (the guide's Derived/Test/ToyasCard.lean, 'card_holds'). Laid BY PROGRAM, IN A SANDBOX (cutbox-door.mjs). By AI agents, Wed Nov 11 2026. No macro, syntax, notation, axiom, sorry.
-/
import Derived.Test.YtgaipjofhkijbaaDoorRows
import GoSem.ClaimSeven
namespace Go.Proofs.YtgaipjofhkijbaaDoor
namespace Rows

/-- THE TIED CARD OF 'laws.FnExactInverseRelation'. -/
def fnExactInverseRelationCard : Claim7 := { stood := { row := fnExactInverseRelationRow, standIns := [], harness := (true, "0f1ac0d77abb4b85b341e8e0e363d6a55c3437ee731ab3e205ee777a6f325231"), looks := true }, kinds := [], alts := [], laidByText := true, laidKinds := [.handle], laidTests := true, laidLooks := .later }
def FnExactInverseRelationCardSaid : Prop := Claim7.holds Tryd.pinned (.plain (OpenSpec.ofChange fnExactInverseRelationSpec)) fnExactInverseRelationCard

/-- THE TIED CARD OF 'laws.FnExactMoveTapes'. -/
def fnExactMoveTapesCard : Claim7 := { stood := { row := fnExactMoveTapesRow, standIns := [], harness := (true, "0f1ac0d77abb4b85b341e8e0e363d6a55c3437ee731ab3e205ee777a6f325231"), looks := true }, kinds := [], alts := [], laidByText := true, laidKinds := [.handle], laidTests := true, laidLooks := .later }
def FnExactMoveTapesCardSaid : Prop := Claim7.holds Tryd.pinned (.plain (OpenSpec.ofChange fnExactMoveTapesSpec)) fnExactMoveTapesCard

/-- THE TIED CARD OF 'laws.FnExactAddTape'. -/
def fnExactAddTapeCard : Claim7 := { stood := { row := fnExactAddTapeRow, standIns := [], harness := (true, "0f1ac0d77abb4b85b341e8e0e363d6a55c3437ee731ab3e205ee777a6f325231"), looks := true }, kinds := [], alts := [], laidByText := true, laidKinds := [.handle], laidTests := true, laidLooks := .later }
def FnExactAddTapeCardSaid : Prop := Claim7.holds Tryd.pinned (.plain (OpenSpec.ofChange fnExactAddTapeSpec)) fnExactAddTapeCard

/-- THE TIED CARD OF 'laws.FnExactFixTape'. -/
def fnExactFixTapeCard : Claim7 := { stood := { row := fnExactFixTapeRow, standIns := [], harness := (true, "0f1ac0d77abb4b85b341e8e0e363d6a55c3437ee731ab3e205ee777a6f325231"), looks := true }, kinds := [], alts := [], laidByText := true, laidKinds := [.handle], laidTests := true, laidLooks := .later }
def FnExactFixTapeCardSaid : Prop := Claim7.holds Tryd.pinned (.plain (OpenSpec.ofChange fnExactFixTapeSpec)) fnExactFixTapeCard

/-- THE SECOND FORM's CARD OF 'laws.FnExactInverseRelation'. -/
def fnExactInverseRelationUptoCard : Claim7 := { stood := { row := fnExactInverseRelationUptoRow, standIns := [], harness := (true, "0f1ac0d77abb4b85b341e8e0e363d6a55c3437ee731ab3e205ee777a6f325231"), looks := true }, kinds := [], alts := [], laidByText := true, laidKinds := [.handle], laidTests := true, laidLooks := .later }
def FnExactInverseRelationUptoCardSaid : Prop := Claim7.holds Tryd.pinned (.plain (OpenSpec.upto fnExactInverseRelationSpec)) fnExactInverseRelationUptoCard

/-- THE SECOND FORM's CARD OF 'laws.FnExactMoveTapes'. -/
def fnExactMoveTapesUptoCard : Claim7 := { stood := { row := fnExactMoveTapesUptoRow, standIns := [], harness := (true, "0f1ac0d77abb4b85b341e8e0e363d6a55c3437ee731ab3e205ee777a6f325231"), looks := true }, kinds := [], alts := [], laidByText := true, laidKinds := [.handle], laidTests := true, laidLooks := .later }
def FnExactMoveTapesUptoCardSaid : Prop := Claim7.holds Tryd.pinned (.plain (OpenSpec.upto fnExactMoveTapesSpec)) fnExactMoveTapesUptoCard

/-- THE SECOND FORM's CARD OF 'laws.FnExactAddTape'. -/
def fnExactAddTapeUptoCard : Claim7 := { stood := { row := fnExactAddTapeUptoRow, standIns := [], harness := (true, "0f1ac0d77abb4b85b341e8e0e363d6a55c3437ee731ab3e205ee777a6f325231"), looks := true }, kinds := [], alts := [], laidByText := true, laidKinds := [.handle], laidTests := true, laidLooks := .later }
def FnExactAddTapeUptoCardSaid : Prop := Claim7.holds Tryd.pinned (.plain (OpenSpec.upto fnExactAddTapeSpec)) fnExactAddTapeUptoCard

/-- THE SECOND FORM's CARD OF 'laws.FnExactFixTape'. -/
def fnExactFixTapeUptoCard : Claim7 := { stood := { row := fnExactFixTapeUptoRow, standIns := [], harness := (true, "0f1ac0d77abb4b85b341e8e0e363d6a55c3437ee731ab3e205ee777a6f325231"), looks := true }, kinds := [], alts := [], laidByText := true, laidKinds := [.handle], laidTests := true, laidLooks := .later }
def FnExactFixTapeUptoCardSaid : Prop := Claim7.holds Tryd.pinned (.plain (OpenSpec.upto fnExactFixTapeSpec)) fnExactFixTapeUptoCard
end Rows
end Go.Proofs.YtgaipjofhkijbaaDoor
