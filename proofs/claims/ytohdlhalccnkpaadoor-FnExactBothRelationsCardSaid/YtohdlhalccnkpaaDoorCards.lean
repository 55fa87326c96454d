/-
  DERIVED. GIVEN WITH THE SEED: THE CARDS: each row of YtohdlhalccnkpaaDoorRows.lean that lists a variable, with what it lists TIED to the program's text (the seventh form; the later family's looks); each row that meets fmt, with fmt's text TOLD by the authors' own Lean function (tested against real Go, not proved from fmt's source: count such statements apart). THE CARD IS WHAT COUNTS. Prove the row's statement (the work); the ties are given (YtohdlhalccnkpaaDoorTie.lean); close each card by the builder's one call (the guide's Derived/Test/ToyasCard.lean, 'card_holds'). Laid BY PROGRAM, IN A SANDBOX (cutbox-door.mjs). By AI agents, Wed Nov 11 2026. No macro, syntax, notation, axiom, sorry.
-/
import Derived.Test.YtohdlhalccnkpaaDoorRows
import GoSem.ClaimSeven
namespace Go.Proofs.YtohdlhalccnkpaaDoor
namespace Rows

/-- THE TIED CARD OF 'laws.FnExactBothRelations'. -/
def fnExactBothRelationsCard : Claim7 := { stood := { row := fnExactBothRelationsRow, standIns := [], harness := (true, "464510d9c89cd83b260fb15c26a1fa840d6c3a1df498d3980f903c536664f739"), looks := true }, kinds := [], alts := [], laidByText := true, laidKinds := [.handle], laidTests := true, laidLooks := .later }
def FnExactBothRelationsCardSaid : Prop := Claim7.holds Tryd.pinned (.plain (OpenSpec.ofChange fnExactBothRelationsSpec)) fnExactBothRelationsCard

/-- THE TIED CARD OF 'laws.FnExactEitherRelation'. -/
def fnExactEitherRelationCard : Claim7 := { stood := { row := fnExactEitherRelationRow, standIns := [], harness := (true, "464510d9c89cd83b260fb15c26a1fa840d6c3a1df498d3980f903c536664f739"), looks := true }, kinds := [], alts := [], laidByText := true, laidKinds := [.handle], laidTests := true, laidLooks := .later }
def FnExactEitherRelationCardSaid : Prop := Claim7.holds Tryd.pinned (.plain (OpenSpec.ofChange fnExactEitherRelationSpec)) fnExactEitherRelationCard

/-- THE TIED CARD OF 'laws.FnExactWithoutRelation'. -/
def fnExactWithoutRelationCard : Claim7 := { stood := { row := fnExactWithoutRelationRow, standIns := [], harness := (true, "464510d9c89cd83b260fb15c26a1fa840d6c3a1df498d3980f903c536664f739"), looks := true }, kinds := [], alts := [], laidByText := true, laidKinds := [.handle], laidTests := true, laidLooks := .later }
def FnExactWithoutRelationCardSaid : Prop := Claim7.holds Tryd.pinned (.plain (OpenSpec.ofChange fnExactWithoutRelationSpec)) fnExactWithoutRelationCard

/-- THE SECOND FORM's CARD OF 'laws.FnExactBothRelations'. -/
def fnExactBothRelationsUptoCard : Claim7 := { stood := { row := fnExactBothRelationsUptoRow, standIns := [], harness := (true, "464510d9c89cd83b260fb15c26a1fa840d6c3a1df498d3980f903c536664f739"), looks := true }, kinds := [], alts := [], laidByText := true, laidKinds := [.handle], laidTests := true, laidLooks := .later }
def FnExactBothRelationsUptoCardSaid : Prop := Claim7.holds Tryd.pinned (.plain (OpenSpec.upto fnExactBothRelationsSpec)) fnExactBothRelationsUptoCard

/-- THE SECOND FORM's CARD OF 'laws.FnExactEitherRelation'. -/
def fnExactEitherRelationUptoCard : Claim7 := { stood := { row := fnExactEitherRelationUptoRow, standIns := [], harness := (true, "464510d9c89cd83b260fb15c26a1fa840d6c3a1df498d3980f903c536664f739"), looks := true }, kinds := [], alts := [], laidByText := true, laidKinds := [.handle], laidTests := true, laidLooks := .later }
def FnExactEitherRelationUptoCardSaid : Prop := Claim7.holds Tryd.pinned (.plain (OpenSpec.upto fnExactEitherRelationSpec)) fnExactEitherRelationUptoCard

/-- THE SECOND FORM's CARD OF 'laws.FnExactWithoutRelation'. -/
def fnExactWithoutRelationUptoCard : Claim7 := { stood := { row := fnExactWithoutRelationUptoRow, standIns := [], harness := (true, "464510d9c89cd83b260fb15c26a1fa840d6c3a1df498d3980f903c536664f739"), looks := true }, kinds := [], alts := [], laidByText := true, laidKinds := [.handle], laidTests := true, laidLooks := .later }
def FnExactWithoutRelationUptoCardSaid : Prop := Claim7.holds Tryd.pinned (.plain (OpenSpec.upto fnExactWithoutRelationSpec)) fnExactWithoutRelationUptoCard
end Rows
end Go.Proofs.YtohdlhalccnkpaaDoor
