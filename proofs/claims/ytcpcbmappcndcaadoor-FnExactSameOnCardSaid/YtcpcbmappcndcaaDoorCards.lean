/-
  DERIVED. GIVEN WITH THE SEED: THE CARDS: each row of YtcpcbmappcndcaaDoorRows.lean that lists a variable, with what it lists TIED to the program's text (the seventh form; the later family's looks); each row that meets fmt, with fmt's text TOLD by the authors' own Lean function (tested against real Go, not proved from fmt's source: count such statements apart). THE CARD IS WHAT COUNTS. Prove the row's statement (the work); the ties are given (YtcpcbmappcndcaaDoorTie.lean); close each card by the builder's one call (the guide's Derived/Test/ToyasCard.lean, 'card_holds'). Laid BY PROGRAM, IN A SANDBOX (cutbox-door.mjs). By AI agents, Wed Nov 11 2026. No macro, syntax, notation, axiom, sorry.
-/
import Derived.Test.YtcpcbmappcndcaaDoorRows
import GoSem.ClaimSeven
namespace Go.Proofs.YtcpcbmappcndcaaDoor
namespace Rows

/-- THE TIED CARD OF 'laws.FnExactFixTape'. -/
def fnExactFixTapeCard : Claim7 := { stood := { row := fnExactFixTapeRow, standIns := [], harness := (true, "195163f57a8c50f3b66a55fdd6fa573cf775714577d17a6857955cc55276bb77"), looks := true }, kinds := [], alts := [], laidByText := true, laidKinds := [.handle], laidTests := true, laidLooks := .later }
def FnExactFixTapeCardSaid : Prop := Claim7.holds Tryd.pinned (.plain (OpenSpec.ofChange fnExactFixTapeSpec)) fnExactFixTapeCard

/-- THE TIED CARD OF 'laws.FnExactPartnersOf'. -/
def fnExactPartnersOfCard : Claim7 := { stood := { row := fnExactPartnersOfRow, standIns := [], harness := (true, "195163f57a8c50f3b66a55fdd6fa573cf775714577d17a6857955cc55276bb77"), looks := true }, kinds := [], alts := [], laidByText := true, laidKinds := [.handle], laidTests := true, laidLooks := .later }
def FnExactPartnersOfCardSaid : Prop := Claim7.holds Tryd.pinned (.plain (OpenSpec.ofChange fnExactPartnersOfSpec)) fnExactPartnersOfCard

/-- THE TIED CARD OF 'laws.FnExactSameOn'. -/
def fnExactSameOnCard : Claim7 := { stood := { row := fnExactSameOnRow, standIns := [], harness := (true, "195163f57a8c50f3b66a55fdd6fa573cf775714577d17a6857955cc55276bb77"), looks := true }, kinds := [], alts := [], laidByText := true, laidKinds := [.handle], laidTests := true, laidLooks := .later }
def FnExactSameOnCardSaid : Prop := Claim7.holds Tryd.pinned (.plain (OpenSpec.ofChange fnExactSameOnSpec)) fnExactSameOnCard

/-- THE SECOND FORM's CARD OF 'laws.FnExactFixTape'. -/
def fnExactFixTapeUptoCard : Claim7 := { stood := { row := fnExactFixTapeUptoRow, standIns := [], harness := (true, "195163f57a8c50f3b66a55fdd6fa573cf775714577d17a6857955cc55276bb77"), looks := true }, kinds := [], alts := [], laidByText := true, laidKinds := [.handle], laidTests := true, laidLooks := .later }
def FnExactFixTapeUptoCardSaid : Prop := Claim7.holds Tryd.pinned (.plain (OpenSpec.upto fnExactFixTapeSpec)) fnExactFixTapeUptoCard

/-- THE SECOND FORM's CARD OF 'laws.FnExactPartnersOf'. -/
def fnExactPartnersOfUptoCard : Claim7 := { stood := { row := fnExactPartnersOfUptoRow, standIns := [], harness := (true, "195163f57a8c50f3b66a55fdd6fa573cf775714577d17a6857955cc55276bb77"), looks := true }, kinds := [], alts := [], laidByText := true, laidKinds := [.handle], laidTests := true, laidLooks := .later }
def FnExactPartnersOfUptoCardSaid : Prop := Claim7.holds Tryd.pinned (.plain (OpenSpec.upto fnExactPartnersOfSpec)) fnExactPartnersOfUptoCard

/-- THE SECOND FORM's CARD OF 'laws.FnExactSameOn'. -/
def fnExactSameOnUptoCard : Claim7 := { stood := { row := fnExactSameOnUptoRow, standIns := [], harness := (true, "195163f57a8c50f3b66a55fdd6fa573cf775714577d17a6857955cc55276bb77"), looks := true }, kinds := [], alts := [], laidByText := true, laidKinds := [.handle], laidTests := true, laidLooks := .later }
def FnExactSameOnUptoCardSaid : Prop := Claim7.holds Tryd.pinned (.plain (OpenSpec.upto fnExactSameOnSpec)) fnExactSameOnUptoCard
end Rows
end Go.Proofs.YtcpcbmappcndcaaDoor
