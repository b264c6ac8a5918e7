/-
  DERIVED. GIVEN WITH THE SEED: THE CARDS: each row of YtdpokjhoedhadabDoorRows.lean that lists a variable, with what it lists TIED to the program's text (the seventh form; the later family's looks); each row that meets fmt, with fmt's text TOLD by the authors' own Lean function (tested against real Go, not proved from fmt's source: count such statements apart). THE CARD IS WHAT COUNTS. Prove the row's statement (the work); the ties are given (YtdpokjhoedhadabDoorTie.lean); close each card by the builder's one call (the guide's Derived/Test/ToyasCard.lean, 'card_holds'). Laid BY PROGRAM, IN A SANDBOX (cutbox-door.mjs). By AI agents, Wed Nov 11 2026. No macro, syntax, notation, axiom, sorry.
-/
import Derived.Test.YtdpokjhoedhadabDoorRows
import GoSem.ClaimSeven
namespace Go.Proofs.YtdpokjhoedhadabDoor
namespace Rows

/-- THE TIED CARD OF 'souterrainkeep.CurveNothing'. -/
def curveNothingCard : Claim7 := { stood := { row := curveNothingRow, standIns := [], harness := (true, "a480d3e8bc925e12e1203e959bf3e4156975b924bc228b5481e7f42d26def2cf"), looks := false }, kinds := [], alts := [], laidByText := true, laidKinds := [.data, .data], laidTests := true, laidLooks := .later }
def CurveNothingCardSaid : Prop := Claim7.holds Tryd.pinned (.plain (OpenSpec.ofChange curveNothingSpec)) curveNothingCard

/-- THE TIED CARD OF 'souterrainkeep.CurveBase'. -/
def curveBaseCard : Claim7 := { stood := { row := curveBaseRow, standIns := [], harness := (true, "a480d3e8bc925e12e1203e959bf3e4156975b924bc228b5481e7f42d26def2cf"), looks := false }, kinds := [], alts := [], laidByText := true, laidKinds := [.data, .data], laidTests := true, laidLooks := .later }
def CurveBaseCardSaid : Prop := Claim7.holds Tryd.pinned (.plain (OpenSpec.ofChange curveBaseSpec)) curveBaseCard

/-- THE SECOND FORM's CARD OF 'souterrainkeep.CurveNothing'. -/
def curveNothingUptoCard : Claim7 := { stood := { row := curveNothingUptoRow, standIns := [], harness := (true, "a480d3e8bc925e12e1203e959bf3e4156975b924bc228b5481e7f42d26def2cf"), looks := false }, kinds := [], alts := [], laidByText := true, laidKinds := [.data, .data], laidTests := true, laidLooks := .later }
def CurveNothingUptoCardSaid : Prop := Claim7.holds Tryd.pinned (.plain (OpenSpec.upto curveNothingSpec)) curveNothingUptoCard

/-- THE SECOND FORM's CARD OF 'souterrainkeep.CurveBase'. -/
def curveBaseUptoCard : Claim7 := { stood := { row := curveBaseUptoRow, standIns := [], harness := (true, "a480d3e8bc925e12e1203e959bf3e4156975b924bc228b5481e7f42d26def2cf"), looks := false }, kinds := [], alts := [], laidByText := true, laidKinds := [.data, .data], laidTests := true, laidLooks := .later }
def CurveBaseUptoCardSaid : Prop := Claim7.holds Tryd.pinned (.plain (OpenSpec.upto curveBaseSpec)) curveBaseUptoCard
end Rows
end Go.Proofs.YtdpokjhoedhadabDoor
