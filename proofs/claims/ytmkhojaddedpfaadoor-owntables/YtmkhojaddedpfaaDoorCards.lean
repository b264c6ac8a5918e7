/-
  DERIVED. GIVEN WITH THE SEED: THE CARDS: each row of YtmkhojaddedpfaaDoorRows.lean that lists a variable, with what it lists TIED to the program's text (the seventh form; the later family's looks); each row that meets fmt, with fmt's text TOLD by the authors' own Lean function (tested against real Go, not proved from fmt's source: count such statements apart). THE CARD IS WHAT COUNTS. Prove the row's statement (the work); the ties are given (YtmkhojaddedpfaaDoorTie.lean); close each card by the builder's one call (the guide's Derived/Test/ToyasCard.lean, 'card_holds'). Laid BY PROGRAM, IN A SANDBOX (cutbox-door.mjs). By AI agents, Wed Nov 11 2026. No macro, syntax, notation, axiom, sorry.
-/
import Derived.Test.YtmkhojaddedpfaaDoorRows
import GoSem.ClaimSeven
namespace Go.Proofs.YtmkhojaddedpfaaDoor
namespace Rows

/-- THE TIED CARD OF 'souterrainkeep.OwnTables'. -/
def ownTablesCard : Claim7 := { stood := { row := ownTablesRow, standIns := [], harness := (true, "05dedb810b304c11dde9825ffa5be9d876e82906217192cf6ba02776fb34d3d2"), looks := false }, kinds := [], alts := [], laidByText := true, laidKinds := [.data, .data, .data, .data], laidTests := true, laidLooks := .later }
def OwnTablesCardSaid : Prop := Claim7.holds Tryd.pinned (.plain (OpenSpec.ofChange ownTablesSpec)) ownTablesCard

/-- THE SECOND FORM's CARD OF 'souterrainkeep.OwnTables'. -/
def ownTablesUptoCard : Claim7 := { stood := { row := ownTablesUptoRow, standIns := [], harness := (true, "05dedb810b304c11dde9825ffa5be9d876e82906217192cf6ba02776fb34d3d2"), looks := false }, kinds := [], alts := [], laidByText := true, laidKinds := [.data, .data, .data, .data], laidTests := true, laidLooks := .later }
def OwnTablesUptoCardSaid : Prop := Claim7.holds Tryd.pinned (.plain (OpenSpec.upto ownTablesSpec)) ownTablesUptoCard
end Rows
end Go.Proofs.YtmkhojaddedpfaaDoor
