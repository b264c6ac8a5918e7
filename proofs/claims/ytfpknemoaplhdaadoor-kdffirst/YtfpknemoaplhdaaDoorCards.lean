/-
  DERIVED. GIVEN WITH THE SEED: THE CARDS: each row of YtfpknemoaplhdaaDoorRows.lean that lists a variable, with what it lists TIED to the program's text (the seventh form; the later family's looks); each row that meets fmt, with fmt's text TOLD by the authors' own Lean function (tested against real Go, not proved from fmt's source: count such statements apart). THE CARD IS WHAT COUNTS. Prove the row's statement (the work); the ties are given (YtfpknemoaplhdaaDoorTie.lean); close each card by the builder's one call (the guide's Derived/Test/ToyasCard.lean, 'card_holds'). Laid BY PROGRAM, IN A SANDBOX (cutbox-door.mjs). By AI agents, Wed Nov 11 2026. No macro, syntax, notation, axiom, sorry.
-/
import Derived.Test.YtfpknemoaplhdaaDoorRows
import GoSem.ClaimSeven
namespace Go.Proofs.YtfpknemoaplhdaaDoor
namespace Rows

/-- THE TIED CARD OF 'souterrainkeep.KdfKnown'. -/
def kdfKnownCard : Claim7 := { stood := { row := kdfKnownRow, standIns := [], harness := (true, "763c32b948d5aa0f7b4c5f4610f89e119f9106e36fe79adad22e87da5d5257f8"), looks := false }, kinds := [], alts := [], laidByText := true, laidKinds := [.data, .data, .data, .data], laidTests := true, laidLooks := .later }
def KdfKnownCardSaid : Prop := Claim7.holds Tryd.pinned (.plain (OpenSpec.ofChange kdfKnownSpec)) kdfKnownCard

/-- THE TIED CARD OF 'souterrainkeep.KdfKeys'. -/
def kdfKeysCard : Claim7 := { stood := { row := kdfKeysRow, standIns := [], harness := (true, "763c32b948d5aa0f7b4c5f4610f89e119f9106e36fe79adad22e87da5d5257f8"), looks := false }, kinds := [], alts := [], laidByText := true, laidKinds := [.data, .data, .data, .data], laidTests := true, laidLooks := .later }
def KdfKeysCardSaid : Prop := Claim7.holds Tryd.pinned (.plain (OpenSpec.ofChange kdfKeysSpec)) kdfKeysCard

/-- THE TIED CARD OF 'souterrainkeep.KdfFirst'. -/
def kdfFirstCard : Claim7 := { stood := { row := kdfFirstRow, standIns := [], harness := (true, "763c32b948d5aa0f7b4c5f4610f89e119f9106e36fe79adad22e87da5d5257f8"), looks := false }, kinds := [], alts := [], laidByText := true, laidKinds := [.data, .data, .data, .data], laidTests := true, laidLooks := .later }
def KdfFirstCardSaid : Prop := Claim7.holds Tryd.pinned (.plain (OpenSpec.ofChange kdfFirstSpec)) kdfFirstCard

/-- THE SECOND FORM's CARD OF 'souterrainkeep.KdfKnown'. -/
def kdfKnownUptoCard : Claim7 := { stood := { row := kdfKnownUptoRow, standIns := [], harness := (true, "763c32b948d5aa0f7b4c5f4610f89e119f9106e36fe79adad22e87da5d5257f8"), looks := false }, kinds := [], alts := [], laidByText := true, laidKinds := [.data, .data, .data, .data], laidTests := true, laidLooks := .later }
def KdfKnownUptoCardSaid : Prop := Claim7.holds Tryd.pinned (.plain (OpenSpec.upto kdfKnownSpec)) kdfKnownUptoCard

/-- THE SECOND FORM's CARD OF 'souterrainkeep.KdfKeys'. -/
def kdfKeysUptoCard : Claim7 := { stood := { row := kdfKeysUptoRow, standIns := [], harness := (true, "763c32b948d5aa0f7b4c5f4610f89e119f9106e36fe79adad22e87da5d5257f8"), looks := false }, kinds := [], alts := [], laidByText := true, laidKinds := [.data, .data, .data, .data], laidTests := true, laidLooks := .later }
def KdfKeysUptoCardSaid : Prop := Claim7.holds Tryd.pinned (.plain (OpenSpec.upto kdfKeysSpec)) kdfKeysUptoCard

/-- THE SECOND FORM's CARD OF 'souterrainkeep.KdfFirst'. -/
def kdfFirstUptoCard : Claim7 := { stood := { row := kdfFirstUptoRow, standIns := [], harness := (true, "763c32b948d5aa0f7b4c5f4610f89e119f9106e36fe79adad22e87da5d5257f8"), looks := false }, kinds := [], alts := [], laidByText := true, laidKinds := [.data, .data, .data, .data], laidTests := true, laidLooks := .later }
def KdfFirstUptoCardSaid : Prop := Claim7.holds Tryd.pinned (.plain (OpenSpec.upto kdfFirstSpec)) kdfFirstUptoCard
end Rows
end Go.Proofs.YtfpknemoaplhdaaDoor
