/-
  DERIVED. GIVEN WITH THE SEED: THE CARDS: each row of YtmbckgfpkmnlnabDoorRows.lean that lists a variable, with what it lists TIED to the program's text (the seventh form; the later family's looks); each row that meets fmt, with fmt's text TOLD by the authors' own Lean function (tested against real Go, not proved from fmt's source: count such statements apart). THE CARD IS WHAT COUNTS. Prove the row's statement (the work); the ties are given (YtmbckgfpkmnlnabDoorTie.lean); close each card by the builder's one call (the guide's Derived/Test/ToyasCard.lean, 'card_holds'). Laid BY PROGRAM, IN A SANDBOX (cutbox-door.mjs). By AI agents, Wed Nov 11 2026. No macro, syntax, notation, axiom, sorry.
-/
import Derived.Test.YtmbckgfpkmnlnabDoorRows
import GoSem.ClaimSeven
namespace Go.Proofs.YtmbckgfpkmnlnabDoor
namespace Rows

/-- THE TIED CARD OF 'souterrainkeep.CookieBack'. -/
def cookieBackCard : Claim7 := { stood := { row := cookieBackRow, standIns := [], harness := (true, "d14a42abdfa936150f0aa3829e7bea75a8e2925d118d8f1eb362d09489ffebd5"), looks := false }, kinds := [], alts := [], laidByText := true, laidKinds := [.data, .data, .data], laidTests := true, laidLooks := .later }
def CookieBackCardSaid : Prop := Claim7.holds Tryd.pinned (.plain (OpenSpec.ofChange cookieBackSpec)) cookieBackCard

/-- THE TIED CARD OF 'souterrainkeep.CookieHolds'. -/
def cookieHoldsCard : Claim7 := { stood := { row := cookieHoldsRow, standIns := [], harness := (true, "d14a42abdfa936150f0aa3829e7bea75a8e2925d118d8f1eb362d09489ffebd5"), looks := false }, kinds := [], alts := [], laidByText := true, laidKinds := [.data, .data, .data], laidTests := true, laidLooks := .later }
def CookieHoldsCardSaid : Prop := Claim7.holds Tryd.pinned (.plain (OpenSpec.ofChange cookieHoldsSpec)) cookieHoldsCard

/-- THE SECOND FORM's CARD OF 'souterrainkeep.CookieBack'. -/
def cookieBackUptoCard : Claim7 := { stood := { row := cookieBackUptoRow, standIns := [], harness := (true, "d14a42abdfa936150f0aa3829e7bea75a8e2925d118d8f1eb362d09489ffebd5"), looks := false }, kinds := [], alts := [], laidByText := true, laidKinds := [.data, .data, .data], laidTests := true, laidLooks := .later }
def CookieBackUptoCardSaid : Prop := Claim7.holds Tryd.pinned (.plain (OpenSpec.upto cookieBackSpec)) cookieBackUptoCard

/-- THE SECOND FORM's CARD OF 'souterrainkeep.CookieHolds'. -/
def cookieHoldsUptoCard : Claim7 := { stood := { row := cookieHoldsUptoRow, standIns := [], harness := (true, "d14a42abdfa936150f0aa3829e7bea75a8e2925d118d8f1eb362d09489ffebd5"), looks := false }, kinds := [], alts := [], laidByText := true, laidKinds := [.data, .data, .data], laidTests := true, laidLooks := .later }
def CookieHoldsUptoCardSaid : Prop := Claim7.holds Tryd.pinned (.plain (OpenSpec.upto cookieHoldsSpec)) cookieHoldsUptoCard
end Rows
end Go.Proofs.YtmbckgfpkmnlnabDoor
