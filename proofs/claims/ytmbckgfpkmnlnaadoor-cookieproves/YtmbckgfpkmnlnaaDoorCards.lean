/-
  DERIVED. GIVEN WITH THE SEED: THE CARDS: each row of YtmbckgfpkmnlnaaDoorRows.lean that lists a variable, with what it lists TIED to the program's text (the seventh form; the later family's looks); each row that meets fmt, with fmt's text TOLD by the authors' own Lean function (tested against real Go, not proved from fmt's source: count such statements apart). THE CARD IS WHAT COUNTS. Prove the row's statement (the work); the ties are given (YtmbckgfpkmnlnaaDoorTie.lean); close each card by the builder's one call (the guide's Derived/Test/ToyasCard.lean, 'card_holds'). Laid BY PROGRAM, IN A SANDBOX (cutbox-door.mjs). By AI agents, Wed Nov 11 2026. No macro, syntax, notation, axiom, sorry.
-/
import Derived.Test.YtmbckgfpkmnlnaaDoorRows
import GoSem.ClaimSeven
namespace Go.Proofs.YtmbckgfpkmnlnaaDoor
namespace Rows

/-- THE TIED CARD OF 'souterrainkeep.CookieProves'. -/
def cookieProvesCard : Claim7 := { stood := { row := cookieProvesRow, standIns := [], harness := (true, "ea574b2f1391f8044c1198a74fe9144a667e909ae05708459710c128c7e62cae"), looks := false }, kinds := [], alts := [], laidByText := true, laidKinds := [.data, .data, .data], laidTests := true, laidLooks := .later }
def CookieProvesCardSaid : Prop := Claim7.holds Tryd.pinned (.plain (OpenSpec.ofChange cookieProvesSpec)) cookieProvesCard

/-- THE SECOND FORM's CARD OF 'souterrainkeep.CookieProves'. -/
def cookieProvesUptoCard : Claim7 := { stood := { row := cookieProvesUptoRow, standIns := [], harness := (true, "ea574b2f1391f8044c1198a74fe9144a667e909ae05708459710c128c7e62cae"), looks := false }, kinds := [], alts := [], laidByText := true, laidKinds := [.data, .data, .data], laidTests := true, laidLooks := .later }
def CookieProvesUptoCardSaid : Prop := Claim7.holds Tryd.pinned (.plain (OpenSpec.upto cookieProvesSpec)) cookieProvesUptoCard
end Rows
end Go.Proofs.YtmbckgfpkmnlnaaDoor
