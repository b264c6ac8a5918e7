/-
  DERIVED. GIVEN WITH THE SEED: THE CARDS: each row of YthabfejpejjenabDoorRows.lean that lists a variable, with what it lists TIED to the program's text (the seventh form; the later family's looks); each row that meets fmt, with fmt's text TOLD by the authors' own Lean function (tested against real Go, not proved from fmt's source: count such statements apart). THE CARD IS WHAT COUNTS. Prove the row's statement (the work); the ties are given (YthabfejpejjenabDoorTie.lean); close each card by the builder's one call (the guide's Derived/Test/ToyasCard.lean, 'card_holds'). Laid BY PROGRAM, IN A SANDBOX (cutbox-door.mjs). By AI agents, Wed Nov 11 2026. No macro, syntax, notation, axiom, sorry.
-/
import Derived.Test.YthabfejpejjenabDoorRows
import GoSem.ClaimSeven
namespace Go.Proofs.YthabfejpejjenabDoor
namespace Rows

/-- THE TIED CARD OF 'souterrainkeep.ElemInverse'. -/
def elemInverseCard : Claim7 := { stood := { row := elemInverseRow, standIns := [], harness := (true, "5fa2e93003ba34a3ca350e499436d953c939a05aad2ca7a2edb74788f1abdef9"), looks := false }, kinds := [], alts := [], laidByText := true, laidKinds := [.data], laidTests := true, laidLooks := .later }
def ElemInverseCardSaid : Prop := Claim7.holds Tryd.pinned (.plain (OpenSpec.ofChange elemInverseSpec)) elemInverseCard

/-- THE SECOND FORM's CARD OF 'souterrainkeep.ElemInverse'. -/
def elemInverseUptoCard : Claim7 := { stood := { row := elemInverseUptoRow, standIns := [], harness := (true, "5fa2e93003ba34a3ca350e499436d953c939a05aad2ca7a2edb74788f1abdef9"), looks := false }, kinds := [], alts := [], laidByText := true, laidKinds := [.data], laidTests := true, laidLooks := .later }
def ElemInverseUptoCardSaid : Prop := Claim7.holds Tryd.pinned (.plain (OpenSpec.upto elemInverseSpec)) elemInverseUptoCard
end Rows
end Go.Proofs.YthabfejpejjenabDoor
