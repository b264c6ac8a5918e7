/-
  DERIVED. GIVEN WITH THE SEED: THE CARDS: each row of YthabfejpejjenaaDoorRows.lean that lists a variable, with what it lists TIED to the program's text (the seventh form; the later family's looks); each row that meets fmt, with fmt's text TOLD by the authors' own Lean function (tested against real Go, not proved from fmt's source: count such statements apart). THE CARD IS WHAT COUNTS. Prove the row's statement (the work); the ties are given (YthabfejpejjenaaDoorTie.lean); close each card by the builder's one call (the guide's Derived/Test/ToyasCard.lean, 'card_holds'). Laid BY PROGRAM, IN A SANDBOX (cutbox-door.mjs). By AI agents, Wed Nov 11 2026. No macro, syntax, notation, axiom, sorry.
-/
import Derived.Test.YthabfejpejjenaaDoorRows
import GoSem.ClaimSeven
namespace Go.Proofs.YthabfejpejjenaaDoor
namespace Rows

/-- THE TIED CARD OF 'souterrainlaw.ElemSums'. -/
def elemSumsCard : Claim7 := { stood := { row := elemSumsRow, standIns := [], harness := (true, "74c704b41d496a7b0bec56a5b275caa40ea753e17ac7ada12f7f31fb6c032d75"), looks := false }, kinds := [], alts := [], laidByText := true, laidKinds := [.data], laidTests := true, laidLooks := .later }
def ElemSumsCardSaid : Prop := Claim7.holds Tryd.pinned (.plain (OpenSpec.ofChange elemSumsSpec)) elemSumsCard

/-- THE TIED CARD OF 'souterrainlaw.ElemInvs'. -/
def elemInvsCard : Claim7 := { stood := { row := elemInvsRow, standIns := [], harness := (true, "74c704b41d496a7b0bec56a5b275caa40ea753e17ac7ada12f7f31fb6c032d75"), looks := false }, kinds := [], alts := [], laidByText := true, laidKinds := [.data], laidTests := true, laidLooks := .later }
def ElemInvsCardSaid : Prop := Claim7.holds Tryd.pinned (.plain (OpenSpec.ofChange elemInvsSpec)) elemInvsCard

/-- THE TIED CARD OF 'souterrainkeep.ElemAdds'. -/
def elemAddsCard : Claim7 := { stood := { row := elemAddsRow, standIns := [], harness := (true, "74c704b41d496a7b0bec56a5b275caa40ea753e17ac7ada12f7f31fb6c032d75"), looks := false }, kinds := [], alts := [], laidByText := true, laidKinds := [.data], laidTests := true, laidLooks := .later }
def ElemAddsCardSaid : Prop := Claim7.holds Tryd.pinned (.plain (OpenSpec.ofChange elemAddsSpec)) elemAddsCard

/-- THE SECOND FORM's CARD OF 'souterrainlaw.ElemSums'. -/
def elemSumsUptoCard : Claim7 := { stood := { row := elemSumsUptoRow, standIns := [], harness := (true, "74c704b41d496a7b0bec56a5b275caa40ea753e17ac7ada12f7f31fb6c032d75"), looks := false }, kinds := [], alts := [], laidByText := true, laidKinds := [.data], laidTests := true, laidLooks := .later }
def ElemSumsUptoCardSaid : Prop := Claim7.holds Tryd.pinned (.plain (OpenSpec.upto elemSumsSpec)) elemSumsUptoCard

/-- THE SECOND FORM's CARD OF 'souterrainlaw.ElemInvs'. -/
def elemInvsUptoCard : Claim7 := { stood := { row := elemInvsUptoRow, standIns := [], harness := (true, "74c704b41d496a7b0bec56a5b275caa40ea753e17ac7ada12f7f31fb6c032d75"), looks := false }, kinds := [], alts := [], laidByText := true, laidKinds := [.data], laidTests := true, laidLooks := .later }
def ElemInvsUptoCardSaid : Prop := Claim7.holds Tryd.pinned (.plain (OpenSpec.upto elemInvsSpec)) elemInvsUptoCard

/-- THE SECOND FORM's CARD OF 'souterrainkeep.ElemAdds'. -/
def elemAddsUptoCard : Claim7 := { stood := { row := elemAddsUptoRow, standIns := [], harness := (true, "74c704b41d496a7b0bec56a5b275caa40ea753e17ac7ada12f7f31fb6c032d75"), looks := false }, kinds := [], alts := [], laidByText := true, laidKinds := [.data], laidTests := true, laidLooks := .later }
def ElemAddsUptoCardSaid : Prop := Claim7.holds Tryd.pinned (.plain (OpenSpec.upto elemAddsSpec)) elemAddsUptoCard
end Rows
end Go.Proofs.YthabfejpejjenaaDoor
