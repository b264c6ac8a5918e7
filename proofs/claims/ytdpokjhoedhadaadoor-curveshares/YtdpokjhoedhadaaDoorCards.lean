/-
  DERIVED. GIVEN WITH THE SEED: THE CARDS: each row of YtdpokjhoedhadaaDoorRows.lean that lists a variable, with what it lists TIED to the program's text (the seventh form; the later family's looks); each row that meets fmt, with fmt's text TOLD by the authors' own Lean function (tested against real Go, not proved from fmt's source: count such statements apart). THE CARD IS WHAT COUNTS. Prove the row's statement (the work); the ties are given (YtdpokjhoedhadaaDoorTie.lean); close each card by the builder's one call (the guide's Derived/Test/ToyasCard.lean, 'card_holds'). Laid BY PROGRAM, IN A SANDBOX (cutbox-door.mjs). By AI agents, Wed Nov 11 2026. No macro, syntax, notation, axiom, sorry.
-/
import Derived.Test.YtdpokjhoedhadaaDoorRows
import GoSem.ClaimSeven
namespace Go.Proofs.YtdpokjhoedhadaaDoor
namespace Rows

/-- THE TIED CARD OF 'souterrainlaw.CurveMults'. -/
def curveMultsCard : Claim7 := { stood := { row := curveMultsRow, standIns := [], harness := (true, "60c4c9fdc2b3e4dec2a61077bcaa6191230837d56e555b0c45ad2dfbb02a1b72"), looks := false }, kinds := [], alts := [], laidByText := true, laidKinds := [.data, .data], laidTests := true, laidLooks := .later }
def CurveMultsCardSaid : Prop := Claim7.holds Tryd.pinned (.plain (OpenSpec.ofChange curveMultsSpec)) curveMultsCard

/-- THE TIED CARD OF 'souterrainlaw.CurveShares'. -/
def curveSharesCard : Claim7 := { stood := { row := curveSharesRow, standIns := [], harness := (true, "60c4c9fdc2b3e4dec2a61077bcaa6191230837d56e555b0c45ad2dfbb02a1b72"), looks := false }, kinds := [], alts := [], laidByText := true, laidKinds := [.data, .data], laidTests := true, laidLooks := .later }
def CurveSharesCardSaid : Prop := Claim7.holds Tryd.pinned (.plain (OpenSpec.ofChange curveSharesSpec)) curveSharesCard

/-- THE TIED CARD OF 'souterrainkeep.CurveMeets'. -/
def curveMeetsCard : Claim7 := { stood := { row := curveMeetsRow, standIns := [], harness := (true, "60c4c9fdc2b3e4dec2a61077bcaa6191230837d56e555b0c45ad2dfbb02a1b72"), looks := false }, kinds := [], alts := [], laidByText := true, laidKinds := [.data, .data], laidTests := true, laidLooks := .later }
def CurveMeetsCardSaid : Prop := Claim7.holds Tryd.pinned (.plain (OpenSpec.ofChange curveMeetsSpec)) curveMeetsCard

/-- THE TIED CARD OF 'souterrainkeep.CurveTwice'. -/
def curveTwiceCard : Claim7 := { stood := { row := curveTwiceRow, standIns := [], harness := (true, "60c4c9fdc2b3e4dec2a61077bcaa6191230837d56e555b0c45ad2dfbb02a1b72"), looks := false }, kinds := [], alts := [], laidByText := true, laidKinds := [.data, .data], laidTests := true, laidLooks := .later }
def CurveTwiceCardSaid : Prop := Claim7.holds Tryd.pinned (.plain (OpenSpec.ofChange curveTwiceSpec)) curveTwiceCard

/-- THE TIED CARD OF 'souterrainkeep.CurveClamped'. -/
def curveClampedCard : Claim7 := { stood := { row := curveClampedRow, standIns := [], harness := (true, "60c4c9fdc2b3e4dec2a61077bcaa6191230837d56e555b0c45ad2dfbb02a1b72"), looks := false }, kinds := [], alts := [], laidByText := true, laidKinds := [.data, .data], laidTests := true, laidLooks := .later }
def CurveClampedCardSaid : Prop := Claim7.holds Tryd.pinned (.plain (OpenSpec.ofChange curveClampedSpec)) curveClampedCard

/-- THE SECOND FORM's CARD OF 'souterrainlaw.CurveMults'. -/
def curveMultsUptoCard : Claim7 := { stood := { row := curveMultsUptoRow, standIns := [], harness := (true, "60c4c9fdc2b3e4dec2a61077bcaa6191230837d56e555b0c45ad2dfbb02a1b72"), looks := false }, kinds := [], alts := [], laidByText := true, laidKinds := [.data, .data], laidTests := true, laidLooks := .later }
def CurveMultsUptoCardSaid : Prop := Claim7.holds Tryd.pinned (.plain (OpenSpec.upto curveMultsSpec)) curveMultsUptoCard

/-- THE SECOND FORM's CARD OF 'souterrainlaw.CurveShares'. -/
def curveSharesUptoCard : Claim7 := { stood := { row := curveSharesUptoRow, standIns := [], harness := (true, "60c4c9fdc2b3e4dec2a61077bcaa6191230837d56e555b0c45ad2dfbb02a1b72"), looks := false }, kinds := [], alts := [], laidByText := true, laidKinds := [.data, .data], laidTests := true, laidLooks := .later }
def CurveSharesUptoCardSaid : Prop := Claim7.holds Tryd.pinned (.plain (OpenSpec.upto curveSharesSpec)) curveSharesUptoCard

/-- THE SECOND FORM's CARD OF 'souterrainkeep.CurveMeets'. -/
def curveMeetsUptoCard : Claim7 := { stood := { row := curveMeetsUptoRow, standIns := [], harness := (true, "60c4c9fdc2b3e4dec2a61077bcaa6191230837d56e555b0c45ad2dfbb02a1b72"), looks := false }, kinds := [], alts := [], laidByText := true, laidKinds := [.data, .data], laidTests := true, laidLooks := .later }
def CurveMeetsUptoCardSaid : Prop := Claim7.holds Tryd.pinned (.plain (OpenSpec.upto curveMeetsSpec)) curveMeetsUptoCard

/-- THE SECOND FORM's CARD OF 'souterrainkeep.CurveTwice'. -/
def curveTwiceUptoCard : Claim7 := { stood := { row := curveTwiceUptoRow, standIns := [], harness := (true, "60c4c9fdc2b3e4dec2a61077bcaa6191230837d56e555b0c45ad2dfbb02a1b72"), looks := false }, kinds := [], alts := [], laidByText := true, laidKinds := [.data, .data], laidTests := true, laidLooks := .later }
def CurveTwiceUptoCardSaid : Prop := Claim7.holds Tryd.pinned (.plain (OpenSpec.upto curveTwiceSpec)) curveTwiceUptoCard

/-- THE SECOND FORM's CARD OF 'souterrainkeep.CurveClamped'. -/
def curveClampedUptoCard : Claim7 := { stood := { row := curveClampedUptoRow, standIns := [], harness := (true, "60c4c9fdc2b3e4dec2a61077bcaa6191230837d56e555b0c45ad2dfbb02a1b72"), looks := false }, kinds := [], alts := [], laidByText := true, laidKinds := [.data, .data], laidTests := true, laidLooks := .later }
def CurveClampedUptoCardSaid : Prop := Claim7.holds Tryd.pinned (.plain (OpenSpec.upto curveClampedSpec)) curveClampedUptoCard
end Rows
end Go.Proofs.YtdpokjhoedhadaaDoor
