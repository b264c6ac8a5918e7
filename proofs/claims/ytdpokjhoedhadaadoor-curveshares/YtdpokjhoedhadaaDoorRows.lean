/-
  NARROWER THAN 'FOR EVERY INPUT', by the rows' own cells (each row's printed sentence says how): CurveMults: laid · CurveShares: laid · CurveMeets: laid · CurveTwice: laid · CurveClamped: laid.
  DERIVED. THE GIVEN ROWS OF THIS SEAT. 5 by the template 'for every input the law returns true; each argument reads behind the call as it read before'; 0 by the template 'total and deterministic' (their statements: YtdpokjhoedhadaaDoorTotals.lean).
  GIVEN WITH THE SEED: the statements are not yours to turn. If you find one false, say at which input.
  Laid BY PROGRAM, IN A SANDBOX (cutbox-rows.mjs): the forced cells as the released guide's own fill.sh prints them over the translation c8932e6529b34d6a… (all of the seat's roots in one cut). By AI agents, Wed Nov 11 2026. No macro, syntax, notation, axiom, sorry.
-/
import Derived.Test.YtdpokjhoedhadaaDoorChecked
import GoSem.Claim
import GoSem.ClaimJoined
import GoSem.ClaimMapViews
import Derived.JoinedTies
import Derived.KernelRfl
namespace Go.Proofs.YtdpokjhoedhadaaDoor
/- THE CELL 'sum', in the pinned program and in every row, IS THE sha256 OF THE DUMP (.gsa) THAT YtdpokjhoedhadaaDoorProg.lean LOADS. Nothing in Lean hashes anything: it is a label: what it is worth is what the hold of that sum in a sandbox is worth. -/
noncomputable def Tryd.pinned : Pinned := { name := "ytdpokjhoedhadaadoor", sum := "c8932e6529b34d6ac9d0b064ecd19bc2af2453bfd85ab11e77f2e0324cbbd2e5", checked := Tryd.checked }
namespace Rows
def none {H : Type} : Left H := { results := [], args := [] }

/- WHAT THE LISTED PACKAGE-LEVEL VARIABLES READ AS WHEN THE CALL BEGINS. Each datum BY PROGRAM (the guide's laid-datum.mjs) off the statement by which the dump's own 'gosem.cut.vars' lays the variable. In a bare row this is a premise. The card (YtdpokjhoedhadaaDoorCards.lean) ties it to the program's text. -/
def laid_souterrain_elem_prime {H : Type} : DataW H := .agg [.lit (.int .u32 4294967277), .lit (.int .u32 4294967295), .lit (.int .u32 4294967295), .lit (.int .u32 4294967295), .lit (.int .u32 4294967295), .lit (.int .u32 4294967295), .lit (.int .u32 4294967295), .lit (.int .u32 2147483647)]
def laid_souterrain_elem_primeLessTwo {H : Type} : DataW H := .agg [.lit (.int .u32 4294967275), .lit (.int .u32 4294967295), .lit (.int .u32 4294967295), .lit (.int .u32 4294967295), .lit (.int .u32 4294967295), .lit (.int .u32 4294967295), .lit (.int .u32 4294967295), .lit (.int .u32 2147483647)]

/-- 'souterrainlaw.CurveMults': WHATEVER THE INPUT: true; the input reads as it did. -/
def curveMultsSpec : ChangeSpec := { name := "curveMults", fn := fun _ => fun
  | [d1, d2] => { results := [.lit (.bool true)], args := [d1, d2] }
  | _ => none }
def curveMultsRow : OpenClaim := { program := "ytdpokjhoedhadaadoor", sum := "c8932e6529b34d6ac9d0b064ecd19bc2af2453bfd85ab11e77f2e0324cbbd2e5", func := "souterrain/souterrainlaw.CurveMults", spec := "curveMults", inPlace := ["internal/abi.NoEscape", "internal/bytealg.MakeNoZero"], unfollowed := true, recurses := true, named := ["souterrain/elem.prime", "souterrain/elem.primeLessTwo"], apart := false, laid := [("souterrain/elem.prime", laid_souterrain_elem_prime), ("souterrain/elem.primeLessTwo", laid_souterrain_elem_primeLessTwo)] }
def CurveMultsSaid : Prop := curveMultsRow.holds Tryd.pinned (OpenSpec.ofChange curveMultsSpec)

/-- ITS FALSE NEIGHBOUR: 'it returns false'. Refute it at one input. -/
def curveMultsWrong : ChangeSpec := { name := "curveMults", fn := fun _ => fun
  | [d1, d2] => { results := [.lit (.bool false)], args := [d1, d2] }
  | _ => none }
def CurveMultsWrongFalsely : Prop := curveMultsRow.holds Tryd.pinned (OpenSpec.ofChange curveMultsWrong)

/-- 'souterrainlaw.CurveShares': WHATEVER THE INPUT: true; the input reads as it did. -/
def curveSharesSpec : ChangeSpec := { name := "curveShares", fn := fun _ => fun
  | [d1, d2] => { results := [.lit (.bool true)], args := [d1, d2] }
  | _ => none }
def curveSharesRow : OpenClaim := { program := "ytdpokjhoedhadaadoor", sum := "c8932e6529b34d6ac9d0b064ecd19bc2af2453bfd85ab11e77f2e0324cbbd2e5", func := "souterrain/souterrainlaw.CurveShares", spec := "curveShares", inPlace := ["internal/abi.NoEscape", "internal/bytealg.MakeNoZero"], unfollowed := true, recurses := true, named := ["souterrain/elem.prime", "souterrain/elem.primeLessTwo"], apart := false, laid := [("souterrain/elem.prime", laid_souterrain_elem_prime), ("souterrain/elem.primeLessTwo", laid_souterrain_elem_primeLessTwo)] }
def CurveSharesSaid : Prop := curveSharesRow.holds Tryd.pinned (OpenSpec.ofChange curveSharesSpec)

/-- ITS FALSE NEIGHBOUR: 'it returns false'. Refute it at one input. -/
def curveSharesWrong : ChangeSpec := { name := "curveShares", fn := fun _ => fun
  | [d1, d2] => { results := [.lit (.bool false)], args := [d1, d2] }
  | _ => none }
def CurveSharesWrongFalsely : Prop := curveSharesRow.holds Tryd.pinned (OpenSpec.ofChange curveSharesWrong)

/-- 'souterrainkeep.CurveMeets': WHATEVER THE INPUT: true; the input reads as it did. -/
def curveMeetsSpec : ChangeSpec := { name := "curveMeets", fn := fun _ => fun
  | [d1, d2] => { results := [.lit (.bool true)], args := [d1, d2] }
  | _ => none }
def curveMeetsRow : OpenClaim := { program := "ytdpokjhoedhadaadoor", sum := "c8932e6529b34d6ac9d0b064ecd19bc2af2453bfd85ab11e77f2e0324cbbd2e5", func := "souterrain/souterrainkeep.CurveMeets", spec := "curveMeets", inPlace := ["internal/abi.NoEscape", "internal/bytealg.MakeNoZero"], unfollowed := true, recurses := true, named := ["souterrain/elem.prime", "souterrain/elem.primeLessTwo"], apart := false, laid := [("souterrain/elem.prime", laid_souterrain_elem_prime), ("souterrain/elem.primeLessTwo", laid_souterrain_elem_primeLessTwo)] }
def CurveMeetsSaid : Prop := curveMeetsRow.holds Tryd.pinned (OpenSpec.ofChange curveMeetsSpec)

/-- ITS FALSE NEIGHBOUR: 'it returns false'. Refute it at one input. -/
def curveMeetsWrong : ChangeSpec := { name := "curveMeets", fn := fun _ => fun
  | [d1, d2] => { results := [.lit (.bool false)], args := [d1, d2] }
  | _ => none }
def CurveMeetsWrongFalsely : Prop := curveMeetsRow.holds Tryd.pinned (OpenSpec.ofChange curveMeetsWrong)

/-- 'souterrainkeep.CurveTwice': WHATEVER THE INPUT: true; the input reads as it did. -/
def curveTwiceSpec : ChangeSpec := { name := "curveTwice", fn := fun _ => fun
  | [d1, d2, d3] => { results := [.lit (.bool true)], args := [d1, d2, d3] }
  | _ => none }
def curveTwiceRow : OpenClaim := { program := "ytdpokjhoedhadaadoor", sum := "c8932e6529b34d6ac9d0b064ecd19bc2af2453bfd85ab11e77f2e0324cbbd2e5", func := "souterrain/souterrainkeep.CurveTwice", spec := "curveTwice", inPlace := ["internal/abi.NoEscape", "internal/bytealg.MakeNoZero"], unfollowed := true, recurses := true, named := ["souterrain/elem.prime", "souterrain/elem.primeLessTwo"], apart := false, laid := [("souterrain/elem.prime", laid_souterrain_elem_prime), ("souterrain/elem.primeLessTwo", laid_souterrain_elem_primeLessTwo)] }
def CurveTwiceSaid : Prop := curveTwiceRow.holds Tryd.pinned (OpenSpec.ofChange curveTwiceSpec)

/-- ITS FALSE NEIGHBOUR: 'it returns false'. Refute it at one input. -/
def curveTwiceWrong : ChangeSpec := { name := "curveTwice", fn := fun _ => fun
  | [d1, d2, d3] => { results := [.lit (.bool false)], args := [d1, d2, d3] }
  | _ => none }
def CurveTwiceWrongFalsely : Prop := curveTwiceRow.holds Tryd.pinned (OpenSpec.ofChange curveTwiceWrong)

/-- 'souterrainkeep.CurveClamped': WHATEVER THE INPUT: true; the input reads as it did. -/
def curveClampedSpec : ChangeSpec := { name := "curveClamped", fn := fun _ => fun
  | [d1, d2] => { results := [.lit (.bool true)], args := [d1, d2] }
  | _ => none }
def curveClampedRow : OpenClaim := { program := "ytdpokjhoedhadaadoor", sum := "c8932e6529b34d6ac9d0b064ecd19bc2af2453bfd85ab11e77f2e0324cbbd2e5", func := "souterrain/souterrainkeep.CurveClamped", spec := "curveClamped", inPlace := ["internal/abi.NoEscape", "internal/bytealg.MakeNoZero"], unfollowed := true, recurses := true, named := ["souterrain/elem.prime", "souterrain/elem.primeLessTwo"], apart := false, laid := [("souterrain/elem.prime", laid_souterrain_elem_prime), ("souterrain/elem.primeLessTwo", laid_souterrain_elem_primeLessTwo)] }
def CurveClampedSaid : Prop := curveClampedRow.holds Tryd.pinned (OpenSpec.ofChange curveClampedSpec)

/-- ITS FALSE NEIGHBOUR: 'it returns false'. Refute it at one input. -/
def curveClampedWrong : ChangeSpec := { name := "curveClamped", fn := fun _ => fun
  | [d1, d2] => { results := [.lit (.bool false)], args := [d1, d2] }
  | _ => none }
def CurveClampedWrongFalsely : Prop := curveClampedRow.holds Tryd.pinned (OpenSpec.ofChange curveClampedWrong)

/- THE SECOND FORM. 'bulk': how many values and letters a reading holds, each counted each time it is reached (what is shared counts as often as it is met; a slice's spare places count too). A statement '..UptoSaid' is the law's where the arguments, and the package variables that the reading takes, are together of bulk at most 1048576: NARROWER than '..Said'. Prove '..Said' where nothing that the law and all that it calls make is longer than what came in: it says more and counts as full. Else prove '..UptoSaid'. A law counts once. -/
mutual
def uptoBulk {H : Type} : DataW H → Nat
  | .lit (.string bytes) => bytes.length + 1
  | .lit _ => 1
  | .nil => 1
  | .ptr d => uptoBulk d + 1
  | .slice elems spare => uptoBulkAll elems + uptoBulkAll spare + 1
  | .agg parts => uptoBulkAll parts + 1
  | .iface _ d => uptoBulk d + 1
  | .map entries => uptoBulkEntries entries + 1
  | .held _ => 1
def uptoBulkAll {H : Type} : List (DataW H) → Nat
  | [] => 0
  | d :: r => uptoBulk d + uptoBulkAll r
def uptoBulkEntries {H : Type} : List (Lit × DataW H) → Nat
  | [] => 0
  | x :: r => uptoBulkEntry x + uptoBulkEntries r
def uptoBulkEntry {H : Type} : Lit × DataW H → Nat
  | (.string bytes, d) => bytes.length + uptoBulk d + 1
  | (_, d) => uptoBulk d + 1
 end
def uptoSmall : (H : Type) → List (DataW H) → Bool := fun _ ds => decide (uptoBulkAll ds ≤ 1048576)
def OpenSpec.upto (s : _root_.Go.ChangeSpec) : _root_.Go.OpenSpec := { _root_.Go.OpenSpec.ofChange s with cond := some uptoSmall }

/-- 'souterrainlaw.CurveMults', WHERE WHAT IT READS IS OF BULK AT MOST 1048576: true; the input reads as it did. -/
def curveMultsUptoRow : OpenClaim := { program := "ytdpokjhoedhadaadoor", sum := "c8932e6529b34d6ac9d0b064ecd19bc2af2453bfd85ab11e77f2e0324cbbd2e5", func := "souterrain/souterrainlaw.CurveMults", spec := "curveMults", inPlace := ["internal/abi.NoEscape", "internal/bytealg.MakeNoZero"], unfollowed := true, recurses := true, named := ["souterrain/elem.prime", "souterrain/elem.primeLessTwo"], apart := false, laid := [("souterrain/elem.prime", laid_souterrain_elem_prime), ("souterrain/elem.primeLessTwo", laid_souterrain_elem_primeLessTwo)], narrowed := true }
def CurveMultsUptoSaid : Prop := curveMultsUptoRow.holds Tryd.pinned (OpenSpec.upto curveMultsSpec)

/-- 'souterrainlaw.CurveShares', WHERE WHAT IT READS IS OF BULK AT MOST 1048576: true; the input reads as it did. -/
def curveSharesUptoRow : OpenClaim := { program := "ytdpokjhoedhadaadoor", sum := "c8932e6529b34d6ac9d0b064ecd19bc2af2453bfd85ab11e77f2e0324cbbd2e5", func := "souterrain/souterrainlaw.CurveShares", spec := "curveShares", inPlace := ["internal/abi.NoEscape", "internal/bytealg.MakeNoZero"], unfollowed := true, recurses := true, named := ["souterrain/elem.prime", "souterrain/elem.primeLessTwo"], apart := false, laid := [("souterrain/elem.prime", laid_souterrain_elem_prime), ("souterrain/elem.primeLessTwo", laid_souterrain_elem_primeLessTwo)], narrowed := true }
def CurveSharesUptoSaid : Prop := curveSharesUptoRow.holds Tryd.pinned (OpenSpec.upto curveSharesSpec)

/-- 'souterrainkeep.CurveMeets', WHERE WHAT IT READS IS OF BULK AT MOST 1048576: true; the input reads as it did. -/
def curveMeetsUptoRow : OpenClaim := { program := "ytdpokjhoedhadaadoor", sum := "c8932e6529b34d6ac9d0b064ecd19bc2af2453bfd85ab11e77f2e0324cbbd2e5", func := "souterrain/souterrainkeep.CurveMeets", spec := "curveMeets", inPlace := ["internal/abi.NoEscape", "internal/bytealg.MakeNoZero"], unfollowed := true, recurses := true, named := ["souterrain/elem.prime", "souterrain/elem.primeLessTwo"], apart := false, laid := [("souterrain/elem.prime", laid_souterrain_elem_prime), ("souterrain/elem.primeLessTwo", laid_souterrain_elem_primeLessTwo)], narrowed := true }
def CurveMeetsUptoSaid : Prop := curveMeetsUptoRow.holds Tryd.pinned (OpenSpec.upto curveMeetsSpec)

/-- 'souterrainkeep.CurveTwice', WHERE WHAT IT READS IS OF BULK AT MOST 1048576: true; the input reads as it did. -/
def curveTwiceUptoRow : OpenClaim := { program := "ytdpokjhoedhadaadoor", sum := "c8932e6529b34d6ac9d0b064ecd19bc2af2453bfd85ab11e77f2e0324cbbd2e5", func := "souterrain/souterrainkeep.CurveTwice", spec := "curveTwice", inPlace := ["internal/abi.NoEscape", "internal/bytealg.MakeNoZero"], unfollowed := true, recurses := true, named := ["souterrain/elem.prime", "souterrain/elem.primeLessTwo"], apart := false, laid := [("souterrain/elem.prime", laid_souterrain_elem_prime), ("souterrain/elem.primeLessTwo", laid_souterrain_elem_primeLessTwo)], narrowed := true }
def CurveTwiceUptoSaid : Prop := curveTwiceUptoRow.holds Tryd.pinned (OpenSpec.upto curveTwiceSpec)

/-- 'souterrainkeep.CurveClamped', WHERE WHAT IT READS IS OF BULK AT MOST 1048576: true; the input reads as it did. -/
def curveClampedUptoRow : OpenClaim := { program := "ytdpokjhoedhadaadoor", sum := "c8932e6529b34d6ac9d0b064ecd19bc2af2453bfd85ab11e77f2e0324cbbd2e5", func := "souterrain/souterrainkeep.CurveClamped", spec := "curveClamped", inPlace := ["internal/abi.NoEscape", "internal/bytealg.MakeNoZero"], unfollowed := true, recurses := true, named := ["souterrain/elem.prime", "souterrain/elem.primeLessTwo"], apart := false, laid := [("souterrain/elem.prime", laid_souterrain_elem_prime), ("souterrain/elem.primeLessTwo", laid_souterrain_elem_primeLessTwo)], narrowed := true }
def CurveClampedUptoSaid : Prop := curveClampedUptoRow.holds Tryd.pinned (OpenSpec.upto curveClampedSpec)

end Rows
end Go.Proofs.YtdpokjhoedhadaaDoor
