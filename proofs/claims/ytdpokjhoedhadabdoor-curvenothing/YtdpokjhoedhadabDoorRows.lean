/-
  NARROWER THAN 'FOR EVERY INPUT', by the rows' own cells (each row's printed sentence says how): CurveNothing: laid · CurveBase: laid.
  DERIVED. THE GIVEN ROWS OF THIS SEAT. 2 by the template 'for every input the law returns true; each argument reads behind the call as it read before'; 0 by the template 'total and deterministic' (their statements: YtdpokjhoedhadabDoorTotals.lean).
  GIVEN WITH THE SEED: the statements are not yours to turn. If you find one false, say at which input.
  Laid BY PROGRAM, IN A SANDBOX (cutbox-rows.mjs): the forced cells as the released guide's own fill.sh prints them over the translation 1dfebdf35cac0f2b… (all of the seat's roots in one cut). By AI agents, Wed Nov 11 2026. No macro, syntax, notation, axiom, sorry.
-/
import Derived.Test.YtdpokjhoedhadabDoorChecked
import GoSem.Claim
import GoSem.ClaimJoined
import GoSem.ClaimMapViews
import Derived.JoinedTies
import Derived.KernelRfl
namespace Go.Proofs.YtdpokjhoedhadabDoor
/- THE CELL 'sum', in the pinned program and in every row, IS THE sha256 OF THE DUMP (.gsa) THAT YtdpokjhoedhadabDoorProg.lean LOADS. Nothing in Lean hashes anything: it is a label: what it is worth is what the hold of that sum in a sandbox is worth. -/
noncomputable def Tryd.pinned : Pinned := { name := "ytdpokjhoedhadabdoor", sum := "1dfebdf35cac0f2bf8e743d6ec661f327b7332b2b53ec46e7b2454248f533ac7", checked := Tryd.checked }
namespace Rows
def none {H : Type} : Left H := { results := [], args := [] }

/- WHAT THE LISTED PACKAGE-LEVEL VARIABLES READ AS WHEN THE CALL BEGINS. Each datum BY PROGRAM (the guide's laid-datum.mjs) off the statement by which the dump's own 'gosem.cut.vars' lays the variable. In a bare row this is a premise. The card (YtdpokjhoedhadabDoorCards.lean) ties it to the program's text. -/
def laid_souterrain_elem_prime {H : Type} : DataW H := .agg [.lit (.int .u32 4294967277), .lit (.int .u32 4294967295), .lit (.int .u32 4294967295), .lit (.int .u32 4294967295), .lit (.int .u32 4294967295), .lit (.int .u32 4294967295), .lit (.int .u32 4294967295), .lit (.int .u32 2147483647)]
def laid_souterrain_elem_primeLessTwo {H : Type} : DataW H := .agg [.lit (.int .u32 4294967275), .lit (.int .u32 4294967295), .lit (.int .u32 4294967295), .lit (.int .u32 4294967295), .lit (.int .u32 4294967295), .lit (.int .u32 4294967295), .lit (.int .u32 4294967295), .lit (.int .u32 2147483647)]

/-- 'souterrainkeep.CurveNothing': WHATEVER THE INPUT: true; the input reads as it did. -/
def curveNothingSpec : ChangeSpec := { name := "curveNothing", fn := fun _ => fun
  | [d1, d2] => { results := [.lit (.bool true)], args := [d1, d2] }
  | _ => none }
def curveNothingRow : OpenClaim := { program := "ytdpokjhoedhadabdoor", sum := "1dfebdf35cac0f2bf8e743d6ec661f327b7332b2b53ec46e7b2454248f533ac7", func := "souterrain/souterrainkeep.CurveNothing", spec := "curveNothing", inPlace := ["internal/abi.NoEscape", "internal/bytealg.MakeNoZero"], unfollowed := true, recurses := true, named := ["souterrain/elem.prime", "souterrain/elem.primeLessTwo"], apart := false, laid := [("souterrain/elem.prime", laid_souterrain_elem_prime), ("souterrain/elem.primeLessTwo", laid_souterrain_elem_primeLessTwo)] }
def CurveNothingSaid : Prop := curveNothingRow.holds Tryd.pinned (OpenSpec.ofChange curveNothingSpec)

/-- ITS FALSE NEIGHBOUR: 'it returns false'. Refute it at one input. -/
def curveNothingWrong : ChangeSpec := { name := "curveNothing", fn := fun _ => fun
  | [d1, d2] => { results := [.lit (.bool false)], args := [d1, d2] }
  | _ => none }
def CurveNothingWrongFalsely : Prop := curveNothingRow.holds Tryd.pinned (OpenSpec.ofChange curveNothingWrong)

/-- 'souterrainkeep.CurveBase': WHATEVER THE INPUT: true; the input reads as it did. -/
def curveBaseSpec : ChangeSpec := { name := "curveBase", fn := fun _ => fun
  | [d] => { results := [.lit (.bool true)], args := [d] }
  | _ => none }
def curveBaseRow : OpenClaim := { program := "ytdpokjhoedhadabdoor", sum := "1dfebdf35cac0f2bf8e743d6ec661f327b7332b2b53ec46e7b2454248f533ac7", func := "souterrain/souterrainkeep.CurveBase", spec := "curveBase", inPlace := ["internal/abi.NoEscape", "internal/bytealg.MakeNoZero"], unfollowed := true, recurses := true, named := ["souterrain/elem.prime", "souterrain/elem.primeLessTwo"], apart := false, laid := [("souterrain/elem.prime", laid_souterrain_elem_prime), ("souterrain/elem.primeLessTwo", laid_souterrain_elem_primeLessTwo)] }
def CurveBaseSaid : Prop := curveBaseRow.holds Tryd.pinned (OpenSpec.ofChange curveBaseSpec)

/-- ITS FALSE NEIGHBOUR: 'it returns false'. Refute it at one input. -/
def curveBaseWrong : ChangeSpec := { name := "curveBase", fn := fun _ => fun
  | [d] => { results := [.lit (.bool false)], args := [d] }
  | _ => none }
def CurveBaseWrongFalsely : Prop := curveBaseRow.holds Tryd.pinned (OpenSpec.ofChange curveBaseWrong)

/- THE SECOND FORM. 'bulk': how many values and letters a reading holds, each counted each time it is reached (what is shared counts as often as it is met; a slice's spare places count too). A statement '..UptoSaid' is the law's where the arguments, and the package variables that the reading takes, are together of bulk at most 1048576: NARROWER than '..Said'. Prove '..Said' where nothing that the law and all that it calls make is longer than what came in: it says more and counts as full. Else prove '..UptoSaid'. A law counts once. -/
mutual
def uptoBulk {H : Type} : DataW H → Nat
  | .lit (.string bytes) => bytes.length + 1
  | .lit _ => 1
  | .nil => 1
  | .ptr d => uptoBulk d + 1
  | .slice elems spare => uptoBulkAll elems + uptoBulkAll spare + 1
  | .agg parts => uptoBulkAll parts + 1
  | .iface _ d => uptoBulk d + 1
  | .map entries => uptoBulkEntries entries + 1
  | .held _ => 1
def uptoBulkAll {H : Type} : List (DataW H) → Nat
  | [] => 0
  | d :: r => uptoBulk d + uptoBulkAll r
def uptoBulkEntries {H : Type} : List (Lit × DataW H) → Nat
  | [] => 0
  | x :: r => uptoBulkEntry x + uptoBulkEntries r
def uptoBulkEntry {H : Type} : Lit × DataW H → Nat
  | (.string bytes, d) => bytes.length + uptoBulk d + 1
  | (_, d) => uptoBulk d + 1
 end
def uptoSmall : (H : Type) → List (DataW H) → Bool := fun _ ds => decide (uptoBulkAll ds ≤ 1048576)
def OpenSpec.upto (s : _root_.Go.ChangeSpec) : _root_.Go.OpenSpec := { _root_.Go.OpenSpec.ofChange s with cond := some uptoSmall }

/-- 'souterrainkeep.CurveNothing', WHERE WHAT IT READS IS OF BULK AT MOST 1048576: true; the input reads as it did. -/
def curveNothingUptoRow : OpenClaim := { program := "ytdpokjhoedhadabdoor", sum := "1dfebdf35cac0f2bf8e743d6ec661f327b7332b2b53ec46e7b2454248f533ac7", func := "souterrain/souterrainkeep.CurveNothing", spec := "curveNothing", inPlace := ["internal/abi.NoEscape", "internal/bytealg.MakeNoZero"], unfollowed := true, recurses := true, named := ["souterrain/elem.prime", "souterrain/elem.primeLessTwo"], apart := false, laid := [("souterrain/elem.prime", laid_souterrain_elem_prime), ("souterrain/elem.primeLessTwo", laid_souterrain_elem_primeLessTwo)], narrowed := true }
def CurveNothingUptoSaid : Prop := curveNothingUptoRow.holds Tryd.pinned (OpenSpec.upto curveNothingSpec)

/-- 'souterrainkeep.CurveBase', WHERE WHAT IT READS IS OF BULK AT MOST 1048576: true; the input reads as it did. -/
def curveBaseUptoRow : OpenClaim := { program := "ytdpokjhoedhadabdoor", sum := "1dfebdf35cac0f2bf8e743d6ec661f327b7332b2b53ec46e7b2454248f533ac7", func := "souterrain/souterrainkeep.CurveBase", spec := "curveBase", inPlace := ["internal/abi.NoEscape", "internal/bytealg.MakeNoZero"], unfollowed := true, recurses := true, named := ["souterrain/elem.prime", "souterrain/elem.primeLessTwo"], apart := false, laid := [("souterrain/elem.prime", laid_souterrain_elem_prime), ("souterrain/elem.primeLessTwo", laid_souterrain_elem_primeLessTwo)], narrowed := true }
def CurveBaseUptoSaid : Prop := curveBaseUptoRow.holds Tryd.pinned (OpenSpec.upto curveBaseSpec)

end Rows
end Go.Proofs.YtdpokjhoedhadabDoor
