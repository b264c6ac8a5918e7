/-
  No cell of these rows narrows 'for every input' (looked for: loops, veiled, ifaces, maps, wideKeys, modest, calm, conditions, laid).
  DERIVED. THE GIVEN ROWS OF THIS SEAT. 3 by the template 'for every input the law returns true; each argument reads behind the call as it read before'; 0 by the template 'total and deterministic' (their statements: YthabfejpejjenaaTotals.lean).
  GIVEN WITH THE SEED: the statements are not yours to turn. If you find one false, say at which input.
  Laid BY PROGRAM, IN A SANDBOX (cutbox-rows.mjs): the forced cells as the released guide's own fill.sh prints them over the translation 2a8b01030589f7bb… (all of the seat's roots in one cut). By AI agents, Wed Nov 11 2026. No macro, syntax, notation, axiom, sorry.
-/
import Derived.Test.YthabfejpejjenaaChecked
import GoSem.Claim
import GoSem.ClaimJoined
import GoSem.ClaimMapViews
import Derived.JoinedTies
import Derived.KernelRfl
namespace Go.Proofs.Ythabfejpejjenaa
/- THE CELL 'sum', in the pinned program and in every row, IS THE sha256 OF THE DUMP (.gsa) THAT YthabfejpejjenaaProg.lean LOADS. Nothing in Lean hashes anything: it is a label: what it is worth is what the hold of that sum in a sandbox is worth. -/
noncomputable def Try.pinned : Pinned := { name := "ythabfejpejjenaa", sum := "2a8b01030589f7bba478e044d1a10c57bba1be570c25d346f351755ae7bf00ef", checked := Try.checked }
namespace Rows
def none {H : Type} : Left H := { results := [], args := [] }

/-- 'souterrainlaw.ElemLow': WHATEVER THE INPUT: true; the input reads as it did. -/
def elemLowSpec : ChangeSpec := { name := "elemLow", fn := fun _ => fun
  | [d] => { results := [.lit (.bool true)], args := [d] }
  | _ => none }
def elemLowRow : OpenClaim := { program := "ythabfejpejjenaa", sum := "2a8b01030589f7bba478e044d1a10c57bba1be570c25d346f351755ae7bf00ef", func := "souterrain/souterrainlaw.ElemLow", spec := "elemLow", inPlace := ["internal/abi.NoEscape", "internal/bytealg.MakeNoZero"], unfollowed := true, recurses := true, apart := false }
def ElemLowSaid : Prop := elemLowRow.holds Try.pinned (OpenSpec.ofChange elemLowSpec)

/-- ITS FALSE NEIGHBOUR: 'it returns false'. Refute it at one input. -/
def elemLowWrong : ChangeSpec := { name := "elemLow", fn := fun _ => fun
  | [d] => { results := [.lit (.bool false)], args := [d] }
  | _ => none }
def ElemLowWrongFalsely : Prop := elemLowRow.holds Try.pinned (OpenSpec.ofChange elemLowWrong)

/-- 'souterrainlaw.ElemMuls': WHATEVER THE INPUT: true; the input reads as it did. -/
def elemMulsSpec : ChangeSpec := { name := "elemMuls", fn := fun _ => fun
  | [d1, d2] => { results := [.lit (.bool true)], args := [d1, d2] }
  | _ => none }
def elemMulsRow : OpenClaim := { program := "ythabfejpejjenaa", sum := "2a8b01030589f7bba478e044d1a10c57bba1be570c25d346f351755ae7bf00ef", func := "souterrain/souterrainlaw.ElemMuls", spec := "elemMuls", inPlace := ["internal/abi.NoEscape", "internal/bytealg.MakeNoZero"], unfollowed := true, recurses := true, apart := false }
def ElemMulsSaid : Prop := elemMulsRow.holds Try.pinned (OpenSpec.ofChange elemMulsSpec)

/-- ITS FALSE NEIGHBOUR: 'it returns false'. Refute it at one input. -/
def elemMulsWrong : ChangeSpec := { name := "elemMuls", fn := fun _ => fun
  | [d1, d2] => { results := [.lit (.bool false)], args := [d1, d2] }
  | _ => none }
def ElemMulsWrongFalsely : Prop := elemMulsRow.holds Try.pinned (OpenSpec.ofChange elemMulsWrong)

/-- 'souterrainlaw.ElemPows': WHATEVER THE INPUT: true; the input reads as it did. -/
def elemPowsSpec : ChangeSpec := { name := "elemPows", fn := fun _ => fun
  | [d1, d2] => { results := [.lit (.bool true)], args := [d1, d2] }
  | _ => none }
def elemPowsRow : OpenClaim := { program := "ythabfejpejjenaa", sum := "2a8b01030589f7bba478e044d1a10c57bba1be570c25d346f351755ae7bf00ef", func := "souterrain/souterrainlaw.ElemPows", spec := "elemPows", unfollowed := true, recurses := true, apart := false }
def ElemPowsSaid : Prop := elemPowsRow.holds Try.pinned (OpenSpec.ofChange elemPowsSpec)

/-- ITS FALSE NEIGHBOUR: 'it returns false'. Refute it at one input. -/
def elemPowsWrong : ChangeSpec := { name := "elemPows", fn := fun _ => fun
  | [d1, d2] => { results := [.lit (.bool false)], args := [d1, d2] }
  | _ => none }
def ElemPowsWrongFalsely : Prop := elemPowsRow.holds Try.pinned (OpenSpec.ofChange elemPowsWrong)

/- THE SECOND FORM. 'bulk': how many values and letters a reading holds, each counted each time it is reached (what is shared counts as often as it is met; a slice's spare places count too). A statement '..UptoSaid' is the law's where the arguments, and the package variables that the reading takes, are together of bulk at most 1048576: NARROWER than '..Said'. Prove '..Said' where nothing that the law and all that it calls make is longer than what came in: it says more and counts as full. Else prove '..UptoSaid'. A law counts once. -/
mutual
def uptoBulk {H : Type} : DataW H → Nat
  | .lit (.string bytes) => bytes.length + 1
  | .lit _ => 1
  | .nil => 1
  | .ptr d => uptoBulk d + 1
  | .slice elems spare => uptoBulkAll elems + uptoBulkAll spare + 1
  | .agg parts => uptoBulkAll parts + 1
  | .iface _ d => uptoBulk d + 1
  | .map entries => uptoBulkEntries entries + 1
  | .held _ => 1
def uptoBulkAll {H : Type} : List (DataW H) → Nat
  | [] => 0
  | d :: r => uptoBulk d + uptoBulkAll r
def uptoBulkEntries {H : Type} : List (Lit × DataW H) → Nat
  | [] => 0
  | x :: r => uptoBulkEntry x + uptoBulkEntries r
def uptoBulkEntry {H : Type} : Lit × DataW H → Nat
  | (.string bytes, d) => bytes.length + uptoBulk d + 1
  | (_, d) => uptoBulk d + 1
 end
def uptoSmall : (H : Type) → List (DataW H) → Bool := fun _ ds => decide (uptoBulkAll ds ≤ 1048576)
def OpenSpec.upto (s : _root_.Go.ChangeSpec) : _root_.Go.OpenSpec := { _root_.Go.OpenSpec.ofChange s with cond := some uptoSmall }

/-- 'souterrainlaw.ElemLow', WHERE WHAT IT READS IS OF BULK AT MOST 1048576: true; the input reads as it did. -/
def elemLowUptoRow : OpenClaim := { program := "ythabfejpejjenaa", sum := "2a8b01030589f7bba478e044d1a10c57bba1be570c25d346f351755ae7bf00ef", func := "souterrain/souterrainlaw.ElemLow", spec := "elemLow", inPlace := ["internal/abi.NoEscape", "internal/bytealg.MakeNoZero"], unfollowed := true, recurses := true, apart := false, narrowed := true }
def ElemLowUptoSaid : Prop := elemLowUptoRow.holds Try.pinned (OpenSpec.upto elemLowSpec)

/-- 'souterrainlaw.ElemMuls', WHERE WHAT IT READS IS OF BULK AT MOST 1048576: true; the input reads as it did. -/
def elemMulsUptoRow : OpenClaim := { program := "ythabfejpejjenaa", sum := "2a8b01030589f7bba478e044d1a10c57bba1be570c25d346f351755ae7bf00ef", func := "souterrain/souterrainlaw.ElemMuls", spec := "elemMuls", inPlace := ["internal/abi.NoEscape", "internal/bytealg.MakeNoZero"], unfollowed := true, recurses := true, apart := false, narrowed := true }
def ElemMulsUptoSaid : Prop := elemMulsUptoRow.holds Try.pinned (OpenSpec.upto elemMulsSpec)

/-- 'souterrainlaw.ElemPows', WHERE WHAT IT READS IS OF BULK AT MOST 1048576: true; the input reads as it did. -/
def elemPowsUptoRow : OpenClaim := { program := "ythabfejpejjenaa", sum := "2a8b01030589f7bba478e044d1a10c57bba1be570c25d346f351755ae7bf00ef", func := "souterrain/souterrainlaw.ElemPows", spec := "elemPows", unfollowed := true, recurses := true, apart := false, narrowed := true }
def ElemPowsUptoSaid : Prop := elemPowsUptoRow.holds Try.pinned (OpenSpec.upto elemPowsSpec)

end Rows
end Go.Proofs.Ythabfejpejjenaa
