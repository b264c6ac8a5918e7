/-
  No cell of these rows narrows 'for every input' (looked for: loops, veiled, ifaces, maps, wideKeys, modest, calm, conditions, laid).
  DERIVED. THE GIVEN ROWS OF THIS SEAT. 4 by the template 'for every input the law returns true; each argument reads behind the call as it read before'; 0 by the template 'total and deterministic' (their statements: YthabfejpejjenabTotals.lean).
  GIVEN WITH THE SEED: the statements are not yours to turn. If you find one false, say at which input.
  Laid BY PROGRAM, IN A SANDBOX (cutbox-rows.mjs): the forced cells as the released guide's own fill.sh prints them over the translation 20e67d158150e135… (all of the seat's roots in one cut). By AI agents, Wed Nov 11 2026. No macro, syntax, notation, axiom, sorry.
-/
import Derived.Test.YthabfejpejjenabChecked
import GoSem.Claim
import GoSem.ClaimJoined
import GoSem.ClaimMapViews
import Derived.JoinedTies
import Derived.KernelRfl
namespace Go.Proofs.Ythabfejpejjenab
/- THE CELL 'sum', in the pinned program and in every row, IS THE sha256 OF THE DUMP (.gsa) THAT YthabfejpejjenabProg.lean LOADS. Nothing in Lean hashes anything: it is a label: what it is worth is what the hold of that sum in a sandbox is worth. -/
noncomputable def Try.pinned : Pinned := { name := "ythabfejpejjenab", sum := "20e67d158150e1358d48ee85c7e47f8ba8ea39568e862f7c9ce8bf8271c23148", checked := Try.checked }
namespace Rows
def none {H : Type} : Left H := { results := [], args := [] }

/-- 'souterrainkeep.ElemTimes': WHATEVER THE INPUT: true; the input reads as it did. -/
def elemTimesSpec : ChangeSpec := { name := "elemTimes", fn := fun _ => fun
  | [d1, d2, d3] => { results := [.lit (.bool true)], args := [d1, d2, d3] }
  | _ => none }
def elemTimesRow : OpenClaim := { program := "ythabfejpejjenab", sum := "20e67d158150e1358d48ee85c7e47f8ba8ea39568e862f7c9ce8bf8271c23148", func := "souterrain/souterrainkeep.ElemTimes", spec := "elemTimes", inPlace := ["internal/abi.NoEscape", "internal/bytealg.MakeNoZero"], unfollowed := true, recurses := true, apart := false }
def ElemTimesSaid : Prop := elemTimesRow.holds Try.pinned (OpenSpec.ofChange elemTimesSpec)

/-- ITS FALSE NEIGHBOUR: 'it returns false'. Refute it at one input. -/
def elemTimesWrong : ChangeSpec := { name := "elemTimes", fn := fun _ => fun
  | [d1, d2, d3] => { results := [.lit (.bool false)], args := [d1, d2, d3] }
  | _ => none }
def ElemTimesWrongFalsely : Prop := elemTimesRow.holds Try.pinned (OpenSpec.ofChange elemTimesWrong)

/-- 'souterrainkeep.ElemPowers': WHATEVER THE INPUT: true; the input reads as it did. -/
def elemPowersSpec : ChangeSpec := { name := "elemPowers", fn := fun _ => fun
  | [d1, d2, d3, d4] => { results := [.lit (.bool true)], args := [d1, d2, d3, d4] }
  | _ => none }
def elemPowersRow : OpenClaim := { program := "ythabfejpejjenab", sum := "20e67d158150e1358d48ee85c7e47f8ba8ea39568e862f7c9ce8bf8271c23148", func := "souterrain/souterrainkeep.ElemPowers", spec := "elemPowers", inPlace := ["internal/abi.NoEscape", "internal/bytealg.MakeNoZero"], unfollowed := true, recurses := true, apart := false }
def ElemPowersSaid : Prop := elemPowersRow.holds Try.pinned (OpenSpec.ofChange elemPowersSpec)

/-- ITS FALSE NEIGHBOUR: 'it returns false'. Refute it at one input. -/
def elemPowersWrong : ChangeSpec := { name := "elemPowers", fn := fun _ => fun
  | [d1, d2, d3, d4] => { results := [.lit (.bool false)], args := [d1, d2, d3, d4] }
  | _ => none }
def ElemPowersWrongFalsely : Prop := elemPowersRow.holds Try.pinned (OpenSpec.ofChange elemPowersWrong)

/-- 'souterrainkeep.ElemLeast': WHATEVER THE INPUT: true; the input reads as it did. -/
def elemLeastSpec : ChangeSpec := { name := "elemLeast", fn := fun _ => fun
  | [d] => { results := [.lit (.bool true)], args := [d] }
  | _ => none }
def elemLeastRow : OpenClaim := { program := "ythabfejpejjenab", sum := "20e67d158150e1358d48ee85c7e47f8ba8ea39568e862f7c9ce8bf8271c23148", func := "souterrain/souterrainkeep.ElemLeast", spec := "elemLeast", inPlace := ["internal/abi.NoEscape", "internal/bytealg.MakeNoZero"], unfollowed := true, recurses := true, apart := false }
def ElemLeastSaid : Prop := elemLeastRow.holds Try.pinned (OpenSpec.ofChange elemLeastSpec)

/-- ITS FALSE NEIGHBOUR: 'it returns false'. Refute it at one input. -/
def elemLeastWrong : ChangeSpec := { name := "elemLeast", fn := fun _ => fun
  | [d] => { results := [.lit (.bool false)], args := [d] }
  | _ => none }
def ElemLeastWrongFalsely : Prop := elemLeastRow.holds Try.pinned (OpenSpec.ofChange elemLeastWrong)

/-- 'souterrainkeep.ElemFermat': WHATEVER THE INPUT: true; the input reads as it did. -/
def elemFermatSpec : ChangeSpec := { name := "elemFermat", fn := fun _ => fun
  | [d] => { results := [.lit (.bool true)], args := [d] }
  | _ => none }
def elemFermatRow : OpenClaim := { program := "ythabfejpejjenab", sum := "20e67d158150e1358d48ee85c7e47f8ba8ea39568e862f7c9ce8bf8271c23148", func := "souterrain/souterrainkeep.ElemFermat", spec := "elemFermat", inPlace := ["internal/abi.NoEscape", "internal/bytealg.MakeNoZero"], unfollowed := true, recurses := true, apart := false }
def ElemFermatSaid : Prop := elemFermatRow.holds Try.pinned (OpenSpec.ofChange elemFermatSpec)

/-- ITS FALSE NEIGHBOUR: 'it returns false'. Refute it at one input. -/
def elemFermatWrong : ChangeSpec := { name := "elemFermat", fn := fun _ => fun
  | [d] => { results := [.lit (.bool false)], args := [d] }
  | _ => none }
def ElemFermatWrongFalsely : Prop := elemFermatRow.holds Try.pinned (OpenSpec.ofChange elemFermatWrong)

/- THE SECOND FORM. 'bulk': how many values and letters a reading holds, each counted each time it is reached (what is shared counts as often as it is met; a slice's spare places count too). A statement '..UptoSaid' is the law's where the arguments, and the package variables that the reading takes, are together of bulk at most 1048576: NARROWER than '..Said'. Prove '..Said' where nothing that the law and all that it calls make is longer than what came in: it says more and counts as full. Else prove '..UptoSaid'. A law counts once. -/
mutual
def uptoBulk {H : Type} : DataW H → Nat
  | .lit (.string bytes) => bytes.length + 1
  | .lit _ => 1
  | .nil => 1
  | .ptr d => uptoBulk d + 1
  | .slice elems spare => uptoBulkAll elems + uptoBulkAll spare + 1
  | .agg parts => uptoBulkAll parts + 1
  | .iface _ d => uptoBulk d + 1
  | .map entries => uptoBulkEntries entries + 1
  | .held _ => 1
def uptoBulkAll {H : Type} : List (DataW H) → Nat
  | [] => 0
  | d :: r => uptoBulk d + uptoBulkAll r
def uptoBulkEntries {H : Type} : List (Lit × DataW H) → Nat
  | [] => 0
  | x :: r => uptoBulkEntry x + uptoBulkEntries r
def uptoBulkEntry {H : Type} : Lit × DataW H → Nat
  | (.string bytes, d) => bytes.length + uptoBulk d + 1
  | (_, d) => uptoBulk d + 1
 end
def uptoSmall : (H : Type) → List (DataW H) → Bool := fun _ ds => decide (uptoBulkAll ds ≤ 1048576)
def OpenSpec.upto (s : _root_.Go.ChangeSpec) : _root_.Go.OpenSpec := { _root_.Go.OpenSpec.ofChange s with cond := some uptoSmall }

/-- 'souterrainkeep.ElemTimes', WHERE WHAT IT READS IS OF BULK AT MOST 1048576: true; the input reads as it did. -/
def elemTimesUptoRow : OpenClaim := { program := "ythabfejpejjenab", sum := "20e67d158150e1358d48ee85c7e47f8ba8ea39568e862f7c9ce8bf8271c23148", func := "souterrain/souterrainkeep.ElemTimes", spec := "elemTimes", inPlace := ["internal/abi.NoEscape", "internal/bytealg.MakeNoZero"], unfollowed := true, recurses := true, apart := false, narrowed := true }
def ElemTimesUptoSaid : Prop := elemTimesUptoRow.holds Try.pinned (OpenSpec.upto elemTimesSpec)

/-- 'souterrainkeep.ElemPowers', WHERE WHAT IT READS IS OF BULK AT MOST 1048576: true; the input reads as it did. -/
def elemPowersUptoRow : OpenClaim := { program := "ythabfejpejjenab", sum := "20e67d158150e1358d48ee85c7e47f8ba8ea39568e862f7c9ce8bf8271c23148", func := "souterrain/souterrainkeep.ElemPowers", spec := "elemPowers", inPlace := ["internal/abi.NoEscape", "internal/bytealg.MakeNoZero"], unfollowed := true, recurses := true, apart := false, narrowed := true }
def ElemPowersUptoSaid : Prop := elemPowersUptoRow.holds Try.pinned (OpenSpec.upto elemPowersSpec)

/-- 'souterrainkeep.ElemLeast', WHERE WHAT IT READS IS OF BULK AT MOST 1048576: true; the input reads as it did. -/
def elemLeastUptoRow : OpenClaim := { program := "ythabfejpejjenab", sum := "20e67d158150e1358d48ee85c7e47f8ba8ea39568e862f7c9ce8bf8271c23148", func := "souterrain/souterrainkeep.ElemLeast", spec := "elemLeast", inPlace := ["internal/abi.NoEscape", "internal/bytealg.MakeNoZero"], unfollowed := true, recurses := true, apart := false, narrowed := true }
def ElemLeastUptoSaid : Prop := elemLeastUptoRow.holds Try.pinned (OpenSpec.upto elemLeastSpec)

/-- 'souterrainkeep.ElemFermat', WHERE WHAT IT READS IS OF BULK AT MOST 1048576: true; the input reads as it did. -/
def elemFermatUptoRow : OpenClaim := { program := "ythabfejpejjenab", sum := "20e67d158150e1358d48ee85c7e47f8ba8ea39568e862f7c9ce8bf8271c23148", func := "souterrain/souterrainkeep.ElemFermat", spec := "elemFermat", inPlace := ["internal/abi.NoEscape", "internal/bytealg.MakeNoZero"], unfollowed := true, recurses := true, apart := false, narrowed := true }
def ElemFermatUptoSaid : Prop := elemFermatUptoRow.holds Try.pinned (OpenSpec.upto elemFermatSpec)

end Rows
end Go.Proofs.Ythabfejpejjenab
