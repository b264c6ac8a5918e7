/-
  No cell of these rows narrows 'for every input' (looked for: loops, veiled, ifaces, maps, wideKeys, modest, calm, conditions, laid).
  DERIVED. THE GIVEN ROWS OF THIS SEAT. 6 by the template 'for every input the law returns true; each argument reads behind the call as it read before'; 0 by the template 'total and deterministic' (their statements: YteoiijiiccecfaaTotals.lean).
  GIVEN WITH THE SEED: the statements are not yours to turn. If you find one false, say at which input.
  Laid BY PROGRAM, IN A SANDBOX (cutbox-rows.mjs): the forced cells as the released guide's own fill.sh prints them over the translation b7fa0f2c64bd548a… (all of the seat's roots in one cut). By AI agents, Wed Nov 11 2026. No macro, syntax, notation, axiom, sorry.
-/
import Derived.Test.YteoiijiiccecfaaChecked
import GoSem.Claim
import GoSem.ClaimJoined
import GoSem.ClaimMapViews
import Derived.JoinedTies
import Derived.KernelRfl
namespace Go.Proofs.Yteoiijiiccecfaa
/- THE CELL 'sum', in the pinned program and in every row, IS THE sha256 OF THE DUMP (.gsa) THAT YteoiijiiccecfaaProg.lean LOADS. Nothing in Lean hashes anything: it is a label: what it is worth is what the hold of that sum in a sandbox is worth. -/
noncomputable def Try.pinned : Pinned := { name := "yteoiijiiccecfaa", sum := "b7fa0f2c64bd548a5232cbc916ab25807457cd4d41f65987bfa9f503ff65e61a", checked := Try.checked }
namespace Rows
def none {H : Type} : Left H := { results := [], args := [] }

/-- 'souterrainlaw.Names': WHATEVER THE INPUT: true; the input reads as it did. -/
def namesSpec : ChangeSpec := { name := "names", fn := fun _ => fun
  | [] => { results := [.lit (.bool true)], args := [] }
  | _ => none }
def namesRow : OpenClaim := { program := "yteoiijiiccecfaa", sum := "b7fa0f2c64bd548a5232cbc916ab25807457cd4d41f65987bfa9f503ff65e61a", func := "souterrain/souterrainlaw.Names", spec := "names", apart := false }
def NamesSaid : Prop := namesRow.holds Try.pinned (OpenSpec.ofChange namesSpec)

/-- ITS FALSE NEIGHBOUR: 'it returns false'. Refute it at one input. -/
def namesWrong : ChangeSpec := { name := "names", fn := fun _ => fun
  | [] => { results := [.lit (.bool false)], args := [] }
  | _ => none }
def NamesWrongFalsely : Prop := namesRow.holds Try.pinned (OpenSpec.ofChange namesWrong)

/-- 'souterrainlaw.CodeHexes': WHATEVER THE INPUT: true; the input reads as it did. -/
def codeHexesSpec : ChangeSpec := { name := "codeHexes", fn := fun _ => fun
  | [d1, d2] => { results := [.lit (.bool true)], args := [d1, d2] }
  | _ => none }
def codeHexesRow : OpenClaim := { program := "yteoiijiiccecfaa", sum := "b7fa0f2c64bd548a5232cbc916ab25807457cd4d41f65987bfa9f503ff65e61a", func := "souterrain/souterrainlaw.CodeHexes", spec := "codeHexes", apart := false }
def CodeHexesSaid : Prop := codeHexesRow.holds Try.pinned (OpenSpec.ofChange codeHexesSpec)

/-- ITS FALSE NEIGHBOUR: 'it returns false'. Refute it at one input. -/
def codeHexesWrong : ChangeSpec := { name := "codeHexes", fn := fun _ => fun
  | [d1, d2] => { results := [.lit (.bool false)], args := [d1, d2] }
  | _ => none }
def CodeHexesWrongFalsely : Prop := codeHexesRow.holds Try.pinned (OpenSpec.ofChange codeHexesWrong)

/-- 'souterrainlaw.CodeBases': WHATEVER THE INPUT: true; the input reads as it did. -/
def codeBasesSpec : ChangeSpec := { name := "codeBases", fn := fun _ => fun
  | [d1, d2] => { results := [.lit (.bool true)], args := [d1, d2] }
  | _ => none }
def codeBasesRow : OpenClaim := { program := "yteoiijiiccecfaa", sum := "b7fa0f2c64bd548a5232cbc916ab25807457cd4d41f65987bfa9f503ff65e61a", func := "souterrain/souterrainlaw.CodeBases", spec := "codeBases", inPlace := ["internal/bytealg.IndexByteString"], apart := false }
def CodeBasesSaid : Prop := codeBasesRow.holds Try.pinned (OpenSpec.ofChange codeBasesSpec)

/-- ITS FALSE NEIGHBOUR: 'it returns false'. Refute it at one input. -/
def codeBasesWrong : ChangeSpec := { name := "codeBases", fn := fun _ => fun
  | [d1, d2] => { results := [.lit (.bool false)], args := [d1, d2] }
  | _ => none }
def CodeBasesWrongFalsely : Prop := codeBasesRow.holds Try.pinned (OpenSpec.ofChange codeBasesWrong)

/-- 'souterrainkeep.HexBack': WHATEVER THE INPUT: true; the input reads as it did. -/
def hexBackSpec : ChangeSpec := { name := "hexBack", fn := fun _ => fun
  | [d1, d2] => { results := [.lit (.bool true)], args := [d1, d2] }
  | _ => none }
def hexBackRow : OpenClaim := { program := "yteoiijiiccecfaa", sum := "b7fa0f2c64bd548a5232cbc916ab25807457cd4d41f65987bfa9f503ff65e61a", func := "souterrain/souterrainkeep.HexBack", spec := "hexBack", apart := false }
def HexBackSaid : Prop := hexBackRow.holds Try.pinned (OpenSpec.ofChange hexBackSpec)

/-- ITS FALSE NEIGHBOUR: 'it returns false'. Refute it at one input. -/
def hexBackWrong : ChangeSpec := { name := "hexBack", fn := fun _ => fun
  | [d1, d2] => { results := [.lit (.bool false)], args := [d1, d2] }
  | _ => none }
def HexBackWrongFalsely : Prop := hexBackRow.holds Try.pinned (OpenSpec.ofChange hexBackWrong)

/-- 'souterrainkeep.HexJoins': WHATEVER THE INPUT: true; the input reads as it did. -/
def hexJoinsSpec : ChangeSpec := { name := "hexJoins", fn := fun _ => fun
  | [d1, d2] => { results := [.lit (.bool true)], args := [d1, d2] }
  | _ => none }
def hexJoinsRow : OpenClaim := { program := "yteoiijiiccecfaa", sum := "b7fa0f2c64bd548a5232cbc916ab25807457cd4d41f65987bfa9f503ff65e61a", func := "souterrain/souterrainkeep.HexJoins", spec := "hexJoins", apart := false }
def HexJoinsSaid : Prop := hexJoinsRow.holds Try.pinned (OpenSpec.ofChange hexJoinsSpec)

/-- ITS FALSE NEIGHBOUR: 'it returns false'. Refute it at one input. -/
def hexJoinsWrong : ChangeSpec := { name := "hexJoins", fn := fun _ => fun
  | [d1, d2] => { results := [.lit (.bool false)], args := [d1, d2] }
  | _ => none }
def HexJoinsWrongFalsely : Prop := hexJoinsRow.holds Try.pinned (OpenSpec.ofChange hexJoinsWrong)

/-- 'souterrainkeep.BaseBack': WHATEVER THE INPUT: true; the input reads as it did. -/
def baseBackSpec : ChangeSpec := { name := "baseBack", fn := fun _ => fun
  | [d1, d2] => { results := [.lit (.bool true)], args := [d1, d2] }
  | _ => none }
def baseBackRow : OpenClaim := { program := "yteoiijiiccecfaa", sum := "b7fa0f2c64bd548a5232cbc916ab25807457cd4d41f65987bfa9f503ff65e61a", func := "souterrain/souterrainkeep.BaseBack", spec := "baseBack", apart := false }
def BaseBackSaid : Prop := baseBackRow.holds Try.pinned (OpenSpec.ofChange baseBackSpec)

/-- ITS FALSE NEIGHBOUR: 'it returns false'. Refute it at one input. -/
def baseBackWrong : ChangeSpec := { name := "baseBack", fn := fun _ => fun
  | [d1, d2] => { results := [.lit (.bool false)], args := [d1, d2] }
  | _ => none }
def BaseBackWrongFalsely : Prop := baseBackRow.holds Try.pinned (OpenSpec.ofChange baseBackWrong)

/- THE SECOND FORM. 'bulk': how many values and letters a reading holds, each counted each time it is reached (what is shared counts as often as it is met; a slice's spare places count too). A statement '..UptoSaid' is the law's where the arguments, and the package variables that the reading takes, are together of bulk at most 1048576: NARROWER than '..Said'. Prove '..Said' where nothing that the law and all that it calls make is longer than what came in: it says more and counts as full. Else prove '..UptoSaid'. A law counts once. -/
mutual
def uptoBulk {H : Type} : DataW H → Nat
  | .lit (.string bytes) => bytes.length + 1
  | .lit _ => 1
  | .nil => 1
  | .ptr d => uptoBulk d + 1
  | .slice elems spare => uptoBulkAll elems + uptoBulkAll spare + 1
  | .agg parts => uptoBulkAll parts + 1
  | .iface _ d => uptoBulk d + 1
  | .map entries => uptoBulkEntries entries + 1
  | .held _ => 1
def uptoBulkAll {H : Type} : List (DataW H) → Nat
  | [] => 0
  | d :: r => uptoBulk d + uptoBulkAll r
def uptoBulkEntries {H : Type} : List (Lit × DataW H) → Nat
  | [] => 0
  | x :: r => uptoBulkEntry x + uptoBulkEntries r
def uptoBulkEntry {H : Type} : Lit × DataW H → Nat
  | (.string bytes, d) => bytes.length + uptoBulk d + 1
  | (_, d) => uptoBulk d + 1
 end
def uptoSmall : (H : Type) → List (DataW H) → Bool := fun _ ds => decide (uptoBulkAll ds ≤ 1048576)
def OpenSpec.upto (s : _root_.Go.ChangeSpec) : _root_.Go.OpenSpec := { _root_.Go.OpenSpec.ofChange s with cond := some uptoSmall }

/-- 'souterrainlaw.Names', WHERE WHAT IT READS IS OF BULK AT MOST 1048576: true; the input reads as it did. -/
def namesUptoRow : OpenClaim := { program := "yteoiijiiccecfaa", sum := "b7fa0f2c64bd548a5232cbc916ab25807457cd4d41f65987bfa9f503ff65e61a", func := "souterrain/souterrainlaw.Names", spec := "names", apart := false, narrowed := true }
def NamesUptoSaid : Prop := namesUptoRow.holds Try.pinned (OpenSpec.upto namesSpec)

/-- 'souterrainlaw.CodeHexes', WHERE WHAT IT READS IS OF BULK AT MOST 1048576: true; the input reads as it did. -/
def codeHexesUptoRow : OpenClaim := { program := "yteoiijiiccecfaa", sum := "b7fa0f2c64bd548a5232cbc916ab25807457cd4d41f65987bfa9f503ff65e61a", func := "souterrain/souterrainlaw.CodeHexes", spec := "codeHexes", apart := false, narrowed := true }
def CodeHexesUptoSaid : Prop := codeHexesUptoRow.holds Try.pinned (OpenSpec.upto codeHexesSpec)

/-- 'souterrainlaw.CodeBases', WHERE WHAT IT READS IS OF BULK AT MOST 1048576: true; the input reads as it did. -/
def codeBasesUptoRow : OpenClaim := { program := "yteoiijiiccecfaa", sum := "b7fa0f2c64bd548a5232cbc916ab25807457cd4d41f65987bfa9f503ff65e61a", func := "souterrain/souterrainlaw.CodeBases", spec := "codeBases", inPlace := ["internal/bytealg.IndexByteString"], apart := false, narrowed := true }
def CodeBasesUptoSaid : Prop := codeBasesUptoRow.holds Try.pinned (OpenSpec.upto codeBasesSpec)

/-- 'souterrainkeep.HexBack', WHERE WHAT IT READS IS OF BULK AT MOST 1048576: true; the input reads as it did. -/
def hexBackUptoRow : OpenClaim := { program := "yteoiijiiccecfaa", sum := "b7fa0f2c64bd548a5232cbc916ab25807457cd4d41f65987bfa9f503ff65e61a", func := "souterrain/souterrainkeep.HexBack", spec := "hexBack", apart := false, narrowed := true }
def HexBackUptoSaid : Prop := hexBackUptoRow.holds Try.pinned (OpenSpec.upto hexBackSpec)

/-- 'souterrainkeep.HexJoins', WHERE WHAT IT READS IS OF BULK AT MOST 1048576: true; the input reads as it did. -/
def hexJoinsUptoRow : OpenClaim := { program := "yteoiijiiccecfaa", sum := "b7fa0f2c64bd548a5232cbc916ab25807457cd4d41f65987bfa9f503ff65e61a", func := "souterrain/souterrainkeep.HexJoins", spec := "hexJoins", apart := false, narrowed := true }
def HexJoinsUptoSaid : Prop := hexJoinsUptoRow.holds Try.pinned (OpenSpec.upto hexJoinsSpec)

/-- 'souterrainkeep.BaseBack', WHERE WHAT IT READS IS OF BULK AT MOST 1048576: true; the input reads as it did. -/
def baseBackUptoRow : OpenClaim := { program := "yteoiijiiccecfaa", sum := "b7fa0f2c64bd548a5232cbc916ab25807457cd4d41f65987bfa9f503ff65e61a", func := "souterrain/souterrainkeep.BaseBack", spec := "baseBack", apart := false, narrowed := true }
def BaseBackUptoSaid : Prop := baseBackUptoRow.holds Try.pinned (OpenSpec.upto baseBackSpec)

end Rows
end Go.Proofs.Yteoiijiiccecfaa
