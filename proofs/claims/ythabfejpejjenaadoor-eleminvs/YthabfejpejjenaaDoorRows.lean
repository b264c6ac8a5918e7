/-
  NARROWER THAN 'FOR EVERY INPUT', by the rows' own cells (each row's printed sentence says how): ElemSums: laid · ElemInvs: laid · ElemAdds: laid.
  DERIVED. THE GIVEN ROWS OF THIS SEAT. 3 by the template 'for every input the law returns true; each argument reads behind the call as it read before'; 0 by the template 'total and deterministic' (their statements: YthabfejpejjenaaDoorTotals.lean).
  GIVEN WITH THE SEED: the statements are not yours to turn. If you find one false, say at which input.
  Laid BY PROGRAM, IN A SANDBOX (cutbox-rows.mjs): the forced cells as the released guide's own fill.sh prints them over the translation 386d7206c73feca3… (all of the seat's roots in one cut). By AI agents, Wed Nov 11 2026. No macro, syntax, notation, axiom, sorry.
-/
import Derived.Test.YthabfejpejjenaaDoorChecked
import GoSem.Claim
import GoSem.ClaimJoined
import GoSem.ClaimMapViews
import Derived.JoinedTies
import Derived.KernelRfl
namespace Go.Proofs.YthabfejpejjenaaDoor
/- THE CELL 'sum', in the pinned program and in every row, IS THE sha256 OF THE DUMP (.gsa) THAT YthabfejpejjenaaDoorProg.lean LOADS. Nothing in Lean hashes anything: it is a label: what it is worth is what the hold of that sum in a sandbox is worth. -/
noncomputable def Tryd.pinned : Pinned := { name := "ythabfejpejjenaadoor", sum := "386d7206c73feca3aa9bab35e5753af3ab589f4ade5b2db47d6305726c39ff23", checked := Tryd.checked }
namespace Rows
def none {H : Type} : Left H := { results := [], args := [] }

/- WHAT THE LISTED PACKAGE-LEVEL VARIABLES READ AS WHEN THE CALL BEGINS. Each datum BY PROGRAM (the guide's laid-datum.mjs) off the statement by which the dump's own 'gosem.cut.vars' lays the variable. In a bare row this is a premise. The card (YthabfejpejjenaaDoorCards.lean) ties it to the program's text. -/
def laid_souterrain_elem_prime {H : Type} : DataW H := .agg [.lit (.int .u32 4294967277), .lit (.int .u32 4294967295), .lit (.int .u32 4294967295), .lit (.int .u32 4294967295), .lit (.int .u32 4294967295), .lit (.int .u32 4294967295), .lit (.int .u32 4294967295), .lit (.int .u32 2147483647)]
def laid_souterrain_elem_primeLessTwo {H : Type} : DataW H := .agg [.lit (.int .u32 4294967275), .lit (.int .u32 4294967295), .lit (.int .u32 4294967295), .lit (.int .u32 4294967295), .lit (.int .u32 4294967295), .lit (.int .u32 4294967295), .lit (.int .u32 4294967295), .lit (.int .u32 2147483647)]

/-- 'souterrainlaw.ElemSums': WHATEVER THE INPUT: true; the input reads as it did. -/
def elemSumsSpec : ChangeSpec := { name := "elemSums", fn := fun _ => fun
  | [d1, d2] => { results := [.lit (.bool true)], args := [d1, d2] }
  | _ => none }
def elemSumsRow : OpenClaim := { program := "ythabfejpejjenaadoor", sum := "386d7206c73feca3aa9bab35e5753af3ab589f4ade5b2db47d6305726c39ff23", func := "souterrain/souterrainlaw.ElemSums", spec := "elemSums", inPlace := ["internal/abi.NoEscape", "internal/bytealg.MakeNoZero"], unfollowed := true, recurses := true, named := ["souterrain/elem.prime"], apart := false, laid := [("souterrain/elem.prime", laid_souterrain_elem_prime)] }
def ElemSumsSaid : Prop := elemSumsRow.holds Tryd.pinned (OpenSpec.ofChange elemSumsSpec)

/-- ITS FALSE NEIGHBOUR: 'it returns false'. Refute it at one input. -/
def elemSumsWrong : ChangeSpec := { name := "elemSums", fn := fun _ => fun
  | [d1, d2] => { results := [.lit (.bool false)], args := [d1, d2] }
  | _ => none }
def ElemSumsWrongFalsely : Prop := elemSumsRow.holds Tryd.pinned (OpenSpec.ofChange elemSumsWrong)

/-- 'souterrainlaw.ElemInvs': WHATEVER THE INPUT: true; the input reads as it did. -/
def elemInvsSpec : ChangeSpec := { name := "elemInvs", fn := fun _ => fun
  | [d] => { results := [.lit (.bool true)], args := [d] }
  | _ => none }
def elemInvsRow : OpenClaim := { program := "ythabfejpejjenaadoor", sum := "386d7206c73feca3aa9bab35e5753af3ab589f4ade5b2db47d6305726c39ff23", func := "souterrain/souterrainlaw.ElemInvs", spec := "elemInvs", inPlace := ["internal/abi.NoEscape", "internal/bytealg.MakeNoZero"], unfollowed := true, recurses := true, named := ["souterrain/elem.primeLessTwo"], apart := false, laid := [("souterrain/elem.primeLessTwo", laid_souterrain_elem_primeLessTwo)] }
def ElemInvsSaid : Prop := elemInvsRow.holds Tryd.pinned (OpenSpec.ofChange elemInvsSpec)

/-- ITS FALSE NEIGHBOUR: 'it returns false'. Refute it at one input. -/
def elemInvsWrong : ChangeSpec := { name := "elemInvs", fn := fun _ => fun
  | [d] => { results := [.lit (.bool false)], args := [d] }
  | _ => none }
def ElemInvsWrongFalsely : Prop := elemInvsRow.holds Tryd.pinned (OpenSpec.ofChange elemInvsWrong)

/-- 'souterrainkeep.ElemAdds': WHATEVER THE INPUT: true; the input reads as it did. -/
def elemAddsSpec : ChangeSpec := { name := "elemAdds", fn := fun _ => fun
  | [d1, d2, d3] => { results := [.lit (.bool true)], args := [d1, d2, d3] }
  | _ => none }
def elemAddsRow : OpenClaim := { program := "ythabfejpejjenaadoor", sum := "386d7206c73feca3aa9bab35e5753af3ab589f4ade5b2db47d6305726c39ff23", func := "souterrain/souterrainkeep.ElemAdds", spec := "elemAdds", inPlace := ["internal/abi.NoEscape", "internal/bytealg.MakeNoZero"], unfollowed := true, recurses := true, named := ["souterrain/elem.prime"], apart := false, laid := [("souterrain/elem.prime", laid_souterrain_elem_prime)] }
def ElemAddsSaid : Prop := elemAddsRow.holds Tryd.pinned (OpenSpec.ofChange elemAddsSpec)

/-- ITS FALSE NEIGHBOUR: 'it returns false'. Refute it at one input. -/
def elemAddsWrong : ChangeSpec := { name := "elemAdds", fn := fun _ => fun
  | [d1, d2, d3] => { results := [.lit (.bool false)], args := [d1, d2, d3] }
  | _ => none }
def ElemAddsWrongFalsely : Prop := elemAddsRow.holds Tryd.pinned (OpenSpec.ofChange elemAddsWrong)

/- THE SECOND FORM. 'bulk': how many values and letters a reading holds, each counted each time it is reached (what is shared counts as often as it is met; a slice's spare places count too). A statement '..UptoSaid' is the law's where the arguments, and the package variables that the reading takes, are together of bulk at most 1048576: NARROWER than '..Said'. Prove '..Said' where nothing that the law and all that it calls make is longer than what came in: it says more and counts as full. Else prove '..UptoSaid'. A law counts once. -/
mutual
def uptoBulk {H : Type} : DataW H → Nat
  | .lit (.string bytes) => bytes.length + 1
  | .lit _ => 1
  | .nil => 1
  | .ptr d => uptoBulk d + 1
  | .slice elems spare => uptoBulkAll elems + uptoBulkAll spare + 1
  | .agg parts => uptoBulkAll parts + 1
  | .iface _ d => uptoBulk d + 1
  | .map entries => uptoBulkEntries entries + 1
  | .held _ => 1
def uptoBulkAll {H : Type} : List (DataW H) → Nat
  | [] => 0
  | d :: r => uptoBulk d + uptoBulkAll r
def uptoBulkEntries {H : Type} : List (Lit × DataW H) → Nat
  | [] => 0
  | x :: r => uptoBulkEntry x + uptoBulkEntries r
def uptoBulkEntry {H : Type} : Lit × DataW H → Nat
  | (.string bytes, d) => bytes.length + uptoBulk d + 1
  | (_, d) => uptoBulk d + 1
 end
def uptoSmall : (H : Type) → List (DataW H) → Bool := fun _ ds => decide (uptoBulkAll ds ≤ 1048576)
def OpenSpec.upto (s : _root_.Go.ChangeSpec) : _root_.Go.OpenSpec := { _root_.Go.OpenSpec.ofChange s with cond := some uptoSmall }

/-- 'souterrainlaw.ElemSums', WHERE WHAT IT READS IS OF BULK AT MOST 1048576: true; the input reads as it did. -/
def elemSumsUptoRow : OpenClaim := { program := "ythabfejpejjenaadoor", sum := "386d7206c73feca3aa9bab35e5753af3ab589f4ade5b2db47d6305726c39ff23", func := "souterrain/souterrainlaw.ElemSums", spec := "elemSums", inPlace := ["internal/abi.NoEscape", "internal/bytealg.MakeNoZero"], unfollowed := true, recurses := true, named := ["souterrain/elem.prime"], apart := false, laid := [("souterrain/elem.prime", laid_souterrain_elem_prime)], narrowed := true }
def ElemSumsUptoSaid : Prop := elemSumsUptoRow.holds Tryd.pinned (OpenSpec.upto elemSumsSpec)

/-- 'souterrainlaw.ElemInvs', WHERE WHAT IT READS IS OF BULK AT MOST 1048576: true; the input reads as it did. -/
def elemInvsUptoRow : OpenClaim := { program := "ythabfejpejjenaadoor", sum := "386d7206c73feca3aa9bab35e5753af3ab589f4ade5b2db47d6305726c39ff23", func := "souterrain/souterrainlaw.ElemInvs", spec := "elemInvs", inPlace := ["internal/abi.NoEscape", "internal/bytealg.MakeNoZero"], unfollowed := true, recurses := true, named := ["souterrain/elem.primeLessTwo"], apart := false, laid := [("souterrain/elem.primeLessTwo", laid_souterrain_elem_primeLessTwo)], narrowed := true }
def ElemInvsUptoSaid : Prop := elemInvsUptoRow.holds Tryd.pinned (OpenSpec.upto elemInvsSpec)

/-- 'souterrainkeep.ElemAdds', WHERE WHAT IT READS IS OF BULK AT MOST 1048576: true; the input reads as it did. -/
def elemAddsUptoRow : OpenClaim := { program := "ythabfejpejjenaadoor", sum := "386d7206c73feca3aa9bab35e5753af3ab589f4ade5b2db47d6305726c39ff23", func := "souterrain/souterrainkeep.ElemAdds", spec := "elemAdds", inPlace := ["internal/abi.NoEscape", "internal/bytealg.MakeNoZero"], unfollowed := true, recurses := true, named := ["souterrain/elem.prime"], apart := false, laid := [("souterrain/elem.prime", laid_souterrain_elem_prime)], narrowed := true }
def ElemAddsUptoSaid : Prop := elemAddsUptoRow.holds Tryd.pinned (OpenSpec.upto elemAddsSpec)

end Rows
end Go.Proofs.YthabfejpejjenaaDoor
