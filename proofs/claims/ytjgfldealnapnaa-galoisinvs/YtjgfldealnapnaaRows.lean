/-
  No cell of these rows narrows 'for every input' (looked for: loops, veiled, ifaces, maps, wideKeys, modest, calm, conditions, laid).
  DERIVED. THE GIVEN ROWS OF THIS SEAT. 5 by the template 'for every input the law returns true; each argument reads behind the call as it read before'; 0 by the template 'total and deterministic' (their statements: YtjgfldealnapnaaTotals.lean).
  GIVEN WITH THE SEED: the statements are not yours to turn. If you find one false, say at which input.
  Laid BY PROGRAM, IN A SANDBOX (cutbox-rows.mjs): the forced cells as the released guide's own fill.sh prints them over the translation 967018da47b6551b… (all of the seat's roots in one cut). By AI agents, Wed Nov 11 2026. No macro, syntax, notation, axiom, sorry.
-/
import Derived.Test.YtjgfldealnapnaaChecked
import GoSem.Claim
import GoSem.ClaimJoined
import GoSem.ClaimMapViews
import Derived.JoinedTies
import Derived.KernelRfl
namespace Go.Proofs.Ytjgfldealnapnaa
/- THE CELL 'sum', in the pinned program and in every row, IS THE sha256 OF THE DUMP (.gsa) THAT YtjgfldealnapnaaProg.lean LOADS. Nothing in Lean hashes anything: it is a label: what it is worth is what the hold of that sum in a sandbox is worth. -/
noncomputable def Try.pinned : Pinned := { name := "ytjgfldealnapnaa", sum := "967018da47b6551b1dec75d5750202be5b5f9a5f3ae1c59729a34e23b00b5804", checked := Try.checked }
namespace Rows
def none {H : Type} : Left H := { results := [], args := [] }

/-- 'souterrainlaw.GaloisMuls': WHATEVER THE INPUT: true; the input reads as it did. -/
def galoisMulsSpec : ChangeSpec := { name := "galoisMuls", fn := fun _ => fun
  | [d1, d2] => { results := [.lit (.bool true)], args := [d1, d2] }
  | _ => none }
def galoisMulsRow : OpenClaim := { program := "ytjgfldealnapnaa", sum := "967018da47b6551b1dec75d5750202be5b5f9a5f3ae1c59729a34e23b00b5804", func := "souterrain/souterrainlaw.GaloisMuls", spec := "galoisMuls", apart := false }
def GaloisMulsSaid : Prop := galoisMulsRow.holds Try.pinned (OpenSpec.ofChange galoisMulsSpec)

/-- ITS FALSE NEIGHBOUR: 'it returns false'. Refute it at one input. -/
def galoisMulsWrong : ChangeSpec := { name := "galoisMuls", fn := fun _ => fun
  | [d1, d2] => { results := [.lit (.bool false)], args := [d1, d2] }
  | _ => none }
def GaloisMulsWrongFalsely : Prop := galoisMulsRow.holds Try.pinned (OpenSpec.ofChange galoisMulsWrong)

/-- 'souterrainlaw.GaloisInvs': WHATEVER THE INPUT: true; the input reads as it did. -/
def galoisInvsSpec : ChangeSpec := { name := "galoisInvs", fn := fun _ => fun
  | [d] => { results := [.lit (.bool true)], args := [d] }
  | _ => none }
def galoisInvsRow : OpenClaim := { program := "ytjgfldealnapnaa", sum := "967018da47b6551b1dec75d5750202be5b5f9a5f3ae1c59729a34e23b00b5804", func := "souterrain/souterrainlaw.GaloisInvs", spec := "galoisInvs", apart := false }
def GaloisInvsSaid : Prop := galoisInvsRow.holds Try.pinned (OpenSpec.ofChange galoisInvsSpec)

/-- ITS FALSE NEIGHBOUR: 'it returns false'. Refute it at one input. -/
def galoisInvsWrong : ChangeSpec := { name := "galoisInvs", fn := fun _ => fun
  | [d] => { results := [.lit (.bool false)], args := [d] }
  | _ => none }
def GaloisInvsWrongFalsely : Prop := galoisInvsRow.holds Try.pinned (OpenSpec.ofChange galoisInvsWrong)

/-- 'souterrainlaw.GaloisSubs': WHATEVER THE INPUT: true; the input reads as it did. -/
def galoisSubsSpec : ChangeSpec := { name := "galoisSubs", fn := fun _ => fun
  | [d] => { results := [.lit (.bool true)], args := [d] }
  | _ => none }
def galoisSubsRow : OpenClaim := { program := "ytjgfldealnapnaa", sum := "967018da47b6551b1dec75d5750202be5b5f9a5f3ae1c59729a34e23b00b5804", func := "souterrain/souterrainlaw.GaloisSubs", spec := "galoisSubs", apart := false }
def GaloisSubsSaid : Prop := galoisSubsRow.holds Try.pinned (OpenSpec.ofChange galoisSubsSpec)

/-- ITS FALSE NEIGHBOUR: 'it returns false'. Refute it at one input. -/
def galoisSubsWrong : ChangeSpec := { name := "galoisSubs", fn := fun _ => fun
  | [d] => { results := [.lit (.bool false)], args := [d] }
  | _ => none }
def GaloisSubsWrongFalsely : Prop := galoisSubsRow.holds Try.pinned (OpenSpec.ofChange galoisSubsWrong)

/-- 'souterrainkeep.GaloisField': WHATEVER THE INPUT: true; the input reads as it did. -/
def galoisFieldSpec : ChangeSpec := { name := "galoisField", fn := fun _ => fun
  | [d1, d2, d3] => { results := [.lit (.bool true)], args := [d1, d2, d3] }
  | _ => none }
def galoisFieldRow : OpenClaim := { program := "ytjgfldealnapnaa", sum := "967018da47b6551b1dec75d5750202be5b5f9a5f3ae1c59729a34e23b00b5804", func := "souterrain/souterrainkeep.GaloisField", spec := "galoisField", unfollowed := true, recurses := true, apart := false }
def GaloisFieldSaid : Prop := galoisFieldRow.holds Try.pinned (OpenSpec.ofChange galoisFieldSpec)

/-- ITS FALSE NEIGHBOUR: 'it returns false'. Refute it at one input. -/
def galoisFieldWrong : ChangeSpec := { name := "galoisField", fn := fun _ => fun
  | [d1, d2, d3] => { results := [.lit (.bool false)], args := [d1, d2, d3] }
  | _ => none }
def GaloisFieldWrongFalsely : Prop := galoisFieldRow.holds Try.pinned (OpenSpec.ofChange galoisFieldWrong)

/-- 'souterrainkeep.GaloisBack': WHATEVER THE INPUT: true; the input reads as it did. -/
def galoisBackSpec : ChangeSpec := { name := "galoisBack", fn := fun _ => fun
  | [d1, d2] => { results := [.lit (.bool true)], args := [d1, d2] }
  | _ => none }
def galoisBackRow : OpenClaim := { program := "ytjgfldealnapnaa", sum := "967018da47b6551b1dec75d5750202be5b5f9a5f3ae1c59729a34e23b00b5804", func := "souterrain/souterrainkeep.GaloisBack", spec := "galoisBack", apart := false }
def GaloisBackSaid : Prop := galoisBackRow.holds Try.pinned (OpenSpec.ofChange galoisBackSpec)

/-- ITS FALSE NEIGHBOUR: 'it returns false'. Refute it at one input. -/
def galoisBackWrong : ChangeSpec := { name := "galoisBack", fn := fun _ => fun
  | [d1, d2] => { results := [.lit (.bool false)], args := [d1, d2] }
  | _ => none }
def GaloisBackWrongFalsely : Prop := galoisBackRow.holds Try.pinned (OpenSpec.ofChange galoisBackWrong)

/- THE SECOND FORM. 'bulk': how many values and letters a reading holds, each counted each time it is reached (what is shared counts as often as it is met; a slice's spare places count too). A statement '..UptoSaid' is the law's where the arguments, and the package variables that the reading takes, are together of bulk at most 1048576: NARROWER than '..Said'. Prove '..Said' where nothing that the law and all that it calls make is longer than what came in: it says more and counts as full. Else prove '..UptoSaid'. A law counts once. -/
mutual
def uptoBulk {H : Type} : DataW H → Nat
  | .lit (.string bytes) => bytes.length + 1
  | .lit _ => 1
  | .nil => 1
  | .ptr d => uptoBulk d + 1
  | .slice elems spare => uptoBulkAll elems + uptoBulkAll spare + 1
  | .agg parts => uptoBulkAll parts + 1
  | .iface _ d => uptoBulk d + 1
  | .map entries => uptoBulkEntries entries + 1
  | .held _ => 1
def uptoBulkAll {H : Type} : List (DataW H) → Nat
  | [] => 0
  | d :: r => uptoBulk d + uptoBulkAll r
def uptoBulkEntries {H : Type} : List (Lit × DataW H) → Nat
  | [] => 0
  | x :: r => uptoBulkEntry x + uptoBulkEntries r
def uptoBulkEntry {H : Type} : Lit × DataW H → Nat
  | (.string bytes, d) => bytes.length + uptoBulk d + 1
  | (_, d) => uptoBulk d + 1
 end
def uptoSmall : (H : Type) → List (DataW H) → Bool := fun _ ds => decide (uptoBulkAll ds ≤ 1048576)
def OpenSpec.upto (s : _root_.Go.ChangeSpec) : _root_.Go.OpenSpec := { _root_.Go.OpenSpec.ofChange s with cond := some uptoSmall }

/-- 'souterrainlaw.GaloisMuls', WHERE WHAT IT READS IS OF BULK AT MOST 1048576: true; the input reads as it did. -/
def galoisMulsUptoRow : OpenClaim := { program := "ytjgfldealnapnaa", sum := "967018da47b6551b1dec75d5750202be5b5f9a5f3ae1c59729a34e23b00b5804", func := "souterrain/souterrainlaw.GaloisMuls", spec := "galoisMuls", apart := false, narrowed := true }
def GaloisMulsUptoSaid : Prop := galoisMulsUptoRow.holds Try.pinned (OpenSpec.upto galoisMulsSpec)

/-- 'souterrainlaw.GaloisInvs', WHERE WHAT IT READS IS OF BULK AT MOST 1048576: true; the input reads as it did. -/
def galoisInvsUptoRow : OpenClaim := { program := "ytjgfldealnapnaa", sum := "967018da47b6551b1dec75d5750202be5b5f9a5f3ae1c59729a34e23b00b5804", func := "souterrain/souterrainlaw.GaloisInvs", spec := "galoisInvs", apart := false, narrowed := true }
def GaloisInvsUptoSaid : Prop := galoisInvsUptoRow.holds Try.pinned (OpenSpec.upto galoisInvsSpec)

/-- 'souterrainlaw.GaloisSubs', WHERE WHAT IT READS IS OF BULK AT MOST 1048576: true; the input reads as it did. -/
def galoisSubsUptoRow : OpenClaim := { program := "ytjgfldealnapnaa", sum := "967018da47b6551b1dec75d5750202be5b5f9a5f3ae1c59729a34e23b00b5804", func := "souterrain/souterrainlaw.GaloisSubs", spec := "galoisSubs", apart := false, narrowed := true }
def GaloisSubsUptoSaid : Prop := galoisSubsUptoRow.holds Try.pinned (OpenSpec.upto galoisSubsSpec)

/-- 'souterrainkeep.GaloisField', WHERE WHAT IT READS IS OF BULK AT MOST 1048576: true; the input reads as it did. -/
def galoisFieldUptoRow : OpenClaim := { program := "ytjgfldealnapnaa", sum := "967018da47b6551b1dec75d5750202be5b5f9a5f3ae1c59729a34e23b00b5804", func := "souterrain/souterrainkeep.GaloisField", spec := "galoisField", unfollowed := true, recurses := true, apart := false, narrowed := true }
def GaloisFieldUptoSaid : Prop := galoisFieldUptoRow.holds Try.pinned (OpenSpec.upto galoisFieldSpec)

/-- 'souterrainkeep.GaloisBack', WHERE WHAT IT READS IS OF BULK AT MOST 1048576: true; the input reads as it did. -/
def galoisBackUptoRow : OpenClaim := { program := "ytjgfldealnapnaa", sum := "967018da47b6551b1dec75d5750202be5b5f9a5f3ae1c59729a34e23b00b5804", func := "souterrain/souterrainkeep.GaloisBack", spec := "galoisBack", apart := false, narrowed := true }
def GaloisBackUptoSaid : Prop := galoisBackUptoRow.holds Try.pinned (OpenSpec.upto galoisBackSpec)

end Rows
end Go.Proofs.Ytjgfldealnapnaa
