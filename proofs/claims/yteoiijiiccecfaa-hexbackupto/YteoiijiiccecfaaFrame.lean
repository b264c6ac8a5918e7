/-
  THE FRAME OF THE LAWS OVER TEXTS: what the bound on the arguments' letters gives.
-/
import Derived.Test.YteoiijiiccecfaaRows
import Derived.WalkKit
import Derived.ProofKit
import Derived.OpenShut
import Derived.JoinedCond
namespace Go.Proofs.Yteoiijiiccecfaa
open Go.RowKit

theorem own : ownKnob Try.prog.godebug = none := by kernel_rfl

/-- Two texts: their letters. -/
theorem short2 {H : Type} {s t : ByteArray} (hk : Rows.uptoSmall H [.lit (.string s.data.toList), .lit (.string t.data.toList)] = true) : s.size + t.size ≤ 1048576 := by
  have h : Rows.uptoBulkAll [DataW.lit (H := H) (.string s.data.toList), DataW.lit (H := H) (.string t.data.toList)] ≤ 1048576 := of_decide_eq_true hk
  simp only [Rows.uptoBulkAll, Rows.uptoBulk] at h
  have e : s.data.toList.length = s.size := by rw [Array.length_toList]; rfl
  have e' : t.data.toList.length = t.size := by rw [Array.length_toList]; rfl
  omega
end Go.Proofs.Yteoiijiiccecfaa
