/-
  THE WALK OF 'bytes' of the verifier's own package.
-/
import Derived.Test.YtfpknemoaplhdaaDoorRefHex
namespace Go.Proofs.YtfpknemoaplhdaaDoor
open Go.RowKit

theorem bytes_any (h v : ByteArray) (hs : h.size ≤ 1073741824) (hv : unhexB h = some v) (w : World) :
    Calls Tryd.prog 8 #[.string h] w fun e w' => e = .returned (.string v) ∧ Below w.heap.size w w' := by
  have h1 := refUnhex_some h v hs hv w
  clear hv hs
  go_enter Tryd.func8, Tryd.ntmps8
  go_wp2_with (go_at_call 22; refine h1.mono ?_; rintro e w1 ⟨rfl, hb1⟩)
  go_ret
  exact ⟨rfl, hb1⟩
end Go.Proofs.YtfpknemoaplhdaaDoor
