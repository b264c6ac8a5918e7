/-
  THE WALK OF 'bytes' of the verifier's own package.
-/
import Derived.Test.YtgfcinlhhofllaaDoorRefHex
namespace Go.Proofs.YtgfcinlhhofllaaDoor
open Go.RowKit

theorem bytes_any (h v : ByteArray) (hs : h.size ≤ 1073741824) (hv : unhexB h = some v) (w : World) :
    Calls Tryd.prog 5 #[.string h] w fun e w' => e = .returned (.string v) ∧ Below w.heap.size w w' := by
  have h1 := refUnhex_some h v hs hv w
  clear hv hs
  go_enter Tryd.func5, Tryd.ntmps5
  go_wp2_with (go_at_call 9; refine h1.mono ?_; rintro e w1 ⟨rfl, hb1⟩)
  go_ret
  exact ⟨rfl, hb1⟩
end Go.Proofs.YtgfcinlhhofllaaDoor
