/-
  THE WALK OF the document's own comparison of two lists of numbers: two slices that hold the same numbers are told equal, and nothing has turned.
-/
import Derived.Test.YteoiijiiccecfaaProg
import Derived.WalkKit
import Derived.ProofKit
namespace Go.Proofs.Yteoiijiiccecfaa
open Go.RowKit

set_option maxHeartbeats 400000 in
theorem eq_same (ba bb n ca cb : Nat) (f : Nat → Int) (hn : n ≤ 1073741824) (w : World)
    (ha : ∀ j, j < n → w.cell? ⟨ba, j, none⟩ = some (.int .i64 (f j))) (hb : ∀ j, j < n → w.cell? ⟨bb, j, none⟩ = some (.int .i64 (f j))) :
    Calls Try.prog 9 #[.slice (some ⟨ba, 0, none⟩) n ca, .slice (some ⟨bb, 0, none⟩) n cb] w fun e w' => e = .returned (.bool true) ∧ w' = w := by
  go_enter Try.func9, Try.ntmps9
  go_wp2
  go_loop [14] (fun i => ∃ k : Nat, k ≤ n ∧ i = .int .i64 k) (fun i => n - (intOf i).toNat)
  case atStart => exact ⟨0, Nat.zero_le _, rfl⟩
  case round =>
    obtain ⟨k, hk, rfl⟩ := hrel
    by_cases hlt : k < n
    · have h1 := ha k hlt
      have h2 := hb k hlt
      clear ha hb
      go_wp2
      go_round
      case rel => exact ⟨k + 1, by omega, by go_num⟩
      case measure => simp [intOf]; omega
    · clear ha hb
      go_wp2
      go_ret
      exact ⟨rfl, rfl⟩
end Go.Proofs.Yteoiijiiccecfaa
