/-
  THE WALK OF the document's own Step.Of.
-/
import Derived.Test.YtnomfkmdckmjeaaStepRow
import Derived.Test.YtnomfkmdckmjeaaKeepRest
import Derived.Test.YtnomfkmdckmjeaaBlk
namespace Go.Proofs.Ytnomfkmdckmjeaa
open Go.RowKit

theorem i64_bd' {n : Int} (h : (Lit.int .i64 n).wf = true) : -9223372036854775808 ≤ n ∧ n ≤ 9223372036854775807 := by
  simp [Lit.wf] at h
  have h0 : IntKind.i64.min = -9223372036854775808 := rfl
  have h1 : IntKind.i64.max = 9223372036854775807 := rfl
  omega
theorem of_any (x : StepV) (hx : x.Fits) (m : Nat) (hm : 0 < m) (hm2 : m ≤ 1099511627776) (w : World) :
    Calls Try.prog 13 #[.agg (cells8 x).toArray, .int .i64 m] w fun e w' => e = .returned (.int .i64 (((x.kind % (m : Int)).toNat : Nat) : Int)) ∧ Below w.heap.size w w' := by
  have f1 := rest_any x.kind m hm hm2 (i64_bd' hx.kind)
  have hX : Below w.heap.size w (w.alloc (.cells (cells8 x).toArray 34)) := (Below.refl _ _).alloc (Nat.le_refl _) _
  generalize (x.kind % (m : Int)).toNat = q at *
  unfold cells8 at hX ⊢
  go_enter Try.func13, Try.ntmps13
  go_wp2_with (go_at_call 12; (with_reducible refine (f1 _).mono ?_); rintro e w3 ⟨rfl, hq⟩; have hq := hq.symm; subst hq)
  go_ret
  exact ⟨rfl, hX⟩
end Go.Proofs.Ytnomfkmdckmjeaa
