/-
  ChachaKnown: the call returns true: a block and a key are as they are known.
-/
import Derived.Test.YtfmghneagggilabFrame
import Derived.Test.YtfmghneagggilabChaSub
import Derived.Test.YtfmghneagggilabPlainChaKnown
import Derived.Test.YtfmghneagggilabKeepBytes
import Derived.Test.YtfmghneagggilabShelfPre
namespace Go.Proofs.Ytfmghneagggilab.chachaKnown
open Go.ChangeShapes Go.WideShapes Go.ChangeAt Go.RowKit
open cha

theorem un1 : unhexB (⟨#[48, 48, 48, 49, 48, 50, 48, 51, 48, 52, 48, 53, 48, 54, 48, 55, 48, 56, 48, 57, 48, 97, 48, 98, 48, 99, 48, 100, 48, 101, 48, 102, 49, 48, 49, 49, 49, 50, 49, 51, 49, 52, 49, 53, 49, 54, 49, 55, 49, 56, 49, 57, 49, 97, 49, 98, 49, 99, 49, 100, 49, 101, 49, 102]⟩ : ByteArray) = some kK := by decide +kernel
theorem un2 : unhexB (⟨#[48, 48, 48, 48, 48, 48, 48, 57, 48, 48, 48, 48, 48, 48, 52, 97, 48, 48, 48, 48, 48, 48, 48, 48]⟩ : ByteArray) = some kN := by decide +kernel
theorem un3 : unhexB (⟨#[48, 48, 48, 48, 48, 48, 48, 57, 48, 48, 48, 48, 48, 48, 52, 97, 48, 48, 48, 48, 48, 48, 48, 48, 51, 49, 52, 49, 53, 57, 50, 55]⟩ : ByteArray) = some kL := by decide +kernel
theorem un4 : unhexB (⟨#[49, 48, 102, 49, 101, 55, 101, 52, 100, 49, 51, 98, 53, 57, 49, 53, 53, 48, 48, 102, 100, 100, 49, 102, 97, 51, 50, 48, 55, 49, 99, 52]⟩ : ByteArray) = some kP := by decide +kernel
theorem un5 : unhexB (⟨#[56, 50, 52, 49, 51, 98, 52, 50, 50, 55, 98, 50, 55, 98, 102, 101, 100, 51, 48, 101, 52, 50, 53, 48, 56, 97, 56, 55, 55, 100, 55, 51, 97, 48, 102, 57, 101, 52, 100, 53, 56, 97, 55, 52, 97, 56, 53, 51, 99, 49, 50, 101, 99, 52, 49, 51, 50, 54, 100, 51, 101, 99, 100, 99]⟩ : ByteArray) = some kS := by decide +kernel
theorem pre : Lib.hasPrefix kB.data.toList kP.data.toList = true := by decide +kernel

set_option maxRecDepth 100000 in
set_option maxHeartbeats 800000 in
theorem walk (w : World) : Calls Try.prog 4 #[] w fun e w' => e = .returned (.bool true) ∧ Below w.heap.size w w' := by
  have B1 : Hid (∀ w, Calls Try.prog 10 #[.string (⟨#[48, 48, 48, 49, 48, 50, 48, 51, 48, 52, 48, 53, 48, 54, 48, 55, 48, 56, 48, 57, 48, 97, 48, 98, 48, 99, 48, 100, 48, 101, 48, 102, 49, 48, 49, 49, 49, 50, 49, 51, 49, 52, 49, 53, 49, 54, 49, 55, 49, 56, 49, 57, 49, 97, 49, 98, 49, 99, 49, 100, 49, 101, 49, 102]⟩ : ByteArray)] w fun e w' => e = .returned (.string kK) ∧ Below w.heap.size w w') := fun w => bytes_any _ kK (by decide) un1 w
  have B2 : Hid (∀ w, Calls Try.prog 10 #[.string (⟨#[48, 48, 48, 48, 48, 48, 48, 57, 48, 48, 48, 48, 48, 48, 52, 97, 48, 48, 48, 48, 48, 48, 48, 48]⟩ : ByteArray)] w fun e w' => e = .returned (.string kN) ∧ Below w.heap.size w w') := fun w => bytes_any _ kN (by decide) un2 w
  have B3 : Hid (∀ w, Calls Try.prog 10 #[.string (⟨#[48, 48, 48, 48, 48, 48, 48, 57, 48, 48, 48, 48, 48, 48, 52, 97, 48, 48, 48, 48, 48, 48, 48, 48, 51, 49, 52, 49, 53, 57, 50, 55]⟩ : ByteArray)] w fun e w' => e = .returned (.string kL) ∧ Below w.heap.size w w') := fun w => bytes_any _ kL (by decide) un3 w
  have B4 : Hid (∀ w, Calls Try.prog 10 #[.string (⟨#[49, 48, 102, 49, 101, 55, 101, 52, 100, 49, 51, 98, 53, 57, 49, 53, 53, 48, 48, 102, 100, 100, 49, 102, 97, 51, 50, 48, 55, 49, 99, 52]⟩ : ByteArray)] w fun e w' => e = .returned (.string kP) ∧ Below w.heap.size w w') := fun w => bytes_any _ kP (by decide) un4 w
  have B5 : Hid (∀ w, Calls Try.prog 10 #[.string (⟨#[56, 50, 52, 49, 51, 98, 52, 50, 50, 55, 98, 50, 55, 98, 102, 101, 100, 51, 48, 101, 52, 50, 53, 48, 56, 97, 56, 55, 55, 100, 55, 51, 97, 48, 102, 57, 101, 52, 100, 53, 56, 97, 55, 52, 97, 56, 53, 51, 99, 49, 50, 101, 99, 52, 49, 51, 50, 54, 100, 51, 101, 99, 100, 99]⟩ : ByteArray)] w fun e w' => e = .returned (.string kS) ∧ Below w.heap.size w w') := fun w => bytes_any _ kS (by decide) un5 w
  have F1 : Hid (∀ w, Calls Try.prog 8 #[.string kK, .string kN, .int .u32 1] w fun e w' => e = .returned (.tuple #[.string kB, .int .i64 0]) ∧ Below w.heap.size w w') := fun w => by
    have := Block_good kK kN 1 (by decide) rfl rfl w
    rw [blk_k] at this
    exact this
  have F2 : Hid (∀ w, Calls Try.prog 11 #[.string kK, .string kL] w fun e w' => e = .returned (.tuple #[.string kS, .int .i64 0]) ∧ Below w.heap.size w w') := fun w => by
    have := Sub_good kK kL rfl rfl w
    rw [sub_k] at this
    exact this
  have F3 : Hid (∀ w, Calls Try.prog 12 #[.string kB, .string kP] w fun e w' => e = .returned (.bool true) ∧ w' = w) := fun w => by
    have := Try.strings_HasPrefix kB kP w
    rw [pre] at this
    exact this
  generalize kK = x1 at *
  generalize kN = x2 at *
  generalize kL = x3 at *
  generalize kP = x4 at *
  generalize kS = x5 at *
  generalize kB = x6 at *
  have hX : Below w.heap.size w w := Below.refl _ _
  go_enter Try.func4, Try.ntmps4
  go_wp2_with (first
    | (go_at_call 10; (first | (with_reducible refine (B1.out _).mono ?_) | (with_reducible refine (B2.out _).mono ?_) | (with_reducible refine (B3.out _).mono ?_) | (with_reducible refine (B4.out _).mono ?_) | (with_reducible refine (B5.out _).mono ?_)); rintro e wq ⟨rfl, hq⟩; replace hX := hX.trans (hq.mono hX.size); clear hq)
    | (go_at_call 8; (with_reducible refine (F1.out _).mono ?_); rintro e wq ⟨rfl, hq⟩; replace hX := hX.trans (hq.mono hX.size); clear hq)
    | (go_at_call 11; (with_reducible refine (F2.out _).mono ?_); rintro e wq ⟨rfl, hq⟩; replace hX := hX.trans (hq.mono hX.size); clear hq)
    | (go_at_call 12; (with_reducible refine (F3.out _).mono ?_); rintro e wq ⟨rfl, rfl⟩))
  go_ret
  exact ⟨rfl, hX⟩

/-! ### The row's step -/
set_option maxRecDepth 100000 in
theorem lifted (os : Os) (started : os.Started) (H : Type) (enc : TypeId × Value → H) :
    ReturnsInHanded {} Try.checked os 4 .any (Rows.chachaKnownSpec.pre6 enc Try.prog Try.f4 Rows.chachaKnownRow.domain false) (Rows.chachaKnownSpec.post enc Try.prog Try.f4 false true false false) := by
  refine returnsInHanded_of_change (C := Try.checked) own started (by kernel_rfl) Try.func4
    (ChangeSpec.witness6 (enc := enc) (C := Try.checked) false ⟨#[], #[], []⟩ 8 (by kernel_rfl) (by kernel_rfl) (by kernel_rfl) (by kernel_rfl)) ?_
  intro W base args ds gs before _ hW _ _
  have hW' := hW
  obtain ⟨p, q, hA0, hV, rfl, hfz, hnd⟩ := hW
  have hA : DataW.TrodAll enc Try.prog W 0 (fun _ => true) true Try.f4.params.toList args.toList ds p := hA0
  rw [Try.params4] at hA
  obtain ⟨rfl, rfl, rfl⟩ := trodAll_none hA
  obtain ⟨rfl, rfl⟩ := trodVars_none hV
  clear hA0
  simp only [List.append_nil] at hW'
  refine (walk W).mono fun e W' ⟨he, hg⟩ => ?_
  subst he
  exact ⟨_, rfl, _, _, _, [], [], [], hW', trodAll_cons_mk (shut_bool Try.underlying4 _) trodAll_mk0, trodAll_mk0, rfl, hg.frame _, fun h => by cases h⟩

/-- THE STATEMENT. -/
theorem proved : Rows.ChachaKnownSaid :=
  OpenClaim.holds_of_wide 4 Try.f4 rfl rfl rfl rfl rfl rfl rfl ⟨rfl, rfl, rfl, rfl, rfl⟩ rfl rfl rfl rfl rfl (by kernel_rfl) Try.func4 (by kernel_rfl)
    (of_decide_eq_true (by kernel_rfl)) (by unfold Func.isWrapper; first | (rw [if_pos (by decide +kernel)]; kernel_rfl) | (rw [if_neg (by decide +kernel)]; exact ⟨rfl, rfl⟩))
    (fun os started H enc _ => lifted os started H enc)
end Go.Proofs.Ytfmghneagggilab.chachaKnown
