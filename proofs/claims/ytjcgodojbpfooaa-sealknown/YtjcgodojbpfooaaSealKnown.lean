/-
  SealKnown: the call returns true: a sealed text is as it is known.
-/
import Derived.Test.YtjcgodojbpfooaaFrame
import Derived.Test.YtjcgodojbpfooaaSealFace
import Derived.Test.YtjcgodojbpfooaaKeepBytes
import Derived.Test.YtjcgodojbpfooaaShelfStr
import Derived.Test.YtjcgodojbpfooaaPlainSealKnown
namespace Go.Proofs.Ytjcgodojbpfooaa.sealKnown
open Go.ChangeShapes Go.WideShapes Go.ChangeAt Go.RowKit
open sea

def vP : ByteArray := ⟨#[211, 26, 141, 52, 100, 142, 96, 219, 123, 134, 175, 188, 83, 239, 126, 194]⟩
theorem un1 : unhexB (⟨#[56, 48, 56, 49, 56, 50, 56, 51, 56, 52, 56, 53, 56, 54, 56, 55, 56, 56, 56, 57, 56, 97, 56, 98, 56, 99, 56, 100, 56, 101, 56, 102, 57, 48, 57, 49, 57, 50, 57, 51, 57, 52, 57, 53, 57, 54, 57, 55, 57, 56, 57, 57, 57, 97, 57, 98, 57, 99, 57, 100, 57, 101, 57, 102]⟩ : ByteArray) = some kK := by decide +kernel
theorem un2 : unhexB (⟨#[48, 55, 48, 48, 48, 48, 48, 48, 52, 48, 52, 49, 52, 50, 52, 51, 52, 52, 52, 53, 52, 54, 52, 55]⟩ : ByteArray) = some kN := by decide +kernel
theorem un3 : unhexB (⟨#[53, 48, 53, 49, 53, 50, 53, 51, 99, 48, 99, 49, 99, 50, 99, 51, 99, 52, 99, 53, 99, 54, 99, 55]⟩ : ByteArray) = some kM := by decide +kernel
theorem un4 : unhexB (⟨#[100, 51, 49, 97, 56, 100, 51, 52, 54, 52, 56, 101, 54, 48, 100, 98, 55, 98, 56, 54, 97, 102, 98, 99, 53, 51, 101, 102, 55, 101, 99, 50]⟩ : ByteArray) = some vP := by decide +kernel
theorem un5 : unhexB (⟨#[49, 97, 101, 49, 48, 98, 53, 57, 52, 102, 48, 57, 101, 50, 54, 97, 55, 101, 57, 48, 50, 101, 99, 98, 100, 48, 54, 48, 48, 54, 57, 49]⟩ : ByteArray) = some kG := by decide +kernel
theorem pre_k : Lib.hasPrefix kZ.data.toList vP.data.toList = true := by decide +kernel
theorem suf_k : Lib.hasSuffix kZ.data.toList kG.data.toList = true := by decide +kernel

set_option maxRecDepth 100000 in
set_option maxHeartbeats 800000 in
theorem walk (w : World) : Calls Try.prog 8 #[] w fun e w' => e = .returned (.bool true) ∧ Below w.heap.size w w' := by
  have B1 : Hid (∀ w, Calls Try.prog 18 #[.string (⟨#[56, 48, 56, 49, 56, 50, 56, 51, 56, 52, 56, 53, 56, 54, 56, 55, 56, 56, 56, 57, 56, 97, 56, 98, 56, 99, 56, 100, 56, 101, 56, 102, 57, 48, 57, 49, 57, 50, 57, 51, 57, 52, 57, 53, 57, 54, 57, 55, 57, 56, 57, 57, 57, 97, 57, 98, 57, 99, 57, 100, 57, 101, 57, 102]⟩ : ByteArray)] w fun e w' => e = .returned (.string kK) ∧ Below w.heap.size w w') := fun w => bytes_any _ kK (by decide) un1 w
  have B2 : Hid (∀ w, Calls Try.prog 18 #[.string (⟨#[48, 55, 48, 48, 48, 48, 48, 48, 52, 48, 52, 49, 52, 50, 52, 51, 52, 52, 52, 53, 52, 54, 52, 55]⟩ : ByteArray)] w fun e w' => e = .returned (.string kN) ∧ Below w.heap.size w w') := fun w => bytes_any _ kN (by decide) un2 w
  have B3 : Hid (∀ w, Calls Try.prog 18 #[.string (⟨#[53, 48, 53, 49, 53, 50, 53, 51, 99, 48, 99, 49, 99, 50, 99, 51, 99, 52, 99, 53, 99, 54, 99, 55]⟩ : ByteArray)] w fun e w' => e = .returned (.string kM) ∧ Below w.heap.size w w') := fun w => bytes_any _ kM (by decide) un3 w
  have B4 : Hid (∀ w, Calls Try.prog 18 #[.string (⟨#[100, 51, 49, 97, 56, 100, 51, 52, 54, 52, 56, 101, 54, 48, 100, 98, 55, 98, 56, 54, 97, 102, 98, 99, 53, 51, 101, 102, 55, 101, 99, 50]⟩ : ByteArray)] w fun e w' => e = .returned (.string vP) ∧ Below w.heap.size w w') := fun w => bytes_any _ vP (by decide) un4 w
  have B5 : Hid (∀ w, Calls Try.prog 18 #[.string (⟨#[49, 97, 101, 49, 48, 98, 53, 57, 52, 102, 48, 57, 101, 50, 54, 97, 55, 101, 57, 48, 50, 101, 99, 98, 100, 48, 54, 48, 48, 54, 57, 49]⟩ : ByteArray)] w fun e w' => e = .returned (.string kG) ∧ Below w.heap.size w w') := fun w => bytes_any _ kG (by decide) un5 w
  have F1 : Hid (∀ w, Calls Try.prog 9 #[.string kK, .string kN, .string kM, .string kT] w fun e w' => e = .returned (.tuple #[.string kZ, .int .i64 0]) ∧ Below w.heap.size w w') := fun w => by
    have := seal_any kK kN kM kT w
    rw [chk_k, seal_k] at this
    exact this
  have F2 : Hid (∀ w, Calls Try.prog 19 #[.string kZ, .string vP] w fun e w' => e = .returned (.bool true) ∧ w' = w) := fun w => by
    have := Try.strings_HasPrefix kZ vP w
    rw [pre_k] at this
    exact this
  have F3 : Hid (∀ w, Calls Try.prog 20 #[.string kZ, .string kG] w fun e w' => e = .returned (.bool true) ∧ w' = w) := fun w => by
    have := Try.strings_HasSuffix kZ kG w (by decide)
    rw [suf_k] at this
    exact this
  have HT : Hid (kT = ⟨#[76, 97, 100, 105, 101, 115, 32, 97, 110, 100, 32, 71, 101, 110, 116, 108, 101, 109, 101, 110, 32, 111, 102, 32, 116, 104, 101, 32, 99, 108, 97, 115, 115, 32, 111, 102, 32, 39, 57, 57, 58, 32, 73, 102, 32, 73, 32, 99, 111, 117, 108, 100, 32, 111, 102, 102, 101, 114, 32, 121, 111, 117, 32, 111, 110, 108, 121, 32, 111, 110, 101, 32, 116, 105, 112, 32, 102, 111, 114, 32, 116, 104, 101, 32, 102, 117, 116, 117, 114, 101, 44, 32, 115, 117, 110, 115, 99, 114, 101, 101, 110, 32, 119, 111, 117, 108, 100, 32, 98, 101, 32, 105, 116, 46]⟩) := rfl
  rw [HT.out] at F1
  clear HT
  generalize kZ = xZ at *
  generalize kK = xK at *
  generalize kN = xN at *
  generalize kM = xM at *
  generalize vP = xP at *
  generalize kG = xG at *
  have hX : Below w.heap.size w w := Below.refl _ _
  go_enter Try.func8, Try.ntmps8
  go_wp2_with (first
    | (go_at_call 18; (first | (with_reducible refine (B1.out _).mono ?_) | (with_reducible refine (B2.out _).mono ?_) | (with_reducible refine (B3.out _).mono ?_) | (with_reducible refine (B4.out _).mono ?_) | (with_reducible refine (B5.out _).mono ?_)); rintro e wq ⟨rfl, hq⟩; replace hX := hX.trans (hq.mono hX.size); clear hq)
    | (go_at_call 9; (with_reducible refine (F1.out _).mono ?_); rintro e wq ⟨rfl, hq⟩; replace hX := hX.trans (hq.mono hX.size); clear hq)
    | (go_at_call 19; (with_reducible refine (F2.out _).mono ?_); rintro e wq ⟨rfl, rfl⟩)
    | (go_at_call 20; (with_reducible refine (F3.out _).mono ?_); rintro e wq ⟨rfl, rfl⟩))
  go_ret
  exact ⟨rfl, hX⟩

/-! ### The row's step -/
set_option maxRecDepth 100000 in
theorem lifted (os : Os) (started : os.Started) (H : Type) (enc : TypeId × Value → H) :
    ReturnsInHanded {} Try.checked os 8 .any (Rows.sealKnownSpec.pre6 enc Try.prog Try.f8 Rows.sealKnownRow.domain false) (Rows.sealKnownSpec.post enc Try.prog Try.f8 false true false false) := by
  refine returnsInHanded_of_change (C := Try.checked) own started (by kernel_rfl) Try.func8
    (ChangeSpec.witness6 (enc := enc) (C := Try.checked) false ⟨#[], #[], []⟩ 8 (by kernel_rfl) (by kernel_rfl) (by kernel_rfl) (by kernel_rfl)) ?_
  intro W base args ds gs before _ hW _ _
  have hW' := hW
  obtain ⟨p, q, hA0, hV, rfl, hfz, hnd⟩ := hW
  have hA : DataW.TrodAll enc Try.prog W 0 (fun _ => true) true Try.f8.params.toList args.toList ds p := hA0
  rw [Try.params8] at hA
  obtain ⟨rfl, rfl, rfl⟩ := trodAll_none hA
  obtain ⟨rfl, rfl⟩ := trodVars_none hV
  clear hA0
  simp only [List.append_nil] at hW'
  refine (walk W).mono fun e W' ⟨he, hg⟩ => ?_
  subst he
  exact ⟨_, rfl, _, _, _, [], [], [], hW', trodAll_cons_mk (shut_bool Try.underlying4 _) trodAll_mk0, trodAll_mk0, rfl, hg.frame _, fun h => by cases h⟩

/-- THE STATEMENT. -/
theorem proved : Rows.SealKnownSaid :=
  OpenClaim.holds_of_wide 8 Try.f8 rfl rfl rfl rfl rfl rfl rfl ⟨rfl, rfl, rfl, rfl, rfl⟩ rfl rfl rfl rfl rfl (by kernel_rfl) Try.func8 (by kernel_rfl)
    (of_decide_eq_true (by kernel_rfl)) (by unfold Func.isWrapper; first | (rw [if_pos (by decide +kernel)]; kernel_rfl) | (rw [if_neg (by decide +kernel)]; exact ⟨rfl, rfl⟩))
    (fun os started H enc _ => lifted os started H enc)
end Go.Proofs.Ytjcgodojbpfooaa.sealKnown
