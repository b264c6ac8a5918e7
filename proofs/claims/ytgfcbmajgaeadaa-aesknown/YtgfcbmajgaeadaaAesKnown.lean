/-
  AesKnown: the call returns true.
-/
import Derived.Test.YtgfcbmajgaeadaaFrame
import Derived.Test.YtgfcbmajgaeadaaAesGone
import Derived.Test.YtgfcbmajgaeadaaRefHex
import Derived.Test.YtgfcbmajgaeadaaShelfStr
import Derived.Test.YtgfcbmajgaeadaaPlainAesKnown
namespace Go.Proofs.Ytgfcbmajgaeadaa.aesKnown
open Go.ChangeShapes Go.WideShapes Go.ChangeAt Go.RowKit
open aes

def vHB : ByteArray := ⟨#[0, 17, 34, 51, 68, 85, 102, 119, 136, 153, 170, 187, 204, 221, 238, 255]⟩
def vH1 : ByteArray := ⟨#[0, 1, 2, 3, 4, 5, 6, 7, 8, 9, 10, 11, 12, 13, 14, 15]⟩
def vH2 : ByteArray := ⟨#[0, 1, 2, 3, 4, 5, 6, 7, 8, 9, 10, 11, 12, 13, 14, 15, 16, 17, 18, 19, 20, 21, 22, 23, 24, 25, 26, 27, 28, 29, 30, 31]⟩
def vH3 : ByteArray := ⟨#[43, 126, 21, 22, 40, 174, 210, 166, 171, 247, 21, 136, 9, 207, 79, 60]⟩
def vHR1 : ByteArray := ⟨#[105, 196, 224, 216, 106, 123, 4, 48, 216, 205, 183, 128, 112, 180, 197, 90]⟩
def vHR2 : ByteArray := ⟨#[142, 162, 183, 202, 81, 103, 69, 191, 234, 252, 73, 144, 75, 73, 96, 137]⟩
def vHR3 : ByteArray := ⟨#[208, 20, 249, 168, 201, 238, 37, 137, 225, 63, 12, 200, 182, 99, 12, 166]⟩
theorem unHB : unhexB (⟨#[48, 48, 49, 49, 50, 50, 51, 51, 52, 52, 53, 53, 54, 54, 55, 55, 56, 56, 57, 57, 97, 97, 98, 98, 99, 99, 100, 100, 101, 101, 102, 102]⟩ : ByteArray) = some vHB := by decide +kernel
theorem unH1 : unhexB (⟨#[48, 48, 48, 49, 48, 50, 48, 51, 48, 52, 48, 53, 48, 54, 48, 55, 48, 56, 48, 57, 48, 97, 48, 98, 48, 99, 48, 100, 48, 101, 48, 102]⟩ : ByteArray) = some vH1 := by decide +kernel
theorem unH2 : unhexB (⟨#[48, 48, 48, 49, 48, 50, 48, 51, 48, 52, 48, 53, 48, 54, 48, 55, 48, 56, 48, 57, 48, 97, 48, 98, 48, 99, 48, 100, 48, 101, 48, 102, 49, 48, 49, 49, 49, 50, 49, 51, 49, 52, 49, 53, 49, 54, 49, 55, 49, 56, 49, 57, 49, 97, 49, 98, 49, 99, 49, 100, 49, 101, 49, 102]⟩ : ByteArray) = some vH2 := by decide +kernel
theorem unH3 : unhexB (⟨#[50, 98, 55, 101, 49, 53, 49, 54, 50, 56, 97, 101, 100, 50, 97, 54, 97, 98, 102, 55, 49, 53, 56, 56, 48, 57, 99, 102, 52, 102, 51, 99]⟩ : ByteArray) = some vH3 := by decide +kernel
theorem unHR1 : unhexB (⟨#[54, 57, 99, 52, 101, 48, 100, 56, 54, 97, 55, 98, 48, 52, 51, 48, 100, 56, 99, 100, 98, 55, 56, 48, 55, 48, 98, 52, 99, 53, 53, 97]⟩ : ByteArray) = some vHR1 := by decide +kernel
theorem unHR2 : unhexB (⟨#[56, 101, 97, 50, 98, 55, 99, 97, 53, 49, 54, 55, 52, 53, 98, 102, 101, 97, 102, 99, 52, 57, 57, 48, 52, 98, 52, 57, 54, 48, 56, 57]⟩ : ByteArray) = some vHR2 := by decide +kernel
theorem unHR3 : unhexB (⟨#[100, 48, 49, 52, 102, 57, 97, 56, 99, 57, 101, 101, 50, 53, 56, 57, 101, 49, 51, 102, 48, 99, 99, 56, 98, 54, 54, 51, 48, 99, 97, 54]⟩ : ByteArray) = some vHR3 := by decide +kernel
theorem bytes_any (h v : ByteArray) (hs : h.size ≤ 1073741824) (hv : unhexB h = some v) (w : World) :
    Calls Try.prog 15 #[.string h] w fun e w' => e = .returned (.string v) ∧ Below w.heap.size w w' := by
  have h1 := refUnhex_some h v hs hv w
  clear hv hs
  go_enter Try.func15, Try.ntmps15
  go_wp2_with (go_at_call 28; refine h1.mono ?_; rintro e w1 ⟨rfl, hb1⟩)
  go_ret
  exact ⟨rfl, hb1⟩
theorem enc_1 : encB vH1 vHB = vHR1 := by
  have h := congrArg tx known_1'
  exact h
theorem enc_2 : encB vH2 vHB = vHR2 := by
  have h := congrArg tx known_2'
  exact h
theorem suf_3 : Lib.hasSuffix (tx (kE vH3)).data.toList vHR3.data.toList = true := by
  have h : (kE vH3).drop 160 = [208, 20, 249, 168, 201, 238, 37, 137, 225, 63, 12, 200, 182, 99, 12, 166] := known_3'
  unfold Lib.hasSuffix
  rw [List.isSuffixOf_iff_suffix]
  refine ⟨((kE vH3).take 160).map UInt8.ofNat, ?_⟩
  have e : vHR3.data.toList = ((kE vH3).drop 160).map UInt8.ofNat := by rw [h]; rfl
  rw [e, ← List.map_append, List.take_append_drop]
  simp [tx]
theorem size_3 : (tx (kE vH3)).size ≤ 9223372036854775807 := by
  rw [tx_size, kE_length vH3 (.inl rfl)]
  decide
set_option maxRecDepth 100000 in
set_option maxHeartbeats 800000 in
theorem walk (w : World) : Calls Try.prog 7 #[] w fun e w' => e = .returned (.bool true) ∧ Below w.heap.size w w' := by
  have BHB : Hid (∀ w, Calls Try.prog 15 #[.string (⟨#[48, 48, 49, 49, 50, 50, 51, 51, 52, 52, 53, 53, 54, 54, 55, 55, 56, 56, 57, 57, 97, 97, 98, 98, 99, 99, 100, 100, 101, 101, 102, 102]⟩ : ByteArray)] w fun e w' => e = .returned (.string vHB) ∧ Below w.heap.size w w') := fun w => bytes_any _ vHB (by decide) unHB w
  have BH1 : Hid (∀ w, Calls Try.prog 15 #[.string (⟨#[48, 48, 48, 49, 48, 50, 48, 51, 48, 52, 48, 53, 48, 54, 48, 55, 48, 56, 48, 57, 48, 97, 48, 98, 48, 99, 48, 100, 48, 101, 48, 102]⟩ : ByteArray)] w fun e w' => e = .returned (.string vH1) ∧ Below w.heap.size w w') := fun w => bytes_any _ vH1 (by decide) unH1 w
  have BH2 : Hid (∀ w, Calls Try.prog 15 #[.string (⟨#[48, 48, 48, 49, 48, 50, 48, 51, 48, 52, 48, 53, 48, 54, 48, 55, 48, 56, 48, 57, 48, 97, 48, 98, 48, 99, 48, 100, 48, 101, 48, 102, 49, 48, 49, 49, 49, 50, 49, 51, 49, 52, 49, 53, 49, 54, 49, 55, 49, 56, 49, 57, 49, 97, 49, 98, 49, 99, 49, 100, 49, 101, 49, 102]⟩ : ByteArray)] w fun e w' => e = .returned (.string vH2) ∧ Below w.heap.size w w') := fun w => bytes_any _ vH2 (by decide) unH2 w
  have BH3 : Hid (∀ w, Calls Try.prog 15 #[.string (⟨#[50, 98, 55, 101, 49, 53, 49, 54, 50, 56, 97, 101, 100, 50, 97, 54, 97, 98, 102, 55, 49, 53, 56, 56, 48, 57, 99, 102, 52, 102, 51, 99]⟩ : ByteArray)] w fun e w' => e = .returned (.string vH3) ∧ Below w.heap.size w w') := fun w => bytes_any _ vH3 (by decide) unH3 w
  have BHR1 : Hid (∀ w, Calls Try.prog 15 #[.string (⟨#[54, 57, 99, 52, 101, 48, 100, 56, 54, 97, 55, 98, 48, 52, 51, 48, 100, 56, 99, 100, 98, 55, 56, 48, 55, 48, 98, 52, 99, 53, 53, 97]⟩ : ByteArray)] w fun e w' => e = .returned (.string vHR1) ∧ Below w.heap.size w w') := fun w => bytes_any _ vHR1 (by decide) unHR1 w
  have BHR2 : Hid (∀ w, Calls Try.prog 15 #[.string (⟨#[56, 101, 97, 50, 98, 55, 99, 97, 53, 49, 54, 55, 52, 53, 98, 102, 101, 97, 102, 99, 52, 57, 57, 48, 52, 98, 52, 57, 54, 48, 56, 57]⟩ : ByteArray)] w fun e w' => e = .returned (.string vHR2) ∧ Below w.heap.size w w') := fun w => bytes_any _ vHR2 (by decide) unHR2 w
  have BHR3 : Hid (∀ w, Calls Try.prog 15 #[.string (⟨#[100, 48, 49, 52, 102, 57, 97, 56, 99, 57, 101, 101, 50, 53, 56, 57, 101, 49, 51, 102, 48, 99, 99, 56, 98, 54, 54, 51, 48, 99, 97, 54]⟩ : ByteArray)] w fun e w' => e = .returned (.string vHR3) ∧ Below w.heap.size w w') := fun w => bytes_any _ vHR3 (by decide) unHR3 w
  have F1 : Hid (∀ w, Calls Try.prog 11 #[.string vH1, .string vHB] w fun e w' => e = .returned (.tuple #[.string vHR1, .int .i64 0]) ∧ Below w.heap.size w w') := fun w => by
    have := encrypt_good vH1 vHB (.inl rfl) rfl w
    rw [enc_1] at this
    exact this
  have F2 : Hid (∀ w, Calls Try.prog 11 #[.string vH2, .string vHB] w fun e w' => e = .returned (.tuple #[.string vHR2, .int .i64 0]) ∧ Below w.heap.size w w') := fun w => by
    have := encrypt_good vH2 vHB (.inr rfl) rfl w
    rw [enc_2] at this
    exact this
  have F3 : Hid (∀ w, Calls Try.prog 9 #[.string vH3] w fun e w' => e = .returned (.tuple #[.string (tx (kE vH3)), .int .i64 0]) ∧ Below w.heap.size w w') := fun w => expand_good vH3 (.inl rfl) w
  have F4 : Hid (∀ w, Calls Try.prog 16 #[.string (tx (kE vH3)), .string vHR3] w fun e w' => e = .returned (.bool true) ∧ w' = w) := fun w => by
    have := Try.strings_HasSuffix (tx (kE vH3)) vHR3 w size_3
    rw [suf_3] at this
    exact this
  generalize vHB = xHB at *
  generalize vH1 = xH1 at *
  generalize vH2 = xH2 at *
  generalize vHR1 = xHR1 at *
  generalize vHR2 = xHR2 at *
  generalize vHR3 = xHR3 at *
  generalize tx (kE vH3) = xE at *
  generalize vH3 = xH3 at *
  go_enter Try.func7, Try.ntmps7
  go_wp2_with (first
    | (go_at_call 15; first
      | (with_reducible refine (BHB.out _).mono ?_; rintro e w_HB ⟨rfl, hb_HB⟩)
      | (with_reducible refine (BH1.out _).mono ?_; rintro e w_H1 ⟨rfl, hb_H1⟩)
      | (with_reducible refine (BH2.out _).mono ?_; rintro e w_H2 ⟨rfl, hb_H2⟩)
      | (with_reducible refine (BH3.out _).mono ?_; rintro e w_H3 ⟨rfl, hb_H3⟩)
      | (with_reducible refine (BHR1.out _).mono ?_; rintro e w_HR1 ⟨rfl, hb_HR1⟩)
      | (with_reducible refine (BHR2.out _).mono ?_; rintro e w_HR2 ⟨rfl, hb_HR2⟩)
      | (with_reducible refine (BHR3.out _).mono ?_; rintro e w_HR3 ⟨rfl, hb_HR3⟩))
    | (go_at_call 11; first | (with_reducible refine (F1.out _).mono ?_; rintro e w1 ⟨rfl, hb1⟩) | (with_reducible refine (F2.out _).mono ?_; rintro e w2 ⟨rfl, hb2⟩))
    | (go_at_call 9; with_reducible refine (F3.out _).mono ?_; rintro e w3 ⟨rfl, hb3⟩)
    | (go_at_call 16; with_reducible refine (F4.out _).mono ?_; rintro e w4 ⟨rfl, rfl⟩))
  go_ret
  refine ⟨rfl, ?_⟩
  have k1 := hb_HB
  have k2 := k1.trans (hb_H1.mono k1.size)
  have k3 := k2.trans (hb1.mono k2.size)
  have k4 := k3.trans (hb_H2.mono k3.size)
  have k5 := k4.trans (hb2.mono k4.size)
  have k6 := k5.trans (hb_H3.mono k5.size)
  have k7 := k6.trans (hb3.mono k6.size)
  have k8 := k7.trans (hb_HR1.mono k7.size)
  have k9 := k8.trans (hb_HR2.mono k8.size)
  have k10 := k9.trans (hb_HR3.mono k9.size)
  exact k10

/-! ### The row's step -/
set_option maxRecDepth 100000 in
theorem lifted (os : Os) (started : os.Started) (H : Type) (enc : TypeId × Value → H) :
    ReturnsInHanded {} Try.checked os 7 .any (Rows.aesKnownSpec.pre6 enc Try.prog Try.f7 Rows.aesKnownRow.domain false) (Rows.aesKnownSpec.post enc Try.prog Try.f7 false true false false) := by
  refine returnsInHanded_of_change (C := Try.checked) own started (by kernel_rfl) Try.func7
    (ChangeSpec.witness6 (enc := enc) (C := Try.checked) false ⟨#[], #[], []⟩ 8 (by kernel_rfl) (by kernel_rfl) (by kernel_rfl) (by kernel_rfl)) ?_
  intro W base args ds gs before _ hW _ _
  have hW' := hW
  obtain ⟨p, q, hA0, hV, rfl, hfz, hnd⟩ := hW
  have hA : DataW.TrodAll enc Try.prog W 0 (fun _ => true) true Try.f7.params.toList args.toList ds p := hA0
  rw [Try.params7] at hA
  obtain ⟨rfl, rfl, rfl⟩ := trodAll_none hA
  obtain ⟨rfl, rfl⟩ := trodVars_none hV
  clear hA0
  simp only [List.append_nil] at hW'
  refine (walk W).mono fun e W' ⟨he, hg⟩ => ?_
  subst he
  exact ⟨_, rfl, _, _, _, [], [], [], hW', trodAll_cons_mk (shut_bool Try.underlying4 _) trodAll_mk0, trodAll_mk0, rfl, hg.frame _, fun h => by cases h⟩

/-- THE STATEMENT. -/
theorem proved : Rows.AesKnownSaid :=
  OpenClaim.holds_of_wide 7 Try.f7 rfl rfl rfl rfl rfl rfl rfl ⟨rfl, rfl, rfl, rfl, rfl⟩ rfl rfl rfl rfl rfl (by kernel_rfl) Try.func7 (by kernel_rfl)
    (of_decide_eq_true (by kernel_rfl)) (by unfold Func.isWrapper; first | (rw [if_pos (by decide +kernel)]; kernel_rfl) | (rw [if_neg (by decide +kernel)]; exact ⟨rfl, rfl⟩))
    (fun os started H enc _ => lifted os started H enc)
end Go.Proofs.Ytgfcbmajgaeadaa.aesKnown
