/-
  GcmKnown: the call returns true: two sealed texts are as they are known.
-/
import Derived.Test.YtibdlccaenanmaaFrame
import Derived.Test.YtibdlccaenanmaaGcmFace
import Derived.Test.YtibdlccaenanmaaSized
import Derived.Test.YtibdlccaenanmaaKeepBytes
import Derived.Test.YtibdlccaenanmaaPlainAesKnown
namespace Go.Proofs.Ytibdlccaenanmaa.gcmKnown
open Go.ChangeShapes Go.WideShapes Go.ChangeAt Go.RowKit
open box
open aes (frcN frcN_eq kE enc whole whole_eq zero16)
open ghs (xt xts acc bn bt sumN sm nbk dr lenN xo)
open gcm

def v1 : ByteArray := ⟨#[206, 167, 64, 61, 77, 96, 107, 110, 7, 78, 197, 211, 186, 243, 157, 24, 208, 209, 200, 167, 153, 153, 107, 240, 38, 91, 152, 181, 212, 138, 185, 25]⟩
def v2 : ByteArray := ⟨#[83, 15, 138, 251, 199, 69, 54, 185, 169, 99, 180, 241, 196, 203, 115, 139]⟩
theorem un1 : unhexB (⟨#[99, 101, 97, 55, 52, 48, 51, 100, 52, 100, 54, 48, 54, 98, 54, 101, 48, 55, 52, 101, 99, 53, 100, 51, 98, 97, 102, 51, 57, 100, 49, 56, 100, 48, 100, 49, 99, 56, 97, 55, 57, 57, 57, 57, 54, 98, 102, 48, 50, 54, 53, 98, 57, 56, 98, 53, 100, 52, 56, 97, 98, 57, 49, 57]⟩ : ByteArray) = some v1 := by decide +kernel
theorem un2 : unhexB (⟨#[53, 51, 48, 102, 56, 97, 102, 98, 99, 55, 52, 53, 51, 54, 98, 57, 97, 57, 54, 51, 98, 52, 102, 49, 99, 52, 99, 98, 55, 51, 56, 98]⟩ : ByteArray) = some v2 := by decide +kernel
/-- The product, each step reckoned ahead of the next. -/
def accF (a : Nat) : Nat → Nat → Nat → Nat → Nat
  | 0, _, _, r => r
  | n + 1, k, b, r => frcN (xt b) fun b' => frcN (r ^^^ b * (a / 2 ^ (127 - k) % 2)) fun r' => accF a n (k + 1) b' r'
theorem accF_eq (a b : Nat) : ∀ n k, accF a n k (xts b k) (acc a b k) = acc a b (k + n)
  | 0, _ => rfl
  | n + 1, k => by
    rw [accF, frcN_eq, frcN_eq]
    have := accF_eq a b n (k + 1)
    rw [show k + 1 + n = k + (n + 1) from by omega] at this
    exact this
theorem gm_fast (a b : Nat) : ghs.gm a b = accF a 128 0 b 0 := by
  have := accF_eq a b 128 0
  rw [Nat.zero_add] at this
  exact this.symm
def L0 : List Nat := [220, 149, 192, 120, 162, 64, 137, 137, 173, 72, 162, 20, 146, 132, 32, 135]
def L1 : List Nat := [83, 15, 138, 251, 199, 69, 54, 185, 169, 99, 180, 241, 196, 203, 115, 139]
def L2 : List Nat := [206, 167, 64, 61, 77, 96, 107, 110, 7, 78, 197, 211, 186, 243, 157, 24]
def Z32 : List Nat := List.replicate 32 0
theorem w0 : (whole 8 Z32 zero16 == L0) = true := by decide +kernel
theorem w1 : (whole 8 Z32 [0, 0, 0, 0, 0, 0, 0, 0, 0, 0, 0, 0, 0, 0, 0, 1] == L1) = true := by decide +kernel
theorem w2 : (whole 8 Z32 [0, 0, 0, 0, 0, 0, 0, 0, 0, 0, 0, 0, 0, 0, 0, 2] == L2) = true := by decide +kernel
theorem kE_z : kE (noughts 32) = aes.expand 8 Z32 := rfl
theorem e0 : enc (kE (noughts 32)) 14 zero16 = L0 := by rw [kE_z]; exact (whole_eq 8 _ _).trans (eq_of_beq w0)
theorem e1 : enc (kE (noughts 32)) 14 (blk (noughts 12) 1) = L1 := by rw [kE_z]; exact (whole_eq 8 _ _).trans (eq_of_beq w1)
theorem e2 : enc (kE (noughts 32)) 14 (blk (noughts 12) 2) = L2 := by rw [kE_z]; exact (whole_eq 8 _ _).trans (eq_of_beq w2)
def H : Nat := 293207715084841176535342243128575008903
theorem bn0 : bn (tx L0) = H := by decide +kernel
theorem hid_1 : hide (kE (noughts 32)) (noughts 12) (noughts 16) = tx L2 := by
  unfold hide mask
  rw [show K (noughts 16).size = 1 from by decide +kernel, stm, stm, List.nil_append, e2]
  decide +kernel
theorem hid_2 : hide (kE (noughts 32)) (noughts 12) ⟨#[]⟩ = ⟨#[]⟩ := by
  unfold hide mask
  rw [show K (⟨#[]⟩ : ByteArray).size = 0 from by decide +kernel, stm]
  decide +kernel
theorem sum_1 : sumN H ⟨#[]⟩ (tx L2) = 175282903307801498547036460559768865426 := by
  unfold sumN
  rw [show nbk (⟨#[]⟩ : ByteArray) = 0 from by decide +kernel, show nbk (tx L2) = 1 from by decide +kernel, sm, sm, sm]
  rw [show (0 ^^^ bn (dr (tx L2) (16 * 0))) = 274689383638147443066989238707276717336 from by decide +kernel, show lenN (⟨#[]⟩ : ByteArray) (tx L2) = 128 from by decide +kernel]
  rw [gm_fast, gm_fast]
  decide +kernel
theorem sum_2 : sumN H ⟨#[]⟩ ⟨#[]⟩ = 0 := by
  unfold sumN
  rw [show nbk (⟨#[]⟩ : ByteArray) = 0 from by decide +kernel, sm, sm, show lenN (⟨#[]⟩ : ByteArray) ⟨#[]⟩ = 0 from by decide +kernel]
  rw [gm_fast]
  decide +kernel
theorem tag_1 : tagT (kE (noughts 32)) (noughts 12) ⟨#[]⟩ (tx L2) = ⟨#[208, 209, 200, 167, 153, 153, 107, 240, 38, 91, 152, 181, 212, 138, 185, 25]⟩ := by
  unfold tagT
  rw [e0, e1, bn0, sum_1]
  decide +kernel
theorem tag_2 : tagT (kE (noughts 32)) (noughts 12) ⟨#[]⟩ ⟨#[]⟩ = v2 := by
  unfold tagT
  rw [e0, e1, bn0, sum_2]
  decide +kernel
theorem chk_1 : chk (noughts 32) (noughts 12) ⟨#[]⟩ (noughts 16) 2000 = 0 := by decide +kernel
theorem chk_2 : chk (noughts 32) (noughts 12) ⟨#[]⟩ ⟨#[]⟩ 2000 = 0 := by decide +kernel
theorem seal_1 : sealT (hide (kE (noughts 32)) (noughts 12)) (tagT (kE (noughts 32)) (noughts 12) ⟨#[]⟩) 0 (noughts 16) = v1 := by
  rw [sealT, if_pos rfl, hid_1, tag_1]
  decide +kernel
theorem seal_2 : sealT (hide (kE (noughts 32)) (noughts 12)) (tagT (kE (noughts 32)) (noughts 12) ⟨#[]⟩) 0 ⟨#[]⟩ = v2 := by
  rw [sealT, if_pos rfl, hid_2, tag_2]
  decide +kernel

set_option maxRecDepth 100000 in
set_option maxHeartbeats 800000 in
theorem walk (w : World) : Calls Try.prog 6 #[] w fun e w' => e = .returned (.bool true) ∧ Below w.heap.size w w' := by
  have B1 : Hid (∀ w, Calls Try.prog 15 #[.string (⟨#[99, 101, 97, 55, 52, 48, 51, 100, 52, 100, 54, 48, 54, 98, 54, 101, 48, 55, 52, 101, 99, 53, 100, 51, 98, 97, 102, 51, 57, 100, 49, 56, 100, 48, 100, 49, 99, 56, 97, 55, 57, 57, 57, 57, 54, 98, 102, 48, 50, 54, 53, 98, 57, 56, 98, 53, 100, 52, 56, 97, 98, 57, 49, 57]⟩ : ByteArray)] w fun e w' => e = .returned (.string v1) ∧ Below w.heap.size w w') := fun w => bytes_any _ v1 (by decide) un1 w
  have B2 : Hid (∀ w, Calls Try.prog 15 #[.string (⟨#[53, 51, 48, 102, 56, 97, 102, 98, 99, 55, 52, 53, 51, 54, 98, 57, 97, 57, 54, 51, 98, 52, 102, 49, 99, 52, 99, 98, 55, 51, 56, 98]⟩ : ByteArray)] w fun e w' => e = .returned (.string v2) ∧ Below w.heap.size w w') := fun w => bytes_any _ v2 (by decide) un2 w
  have Z1 : Hid (∀ w, Calls Try.prog 14 #[.int .i64 32] w fun e w' => e = .returned (.string (noughts 32)) ∧ Below w.heap.size w w') := fun w => zeros_any 32 (by decide) w
  have Z2 : Hid (∀ w, Calls Try.prog 14 #[.int .i64 12] w fun e w' => e = .returned (.string (noughts 12)) ∧ Below w.heap.size w w') := fun w => zeros_any 12 (by decide) w
  have Z3 : Hid (∀ w, Calls Try.prog 14 #[.int .i64 16] w fun e w' => e = .returned (.string (noughts 16)) ∧ Below w.heap.size w w') := fun w => zeros_any 16 (by decide) w
  have F1 : Hid (∀ w, Calls Try.prog 8 #[.string (noughts 32), .string (noughts 12), .string ⟨#[]⟩, .string (noughts 16)] w fun e w' => e = .returned (.tuple #[.string v1, .int .i64 0]) ∧ Below w.heap.size w w') := fun w => by
    have := seal_any (noughts 32) (noughts 12) ⟨#[]⟩ (noughts 16) w
    rw [chk_1, seal_1] at this
    exact this
  have F2 : Hid (∀ w, Calls Try.prog 8 #[.string (noughts 32), .string (noughts 12), .string ⟨#[]⟩, .string ⟨#[]⟩] w fun e w' => e = .returned (.tuple #[.string v2, .int .i64 0]) ∧ Below w.heap.size w w') := fun w => by
    have := seal_any (noughts 32) (noughts 12) ⟨#[]⟩ ⟨#[]⟩ w
    rw [chk_2, seal_2] at this
    exact this
  generalize v1 = x1 at *
  generalize v2 = x2 at *
  generalize noughts 32 = y1 at *
  generalize noughts 12 = y2 at *
  generalize noughts 16 = y3 at *
  have hX : Below w.heap.size w w := Below.refl _ _
  go_enter Try.func6, Try.ntmps6
  go_wp2_with (first
    | (go_at_call 15; (first | (with_reducible refine (B1.out _).mono ?_) | (with_reducible refine (B2.out _).mono ?_)); rintro e wq ⟨rfl, hq⟩; replace hX := hX.trans (hq.mono hX.size); clear hq)
    | (go_at_call 14; (first | (with_reducible refine (Z1.out _).mono ?_) | (with_reducible refine (Z2.out _).mono ?_) | (with_reducible refine (Z3.out _).mono ?_)); rintro e wq ⟨rfl, hq⟩; replace hX := hX.trans (hq.mono hX.size); clear hq)
    | (go_at_call 8; (first | (with_reducible refine (F1.out _).mono ?_) | (with_reducible refine (F2.out _).mono ?_)); rintro e wq ⟨rfl, hq⟩; replace hX := hX.trans (hq.mono hX.size); clear hq))
  go_ret
  exact ⟨rfl, hX⟩

/-! ### The row's step -/
set_option maxRecDepth 100000 in
theorem lifted (os : Os) (started : os.Started) (H : Type) (enc : TypeId × Value → H) :
    ReturnsInHanded {} Try.checked os 6 .any (Rows.gcmKnownSpec.pre6 enc Try.prog Try.f6 Rows.gcmKnownRow.domain false) (Rows.gcmKnownSpec.post enc Try.prog Try.f6 false true false false) := by
  refine returnsInHanded_of_change (C := Try.checked) own started (by kernel_rfl) Try.func6
    (ChangeSpec.witness6 (enc := enc) (C := Try.checked) false ⟨#[], #[], []⟩ 8 (by kernel_rfl) (by kernel_rfl) (by kernel_rfl) (by kernel_rfl)) ?_
  intro W base args ds gs before _ hW _ _
  have hW' := hW
  obtain ⟨p, q, hA0, hV, rfl, hfz, hnd⟩ := hW
  have hA : DataW.TrodAll enc Try.prog W 0 (fun _ => true) true Try.f6.params.toList args.toList ds p := hA0
  rw [Try.params6] at hA
  obtain ⟨rfl, rfl, rfl⟩ := trodAll_none hA
  obtain ⟨rfl, rfl⟩ := trodVars_none hV
  clear hA0
  simp only [List.append_nil] at hW'
  refine (walk W).mono fun e W' ⟨he, hg⟩ => ?_
  subst he
  exact ⟨_, rfl, _, _, _, [], [], [], hW', trodAll_cons_mk (shut_bool Try.underlying4 _) trodAll_mk0, trodAll_mk0, rfl, hg.frame _, fun h => by cases h⟩

/-- THE STATEMENT. -/
theorem proved : Rows.GcmKnownSaid :=
  OpenClaim.holds_of_wide 6 Try.f6 rfl rfl rfl rfl rfl rfl rfl ⟨rfl, rfl, rfl, rfl, rfl⟩ rfl rfl rfl rfl rfl (by kernel_rfl) Try.func6 (by kernel_rfl)
    (of_decide_eq_true (by kernel_rfl)) (by unfold Func.isWrapper; first | (rw [if_pos (by decide +kernel)]; kernel_rfl) | (rw [if_neg (by decide +kernel)]; exact ⟨rfl, rfl⟩))
    (fun os started H enc _ => lifted os started H enc)
end Go.Proofs.Ytibdlccaenanmaa.gcmKnown
