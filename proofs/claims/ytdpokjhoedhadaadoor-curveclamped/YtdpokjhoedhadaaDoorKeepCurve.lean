/-
  THE WALKS OF the keep laws' helpers: bytes, curveFact; and calls in a world that has all that stood at first.
-/
import Derived.Test.YtdpokjhoedhadaaDoorPlainKeys
import Derived.Test.YtdpokjhoedhadaaDoorRefHex
import Derived.Test.YtdpokjhoedhadaaDoorSized
namespace Go.Proofs.YtdpokjhoedhadaaDoor.crv
open Go.RowKit
open Go.Proofs.YtdpokjhoedhadaaDoor.num Go.Proofs.YtdpokjhoedhadaaDoor.edw

theorem bytes_any (h v : ByteArray) (hs : h.size ≤ 1073741824) (hv : unhexB h = some v) (w : World) :
    Calls Tryd.prog 29 #[.string h] w fun e w' => e = .returned (.string v) ∧ Below w.heap.size w w' := by
  have h1 := refUnhex_some h v hs hv w
  clear hv hs
  go_enter Tryd.func29, Tryd.ntmps29
  go_wp2_with (go_at_call 40; refine h1.mono ?_; rintro e w1 ⟨rfl, hb1⟩)
  go_ret
  exact ⟨rfl, hb1⟩
def factK : ByteArray := ⟨#[165, 70, 227, 107, 240, 82, 124, 157, 59, 22, 21, 75, 130, 70, 94, 221, 98, 20, 76, 10, 193, 252, 90, 24, 80, 106, 34, 68, 186, 68, 154, 196]⟩
def factU : ByteArray := ⟨#[230, 219, 104, 103, 88, 48, 48, 219, 53, 148, 193, 164, 36, 177, 95, 124, 114, 102, 36, 236, 38, 179, 53, 59, 16, 169, 3, 166, 208, 171, 28, 76]⟩
def factR : ByteArray := ⟨#[195, 218, 85, 55, 157, 233, 198, 144, 142, 148, 234, 77, 242, 141, 8, 79, 50, 236, 207, 3, 73, 28, 113, 247, 84, 180, 7, 85, 119, 162, 133, 82]⟩
theorem fact_mlt : mlt (kb (clampC factK) 255) (kap (N (belowC factU))) = 37325765543539916631701301279660700968428932651319597985674090122993663859395 := mlt_told _ _ _ (by decide +kernel) (by decide +kernel)
theorem fact_val : xt factK factU = factR := by
  unfold xt xk
  rw [fact_mlt]
  decide +kernel
theorem unhex_K : unhexB (⟨#[97, 53, 52, 54, 101, 51, 54, 98, 102, 48, 53, 50, 55, 99, 57, 100, 51, 98, 49, 54, 49, 53, 52, 98, 56, 50, 52, 54, 53, 101, 100, 100, 54, 50, 49, 52, 52, 99, 48, 97, 99, 49, 102, 99, 53, 97, 49, 56, 53, 48, 54, 97, 50, 50, 52, 52, 98, 97, 52, 52, 57, 97, 99, 52]⟩ : ByteArray) = some factK := by decide +kernel
theorem unhex_U : unhexB (⟨#[101, 54, 100, 98, 54, 56, 54, 55, 53, 56, 51, 48, 51, 48, 100, 98, 51, 53, 57, 52, 99, 49, 97, 52, 50, 52, 98, 49, 53, 102, 55, 99, 55, 50, 54, 54, 50, 52, 101, 99, 50, 54, 98, 51, 51, 53, 51, 98, 49, 48, 97, 57, 48, 51, 97, 54, 100, 48, 97, 98, 49, 99, 52, 99]⟩ : ByteArray) = some factU := by decide +kernel
theorem unhex_R : unhexB (⟨#[99, 51, 100, 97, 53, 53, 51, 55, 57, 100, 101, 57, 99, 54, 57, 48, 56, 101, 57, 52, 101, 97, 52, 100, 102, 50, 56, 100, 48, 56, 52, 102, 51, 50, 101, 99, 99, 102, 48, 51, 52, 57, 49, 99, 55, 49, 102, 55, 53, 52, 98, 52, 48, 55, 53, 53, 55, 55, 97, 50, 56, 53, 53, 50]⟩ : ByteArray) = some factR := by decide +kernel
set_option maxRecDepth 100000 in
theorem fact_any (w : World) (hT : Tabs w) :
    Calls Tryd.prog 15 #[] w fun e w' => e = .returned (.bool true) ∧ Below w.heap.size w w' := by
  have B1 : Hid (∀ w, Calls Tryd.prog 29 #[.string (⟨#[97, 53, 52, 54, 101, 51, 54, 98, 102, 48, 53, 50, 55, 99, 57, 100, 51, 98, 49, 54, 49, 53, 52, 98, 56, 50, 52, 54, 53, 101, 100, 100, 54, 50, 49, 52, 52, 99, 48, 97, 99, 49, 102, 99, 53, 97, 49, 56, 53, 48, 54, 97, 50, 50, 52, 52, 98, 97, 52, 52, 57, 97, 99, 52]⟩ : ByteArray)] w fun e w' => e = .returned (.string factK) ∧ Below w.heap.size w w') := fun w => bytes_any _ factK (by decide) unhex_K w
  have B2 : Hid (∀ w, Calls Tryd.prog 29 #[.string (⟨#[101, 54, 100, 98, 54, 56, 54, 55, 53, 56, 51, 48, 51, 48, 100, 98, 51, 53, 57, 52, 99, 49, 97, 52, 50, 52, 98, 49, 53, 102, 55, 99, 55, 50, 54, 54, 50, 52, 101, 99, 50, 54, 98, 51, 51, 53, 51, 98, 49, 48, 97, 57, 48, 51, 97, 54, 100, 48, 97, 98, 49, 99, 52, 99]⟩ : ByteArray)] w fun e w' => e = .returned (.string factU) ∧ Below w.heap.size w w') := fun w => bytes_any _ factU (by decide) unhex_U w
  have B3 : Hid (∀ w, Calls Tryd.prog 29 #[.string (⟨#[99, 51, 100, 97, 53, 53, 51, 55, 57, 100, 101, 57, 99, 54, 57, 48, 56, 101, 57, 52, 101, 97, 52, 100, 102, 50, 56, 100, 48, 56, 52, 102, 51, 50, 101, 99, 99, 102, 48, 51, 52, 57, 49, 99, 55, 49, 102, 55, 53, 52, 98, 52, 48, 55, 53, 53, 55, 55, 97, 50, 56, 53, 53, 50]⟩ : ByteArray)] w fun e w' => e = .returned (.string factR) ∧ Below w.heap.size w w') := fun w => bytes_any _ factR (by decide) unhex_R w
  have M : Hid (∀ W, Tabs W → Calls Tryd.prog 8 #[.string factK, .string factU] W fun e w' => e = .returned (.tuple #[.string factR, .int .i64 0]) ∧ Below W.heap.size W w') := fun W hW => by
    have h := mult_good factK factU (by decide) (by decide) W hW
    rw [fact_val] at h
    exact h
  have HT : Hid (Tabs w) := hT
  clear hT
  generalize factK = k at *
  generalize factU = u at *
  generalize factR = r at *
  go_enter Tryd.func15, Tryd.ntmps15
  go_wp2_with fail
  refine (B1.out _).mono ?_
  rintro e w1 ⟨rfl, hb1⟩
  go_wp2_with fail
  refine (B2.out _).mono ?_
  rintro e w2 ⟨rfl, hb2⟩
  have hb3 := hb1.trans (hb2.mono hb1.size)
  go_wp2_with (go_at_call 8; refine (M.out _ (HT.out.below hb3)).mono ?_; rintro e w3 ⟨rfl, hb4⟩)
  have hb5 := hb3.trans (hb4.mono hb3.size)
  refine (B3.out _).mono ?_
  rintro e w4 ⟨rfl, hb6⟩
  go_wp2_with fail
  go_ret
  exact ⟨rfl, hb5.trans (hb6.mono hb5.size)⟩
/-- Calls in a world that has all that W0 has. -/
theorem fact_keep {w0 w : World} (h : Below w0.heap.size w0 w) (hT : Hid (Tabs w0)) : Calls Tryd.prog 15 #[] w fun e w' => e = .returned (.bool true) ∧ Below w0.heap.size w0 w' := keep h (fact_any w (hT.out.below h))
theorem sized_keep {w0 w : World} (h : Below w0.heap.size w0 w) (s : ByteArray) (hs : s.size ≤ maxLen) : Calls Tryd.prog 14 #[.string s, .int .i64 32] w fun e w' => e = .returned (.string (sz s 32)) ∧ Below w0.heap.size w0 w' := keep h (sized_any s 32 hs (by decide) w)
theorem zeros_keep {w0 w : World} (h : Below w0.heap.size w0 w) : Calls Tryd.prog 28 #[.int .i64 32] w fun e w' => e = .returned (.string (noughts 32)) ∧ Below w0.heap.size w0 w' := keep h (zeros_any 32 (by decide) w)
theorem mult_keep {w0 w : World} (h : Below w0.heap.size w0 w) (hT : Hid (Tabs w0)) (k u : ByteArray) (hk : k.size = 32) (hu : u.size = 32) : Calls Tryd.prog 8 #[.string k, .string u] w fun e w' => e = .returned (.tuple #[.string (xt k u), .int .i64 0]) ∧ Below w0.heap.size w0 w' := keep h (mult_good k u hk hu w (hT.out.below h))
theorem public_keep {w0 w : World} (h : Below w0.heap.size w0 w) (hT : Hid (Tabs w0)) (k : ByteArray) (hk : k.size = 32) : Calls Tryd.prog 10 #[.string k] w fun e w' => e = .returned (.tuple #[.string (xt k nineT), .int .i64 0]) ∧ Below w0.heap.size w0 w' := keep h (public_good k hk w (hT.out.below h))
theorem clamp_keep {w0 w : World} (h : Below w0.heap.size w0 w) (k : ByteArray) (hk : k.size = 32) : Calls Tryd.prog 16 #[.string k] w fun e w' => e = .returned (.tuple #[.string (clampC k), .int .i64 0]) ∧ Below w0.heap.size w0 w' := keep h (clamp_good k hk w)
theorem share_keep {w0 w : World} (h : Below w0.heap.size w0 w) (hT : Hid (Tabs w0)) (k u : ByteArray) (hk : k.size = 32) (hu : u.size = 32) (hx : xk k u ≠ 0) : Calls Tryd.prog 12 #[.string k, .string u] w fun e w' => e = .returned (.tuple #[.string (xt k u), .int .i64 0]) ∧ Below w0.heap.size w0 w' := keep h (share_some k u hk hu hx w (hT.out.below h))
end Go.Proofs.YtdpokjhoedhadaaDoor.crv
