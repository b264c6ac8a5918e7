/-
  THE WALKS OF the verifier's own small functions over package elem.
-/
import Derived.Test.YthabfejpejjenabDoorSized
import Derived.Test.YthabfejpejjenabDoorFaceMul
import Derived.Test.YthabfejpejjenabDoorFaceLow
import Derived.Test.YthabfejpejjenabDoorFaceInv
namespace Go.Proofs.YthabfejpejjenabDoor.num
open Go.RowKit

def AddR (a b u : ByteArray) : Prop := a.size = 32 ∧ b.size = 32 ∧ text (N a + N b) = u
def SubR (a b u : ByteArray) : Prop := a.size = 32 ∧ b.size = 32 ∧ text (N a - N b) = u
def MulR (a b u : ByteArray) : Prop := a.size = 32 ∧ b.size = 32 ∧ text (N a * N b) = u
def InvR (a u : ByteArray) : Prop := a.size = 32 ∧ text (N a ^ einv) = u
def PowR (a : ByteArray) (n : Nat) (u : ByteArray) : Prop := a.size = 32 ∧ n < 18446744073709551616 ∧ text (N a ^ n) = u
def LowR (a u : ByteArray) : Prop := a.size = 32 ∧ text (N a) = u

theorem five : N (sz ⟨#[5]⟩ 32) = 5 := by decide +kernel
theorem seven : N (sz ⟨#[7]⟩ 32) = 7 := by decide +kernel
theorem one_val : N (sz ⟨#[1]⟩ 32) = 1 := by decide +kernel
theorem noughts_val : N (noughts 32) = 0 := by decide +kernel
theorem eq_list {a b : ByteArray} (h : a.data.toList = b.data.toList) : a = b := by
  apply ByteArray.ext
  apply Array.ext'
  exact h
theorem text_35 : text 35 = sz ⟨#[35]⟩ 32 := eq_list (by decide +kernel)
theorem text_1 : text 1 = sz ⟨#[1]⟩ 32 := eq_list (by decide +kernel)
theorem text_0 : text 0 = noughts 32 := eq_list (by decide +kernel)

set_option maxHeartbeats 400000 in
theorem mul_keep {w0 w : World} {a b u : ByteArray} (h : Below w0.heap.size w0 w) (hr : MulR a b u) :
    Calls Tryd.prog 9 #[.string a, .string b] w fun e w' => e = .returned (.string u) ∧ Below w0.heap.size w0 w' := by
  obtain ⟨ha, hb, rfl⟩ := hr
  have H : Hid (a.size = 32 ∧ b.size = 32) := ⟨ha, hb⟩
  clear ha hb
  go_enter Tryd.func9, Tryd.ntmps9
  go_wp2_with fail
  refine (mul_good a b H.out.1 H.out.2 _).mono ?_
  rintro e w1 ⟨rfl, hb1⟩
  go_wp2
  go_ret
  exact ⟨rfl, h.trans (hb1.mono h.size)⟩
set_option maxHeartbeats 400000 in
theorem least_keep {w0 w : World} {a u : ByteArray} (h : Below w0.heap.size w0 w) (hr : LowR a u) :
    Calls Tryd.prog 7 #[.string a] w fun e w' => e = .returned (.string u) ∧ Below w0.heap.size w0 w' := by
  obtain ⟨ha, rfl⟩ := hr
  have H : Hid (a.size = 32) := ha
  clear ha
  go_enter Tryd.func7, Tryd.ntmps7
  go_wp2_with fail
  refine (low_good a H.out _).mono ?_
  rintro e w1 ⟨rfl, hb1⟩
  go_wp2
  go_ret
  exact ⟨rfl, h.trans (hb1.mono h.size)⟩
theorem sized_keep {w0 w : World} (h : Below w0.heap.size w0 w) (s : ByteArray) (hs : s.size ≤ maxLen) :
    Calls Tryd.prog 5 #[.string s, .int .i64 32] w fun e w' => e = .returned (.string (sz s 32)) ∧ Below w0.heap.size w0 w' := by
  refine (sized_any s 32 hs (by decide) w).mono ?_
  rintro e w1 ⟨rfl, hb1⟩
  exact ⟨rfl, h.trans (hb1.mono h.size)⟩
theorem zeros_keep {w0 w : World} (h : Below w0.heap.size w0 w) :
    Calls Tryd.prog 8 #[.int .i64 32] w fun e w' => e = .returned (.string (noughts 32)) ∧ Below w0.heap.size w0 w' := by
  refine (zeros_any 32 (by decide) w).mono ?_
  rintro e w1 ⟨rfl, hb1⟩
  exact ⟨rfl, h.trans (hb1.mono h.size)⟩

set_option maxHeartbeats 400000 in
theorem elems_any (s : ByteArray) (hs : s.size ≤ maxLen) (w : World) :
    Calls Tryd.prog 4 #[.string s] w fun e w' => e = .returned (.tuple #[.string (sz s 32), .bool true]) ∧ Below w.heap.size w w' := by
  have h5 := sz_size ⟨#[5]⟩ 32
  have h7 := sz_size ⟨#[7]⟩ 32
  have HM : Hid (text (N (sz ⟨#[5]⟩ 32) * N (sz ⟨#[7]⟩ 32)) = sz ⟨#[35]⟩ 32) := by
    show text _ = _
    rw [five, seven]; exact text_35
  have HS : Hid (s.size ≤ maxLen) := hs
  clear hs
  have h0 := Below.refl w.heap.size w
  go_enter Tryd.func4, Tryd.ntmps4
  go_wp2_with fail
  refine (sized_keep h0 ⟨#[5]⟩ (by decide)).mono ?_
  rintro e w1 ⟨rfl, hb1⟩
  go_wp2_with fail
  refine (sized_keep hb1 ⟨#[7]⟩ (by decide)).mono ?_
  rintro e w2 ⟨rfl, hb2⟩
  go_wp2_with fail
  refine (mul_good _ _ h5 h7 _).mono ?_
  rintro e w3 ⟨rfl, hb3⟩
  have hb4 := hb2.trans (hb3.mono hb2.size)
  rw [HM.out]
  go_wp2_with fail
  refine (sized_keep hb4 s HS.out).mono ?_
  rintro e w5 ⟨rfl, hb5⟩
  go_wp2_with fail
  refine (sized_keep hb5 ⟨#[35]⟩ (by decide)).mono ?_
  rintro e w6 ⟨rfl, hb6⟩
  go_wp2
  go_ret2
  exact ⟨rfl, hb6⟩
/-! ### Of package elem itself -/
theorem inv_keep {w0 w : World} {a u : ByteArray} (h : Below w0.heap.size w0 w) (hT : Hid (limb.Tab w0 0 limb.lessL)) (hr : InvR a u) :
    Calls Tryd.prog 6 #[.string a] w fun e w' => e = .returned (.tuple #[.string u, .int .i64 0]) ∧ Below w0.heap.size w0 w' := by
  obtain ⟨ha, rfl⟩ := hr
  refine (inv_good a ha w (hT.out.below h hT.out.lt)).mono ?_
  rintro e w1 ⟨rfl, hb1⟩
  exact ⟨rfl, h.trans (hb1.mono h.size)⟩
end Go.Proofs.YthabfejpejjenabDoor.num
