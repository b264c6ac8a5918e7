/-
  THE WALKS OF package elem's Sub.
-/
import Derived.Test.YtdpokjhoedhadaaDoorLimbTwo
import Derived.Test.YtdpokjhoedhadaaDoorLimbMinus
namespace Go.Proofs.YtdpokjhoedhadaaDoor.num
open Go.RowKit
open Go.Proofs.YtdpokjhoedhadaaDoor.limb (ofTwo_any two_good two_bad minus_any enter_of)
theorem sub_good (a b : ByteArray) (ha : a.size = 32) (hb : b.size = 32) (w : World) (hT : limb.Tab w 1 limb.primeL) :
    Calls Tryd.prog 60 #[.string a, .string b] w fun e w' => e = .returned (.tuple #[.string (text (N a - N b)), .int .i64 0]) ∧ Below w.heap.size w w' := by
  have hX : Below w.heap.size w (w.alloc (.cells #[.func (.func 72) #[] #[]] 76)) := (Below.refl _ _).alloc (Nat.le_refl _) _
  have h1 := two_good a b ha hb 72 #[] (N a - N b) w.heap.size (w.alloc (.cells #[.func (.func 72) #[] #[]] 76)) (enter_of Tryd.func72 (by kernel_rfl) rfl) (by simp) (fun W hbW => minus_any (N a) (N b) W ((hT.below hX hT.lt).below hbW (Nat.lt_of_lt_of_le hT.lt hX.size)))
  have H : Hid (a.size = 32 ∧ b.size = 32) := ⟨ha, hb⟩
  clear ha hb
  go_enter Tryd.func60, Tryd.ntmps60
  go_wp2_with (first | (go_at_call 61; refine (ofTwo_any _ _ _ _).mono ?_; rintro e w1 ⟨rfl, rfl⟩) | (go_at_call 73; refine h1.mono ?_; rintro e w2 ⟨rfl, hb2⟩))
  go_ret2
  exact ⟨rfl, hX.trans (hb2.mono (by simp))⟩
theorem sub_bad (a b : ByteArray) (h : a.size ≠ 32 ∨ b.size ≠ 32) (w : World) :
    Calls Tryd.prog 60 #[.string a, .string b] w fun e w' => e = .returned (.tuple #[.string ⟨#[]⟩, .int .i64 1]) ∧ Below w.heap.size w w' := by
  have h1 := two_bad a b h (.pointer (some ⟨w.heap.size, 0, none⟩)) (w.alloc (.cells #[.func (.func 72) #[] #[]] 76))
  have hX : Below w.heap.size w (w.alloc (.cells #[.func (.func 72) #[] #[]] 76)) := (Below.refl _ _).alloc (Nat.le_refl _) _
  have H : Hid (a.size ≠ 32 ∨ b.size ≠ 32) := h
  clear h
  go_enter Tryd.func60, Tryd.ntmps60
  go_wp2_with (first | (go_at_call 61; refine (ofTwo_any _ _ _ _).mono ?_; rintro e w1 ⟨rfl, rfl⟩) | (go_at_call 73; refine h1.mono ?_; rintro e w2 ⟨rfl, rfl⟩))
  go_ret2
  exact ⟨rfl, hX⟩
end Go.Proofs.YtdpokjhoedhadaaDoor.num
