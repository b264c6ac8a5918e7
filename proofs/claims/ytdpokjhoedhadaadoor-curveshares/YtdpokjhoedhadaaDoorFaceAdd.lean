/-
  THE WALKS OF package elem's Add.
-/
import Derived.Test.YtdpokjhoedhadaaDoorLimbTwo
import Derived.Test.YtdpokjhoedhadaaDoorLimbPlus
namespace Go.Proofs.YtdpokjhoedhadaaDoor.num
open Go.RowKit
open Go.Proofs.YtdpokjhoedhadaaDoor.limb (ofTwo_any two_good two_bad plus_any enter_of)
theorem add_good (a b : ByteArray) (ha : a.size = 32) (hb : b.size = 32) (w : World) :
    Calls Tryd.prog 59 #[.string a, .string b] w fun e w' => e = .returned (.tuple #[.string (text (N a + N b)), .int .i64 0]) ∧ Below w.heap.size w w' := by
  have h1 := two_good a b ha hb 71 #[] (N a + N b) w.heap.size (w.alloc (.cells #[.func (.func 71) #[] #[]] 76)) (enter_of Tryd.func71 (by kernel_rfl) rfl) (by simp) (fun W _ => plus_any (N a) (N b) W)
  have hX : Below w.heap.size w (w.alloc (.cells #[.func (.func 71) #[] #[]] 76)) := (Below.refl _ _).alloc (Nat.le_refl _) _
  have H : Hid (a.size = 32 ∧ b.size = 32) := ⟨ha, hb⟩
  clear ha hb
  go_enter Tryd.func59, Tryd.ntmps59
  go_wp2_with (first | (go_at_call 61; refine (ofTwo_any _ _ _ _).mono ?_; rintro e w1 ⟨rfl, rfl⟩) | (go_at_call 73; refine h1.mono ?_; rintro e w2 ⟨rfl, hb2⟩))
  go_ret2
  exact ⟨rfl, hX.trans (hb2.mono (by simp))⟩
theorem add_bad (a b : ByteArray) (h : a.size ≠ 32 ∨ b.size ≠ 32) (w : World) :
    Calls Tryd.prog 59 #[.string a, .string b] w fun e w' => e = .returned (.tuple #[.string ⟨#[]⟩, .int .i64 1]) ∧ Below w.heap.size w w' := by
  have h1 := two_bad a b h (.pointer (some ⟨w.heap.size, 0, none⟩)) (w.alloc (.cells #[.func (.func 71) #[] #[]] 76))
  have hX : Below w.heap.size w (w.alloc (.cells #[.func (.func 71) #[] #[]] 76)) := (Below.refl _ _).alloc (Nat.le_refl _) _
  have H : Hid (a.size ≠ 32 ∨ b.size ≠ 32) := h
  clear h
  go_enter Tryd.func59, Tryd.ntmps59
  go_wp2_with (first | (go_at_call 61; refine (ofTwo_any _ _ _ _).mono ?_; rintro e w1 ⟨rfl, rfl⟩) | (go_at_call 73; refine h1.mono ?_; rintro e w2 ⟨rfl, rfl⟩))
  go_ret2
  exact ⟨rfl, hX⟩
end Go.Proofs.YtdpokjhoedhadaaDoor.num
