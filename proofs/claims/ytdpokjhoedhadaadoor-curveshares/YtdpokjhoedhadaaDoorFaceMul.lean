/-
  THE WALKS OF package elem's Mul.
-/
import Derived.Test.YtdpokjhoedhadaaDoorLimbTwo
namespace Go.Proofs.YtdpokjhoedhadaaDoor.num
open Go.RowKit
open Go.Proofs.YtdpokjhoedhadaaDoor.limb (ofTwo_any two_good two_bad times_any mod_bd enter_of)
theorem mul_good (a b : ByteArray) (ha : a.size = 32) (hb : b.size = 32) (w : World) :
    Calls Tryd.prog 46 #[.string a, .string b] w fun e w' => e = .returned (.tuple #[.string (text (N a * N b)), .int .i64 0]) ∧ Below w.heap.size w w' := by
  have h1 := two_good a b ha hb 62 #[] (N a * N b) w.heap.size (w.alloc (.cells #[.func (.func 62) #[] #[]] 76)) (enter_of Tryd.func62 (by kernel_rfl) rfl) (by simp) (fun W _ => by
    have h := times_any (N a % P) (N b % P) (mod_bd _).1 (mod_bd _).2 (mod_bd _).1 (mod_bd _).2 W
    rw [← Int.mul_emod] at h
    exact h)
  have hX : Below w.heap.size w (w.alloc (.cells #[.func (.func 62) #[] #[]] 76)) := (Below.refl _ _).alloc (Nat.le_refl _) _
  have H : Hid (a.size = 32 ∧ b.size = 32) := ⟨ha, hb⟩
  clear ha hb
  go_enter Tryd.func46, Tryd.ntmps46
  go_wp2_with (first | (go_at_call 61; refine (ofTwo_any _ _ _ _).mono ?_; rintro e w1 ⟨rfl, rfl⟩) | (go_at_call 73; refine h1.mono ?_; rintro e w2 ⟨rfl, hb2⟩))
  go_ret2
  exact ⟨rfl, hX.trans (hb2.mono (by simp))⟩
theorem mul_bad (a b : ByteArray) (h : a.size ≠ 32 ∨ b.size ≠ 32) (w : World) :
    Calls Tryd.prog 46 #[.string a, .string b] w fun e w' => e = .returned (.tuple #[.string ⟨#[]⟩, .int .i64 1]) ∧ Below w.heap.size w w' := by
  have h1 := two_bad a b h (.pointer (some ⟨w.heap.size, 0, none⟩)) (w.alloc (.cells #[.func (.func 62) #[] #[]] 76))
  have hX : Below w.heap.size w (w.alloc (.cells #[.func (.func 62) #[] #[]] 76)) := (Below.refl _ _).alloc (Nat.le_refl _) _
  have H : Hid (a.size ≠ 32 ∨ b.size ≠ 32) := h
  clear h
  go_enter Tryd.func46, Tryd.ntmps46
  go_wp2_with (first | (go_at_call 61; refine (ofTwo_any _ _ _ _).mono ?_; rintro e w1 ⟨rfl, rfl⟩) | (go_at_call 73; refine h1.mono ?_; rintro e w2 ⟨rfl, rfl⟩))
  go_ret2
  exact ⟨rfl, hX⟩
end Go.Proofs.YtdpokjhoedhadaaDoor.num
