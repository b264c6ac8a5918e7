/-
  THE WALK OF package ghash's Mul.
-/
import Derived.Test.YtkeeeohlkoefjaaGhashText
namespace Go.Proofs.Ytkeeeohlkoefjaa.ghs
open Go.RowKit

theorem mul_good (a b : ByteArray) (ha : a.size = 16) (hb : b.size = 16) (w : World) :
    Calls Try.prog 8 #[.string a, .string b] w fun e w' => e = .returned (.tuple #[.string (bt (gm (bn a) (bn b))), .int .i64 0]) ∧ Below w.heap.size w w' := by
  have z1 : (a.size : Int) = 16 := by omega
  have z2 : (b.size : Int) = 16 := by omega
  have f1 := read_any a
  have f2 := read_any b
  have f3 := times_any (bn a) (bn b) (bn_lt a) (bn_lt b)
  have f4 := text_any (gm (bn a) (bn b))
  generalize bt (gm (bn a) (bn b)) = T at *
  generalize gm (bn a) (bn b) = G at *
  generalize bn a = A at *
  generalize bn b = B at *
  clear ha hb
  go_enter Try.func8, Try.ntmps8
  go_wp2_with (first
    | (go_at_call 16; with_reducible refine (f1 _).mono ?_; rintro e w1 ⟨rfl, hb1⟩)
    | (go_at_call 16; with_reducible refine (f2 _).mono ?_; rintro e w2 ⟨rfl, hb2⟩)
    | (go_at_call 17; with_reducible refine (f3 _).mono ?_; rintro e w3 ⟨rfl, hb3⟩)
    | (go_at_call 18; with_reducible refine (f4 _).mono ?_; rintro e w4 ⟨rfl, hb4⟩))
  go_ret2
  have h2 := hb1.trans (hb2.mono hb1.size)
  have h3 := h2.trans (hb3.mono h2.size)
  exact ⟨rfl, h3.trans (hb4.mono h3.size)⟩
theorem mul_bad (a b : ByteArray) (h : a.size ≠ 16 ∨ b.size ≠ 16) (w : World) :
    Calls Try.prog 8 #[.string a, .string b] w fun e w' => e = .returned (.tuple #[.string ⟨#[]⟩, .int .i64 1]) ∧ Below w.heap.size w w' := by
  by_cases ha : a.size = 16
  · have z1 : (a.size : Int) = 16 := by omega
    have t2 : ((b.size : Int) != 16) = true := by rw [bne_iff_ne]; omega
    clear h ha
    go_enter Try.func8, Try.ntmps8
    go_wp2
    go_ret2
    exact ⟨rfl, Below.refl _ _⟩
  · have t1 : ((a.size : Int) != 16) = true := by rw [bne_iff_ne]; omega
    clear h ha
    go_enter Try.func8, Try.ntmps8
    go_wp2
    go_ret2
    exact ⟨rfl, Below.refl _ _⟩
end Go.Proofs.Ytkeeeohlkoefjaa.ghs
