/-
  THE WALK OF package blake's Sum.
-/
import Derived.Test.YtmbckgfpkmnlnabDoorBlakeFace
import Derived.OwnWalk
namespace Go.Proofs.YtmbckgfpkmnlnabDoor.bla
open Go.RowKit
open Go.Proofs.YtmbckgfpkmnlnabDoor.soft
open Go.Proofs.YtmbckgfpkmnlnabDoor.cha (ad ad_lt rl Ws xor_lt told told_size)

set_option maxRecDepth 100000 in
set_option maxHeartbeats 800000 in
theorem Sum_good (key s : ByteArray) (n : Nat) (h1 : 1 ≤ n) (h2 : n ≤ 32) (hk : key.size ≤ 32) (hs : s.size < 9223372036854775808) (w : World) (hT : Tab w) :
    Calls Tryd.prog 32 #[.string key, .string s, .int .i64 n] w fun e w' => e = .returned (.tuple #[.string (blaT key s n), .int .i64 0]) ∧ Below w.heap.size w w' := by
  have HT : Hid (Tab w) := hT
  clear hT
  have f1 := begun_any key.size n hk h2 w HT.out
  have f2 : ∀ W, Below w.heap.size w W → _ := fun W h => taken_any key s (bg key.size n) (bg_length _ _) (bg_ok hk h2) hs W (HT.out.grown h)
  have f3 : ∀ W, _ := fun W => text_any (tk key s (bg key.size n)) (tk_length _ _ _) W
  have HE : Hid ((told (tk key s (bg key.size n))).extract 0 n = blaT key s n) := rfl
  have lO : n ≤ (told (tk key s (bg key.size n))).size := by rw [told_size, tk_length]; omega
  obtain ⟨R, hR⟩ : ∃ R, Hid (R = blaT key s n) := ⟨_, rfl⟩
  rw [← hR.out] at HE ⊢
  generalize told (tk key s (bg key.size n)) = O at *
  generalize wd (tk key s (bg key.size n)) = V at *
  generalize wd (bg key.size n) = B at *
  have hS := cv.sl_to O n lO
  rw [HE.out] at hS
  have d1 : decide ((n : Int) < 1) = false := by simp; omega
  have d2 : decide ((n : Int) > 32) = false := by simp; omega
  have d2' : decide ((32 : Int) < (n : Int)) = false := by simp; omega
  have d3 : decide ((key.size : Int) > 32) = false := by simp; omega
  have d3' : decide ((32 : Int) < (key.size : Int)) = false := by simp; omega
  have c1 : ¬ (n : Int) < 1 := by omega
  have c2 : ¬ (32 : Int) < (n : Int) := by omega
  have c3 : ¬ (32 : Int) < (key.size : Int) := by omega
  go_enter Tryd.func32, Tryd.ntmps32
  go_wp2_with (first
    | (go_at_call 42; (with_reducible refine f1.mono ?_); rintro e w1 ⟨rfl, hb1⟩)
    | (go_at_call 41; (with_reducible refine (f2 _ hb1).mono ?_); rintro e w2 ⟨rfl, hb2⟩)
    | (go_at_call 43; (with_reducible refine (f3 _).mono ?_); rintro e w3 ⟨rfl, hb3⟩))
  go_ret2
  have hX2 := hb1.trans (hb2.mono hb1.size)
  exact ⟨rfl, hX2.trans (hb3.mono hX2.size)⟩
theorem Sum_bad (key s : ByteArray) (z : Int) (h : z < 1 ∨ 32 < z ∨ 32 < key.size) (w : World) :
    Calls Tryd.prog 32 #[.string key, .string s, .int .i64 z] w fun e w' => e = .returned (.tuple #[.string ⟨#[]⟩, .int .i64 1]) ∧ w' = w := by
  by_cases c1 : z < 1
  · have d1 : decide (z < 1) = true := by simp; omega
    go_enter Tryd.func32, Tryd.ntmps32
    go_wp2_with fail
    go_ret2
    exact ⟨rfl, rfl⟩
  · have d1 : decide (z < 1) = false := by simp; omega
    by_cases c2 : 32 < z
    · have d2 : decide (z > 32) = true := by simp; omega
      have d2' : decide (32 < z) = true := by simp; omega
      go_enter Tryd.func32, Tryd.ntmps32
      go_wp2_with fail
      go_ret2
      exact ⟨rfl, rfl⟩
    · have d2 : decide (z > 32) = false := by simp; omega
      have d2' : decide (32 < z) = false := by simp; omega
      have c3 : (32 : Int) < (key.size : Int) := by omega
      have d3 : decide ((key.size : Int) > 32) = true := by simp; omega
      have d3' : decide ((32 : Int) < (key.size : Int)) = true := by simp; omega
      go_enter Tryd.func32, Tryd.ntmps32
      go_wp2_with fail
      go_ret2
      exact ⟨rfl, rfl⟩
end Go.Proofs.YtmbckgfpkmnlnabDoor.bla
