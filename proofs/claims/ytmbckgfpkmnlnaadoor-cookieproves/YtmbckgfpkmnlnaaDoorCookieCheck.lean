/-
  THE WALKS OF package cookie's Check, where the first mark is right.
-/
import Derived.Test.YtmbckgfpkmnlnaaDoorCookieLow
import Derived.Test.YtmbckgfpkmnlnaaDoorClone
import Derived.OwnWalk
namespace Go.Proofs.YtmbckgfpkmnlnaaDoor.coo
open Go.RowKit
open Go.Proofs.YtmbckgfpkmnlnaaDoor.bla (Tab)

set_option maxRecDepth 100000 in
set_option maxHeartbeats 1600000 in
/-- The second mark is right, too, by a cookie. -/
theorem Check_yes (p c t : ByteArray) (hp : p.size = 32) (hc : c.size = 16) (ht : t.size ≤ 140737488355360) (w : World) (hT : Tab w) :
    Calls Tryd.prog 6 #[.string p, .string c, .string (marked p c t)] w fun e w' => e = .returned (.tuple #[.string t, .bool true, .int .i64 0]) ∧ Below w.heap.size w w' := by
  have f0 := canMark_good p c hp (.inr hc) w
  have f1 : ∀ W, Below w.heap.size w W → _ := fun W h => key_any ⟨#[109, 97, 114, 107, 45, 45, 45, 45]⟩ p (by decide) (by omega) W (hT.grown h)
  have f2 : ∀ W, Below w.heap.size w W → Calls Tryd.prog 9 #[.string (keyT ⟨#[109, 97, 114, 107, 45, 45, 45, 45]⟩ p), .string t] W fun e w' => e = .returned (.string (m1 p t)) ∧ Below W.heap.size W w' := fun W h => mark_any _ t (by rw [keyT_size]; decide) (by omega) W (hT.grown h)
  have f3 : ∀ W, Below w.heap.size w W → _ := fun W h => proof_any c (once p t) (by omega) (by rw [once_size]; omega) W (hT.grown h)
  have f4 : ∀ W, Calls Tryd.prog 12 #[.string (marked p c t)] W fun e w' => e = .returned (.tuple #[.string (once p t), .string (prf c (once p t))]) ∧ Below W.heap.size W w' := cut_at _ _ (by rw [once_size]; omega) (prf_size _ _)
  have f5 : ∀ W, Calls Tryd.prog 12 #[.string (once p t)] W fun e w' => e = .returned (.tuple #[.string t, .string (m1 p t)]) ∧ Below W.heap.size W w' := cut_at _ _ (by omega) (m1_size _ _)
  have f6 := clone_any t (by omega)
  have k0 : c.toList.isEmpty = false := bla.empty_no (by omega)
  have s1 := marked_size p c t
  have d1 : decide (((marked p c t).size : Int) < 32) = false := by simp; omega
  have d2 : ¬ ((marked p c t).size : Int) < 32 := by omega
  generalize marked p c t = R at *
  generalize prf c (once p t) = Q at *
  generalize once p t = O at *
  generalize m1 p t = M at *
  generalize keyT _ p = K at *
  clear hT hp hc s1 ht
  have hX : Below w.heap.size w w := Below.refl _ _
  go_enter Tryd.func6, Tryd.ntmps6
  go_wp2_with (first
    | (go_at_call 8; (with_reducible refine f0.mono ?_); rintro e wq ⟨rfl, rfl⟩)
    | (go_at_call 12; (first | (with_reducible refine (f4 _).mono ?_) | (with_reducible refine (f5 _).mono ?_)); rintro e wq ⟨rfl, hq⟩; replace hX := hX.trans (hq.mono hX.size); clear hq)
    | (go_at_call 10; (with_reducible refine (f1 _ hX).mono ?_); rintro e wq ⟨rfl, hq⟩; replace hX := hX.trans (hq.mono hX.size); clear hq)
    | (go_at_call 9; (with_reducible refine (f2 _ hX).mono ?_); rintro e wq ⟨rfl, hq⟩; replace hX := hX.trans (hq.mono hX.size); clear hq)
    | (go_at_call 11; (with_reducible refine (f3 _ hX).mono ?_); rintro e wq ⟨rfl, hq⟩; replace hX := hX.trans (hq.mono hX.size); clear hq)
    | (go_at_call 13; (with_reducible refine (f6 _).mono ?_); rintro e wq ⟨rfl, hq⟩; replace hX := hX.trans (hq.mono hX.size); clear hq))
  go_ret3
  exact ⟨rfl, hX⟩

set_option maxRecDepth 100000 in
set_option maxHeartbeats 1600000 in
/-- Without a cookie nothing is proven. -/
theorem Check_no (p c t b : ByteArray) (hp : p.size = 32) (hc : c.size = 0) (hb : b.size = 16) (ht : t.size ≤ 140737488355360) (w : World) (hT : Tab w) :
    Calls Tryd.prog 6 #[.string p, .string c, .string (once p t ++ b)] w fun e w' => e = .returned (.tuple #[.string t, .bool false, .int .i64 0]) ∧ Below w.heap.size w w' := by
  have f0 := canMark_good p c hp (.inl hc) w
  have f1 : ∀ W, Below w.heap.size w W → _ := fun W h => key_any ⟨#[109, 97, 114, 107, 45, 45, 45, 45]⟩ p (by decide) (by omega) W (hT.grown h)
  have f2 : ∀ W, Below w.heap.size w W → Calls Tryd.prog 9 #[.string (keyT ⟨#[109, 97, 114, 107, 45, 45, 45, 45]⟩ p), .string t] W fun e w' => e = .returned (.string (m1 p t)) ∧ Below W.heap.size W w' := fun W h => mark_any _ t (by rw [keyT_size]; decide) (by omega) W (hT.grown h)
  have f4 : ∀ W, Calls Tryd.prog 12 #[.string (once p t ++ b)] W fun e w' => e = .returned (.tuple #[.string (once p t), .string b]) ∧ Below W.heap.size W w' := cut_at _ _ (by rw [once_size]; omega) hb
  have f5 : ∀ W, Calls Tryd.prog 12 #[.string (once p t)] W fun e w' => e = .returned (.tuple #[.string t, .string (m1 p t)]) ∧ Below W.heap.size W w' := cut_at _ _ (by omega) (m1_size _ _)
  have f6 := clone_any t (by omega)
  have k0 : c.toList.isEmpty = true := bla.empty_yes hc
  have s1 : (once p t ++ b).size = t.size + 32 := by
    have h := once_size p t
    rw [ByteArray.size_append]
    omega
  have d1 : decide (((once p t ++ b).size : Int) < 32) = false := decide_eq_false (by omega)
  have d2 : ¬ ((once p t ++ b).size : Int) < 32 := by omega
  generalize once p t ++ b = R at *
  generalize once p t = O at *
  generalize m1 p t = M at *
  generalize keyT _ p = K at *
  clear hT hp hc s1 ht
  have hX : Below w.heap.size w w := Below.refl _ _
  go_enter Tryd.func6, Tryd.ntmps6
  go_wp2_with (first
    | (go_at_call 8; (with_reducible refine f0.mono ?_); rintro e wq ⟨rfl, rfl⟩)
    | (go_at_call 12; (first | (with_reducible refine (f4 _).mono ?_) | (with_reducible refine (f5 _).mono ?_)); rintro e wq ⟨rfl, hq⟩; replace hX := hX.trans (hq.mono hX.size); clear hq)
    | (go_at_call 10; (with_reducible refine (f1 _ hX).mono ?_); rintro e wq ⟨rfl, hq⟩; replace hX := hX.trans (hq.mono hX.size); clear hq)
    | (go_at_call 9; (with_reducible refine (f2 _ hX).mono ?_); rintro e wq ⟨rfl, hq⟩; replace hX := hX.trans (hq.mono hX.size); clear hq)
    | (go_at_call 13; (with_reducible refine (f6 _).mono ?_); rintro e wq ⟨rfl, hq⟩; replace hX := hX.trans (hq.mono hX.size); clear hq))
  go_ret3
  exact ⟨rfl, hX⟩
end Go.Proofs.YtmbckgfpkmnlnaaDoor.coo
