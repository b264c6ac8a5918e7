/-
  THE WALK OF package cookie's Mark.
-/
import Derived.Test.YtmbckgfpkmnlnaaDoorCookieLow
import Derived.OwnWalk
namespace Go.Proofs.YtmbckgfpkmnlnaaDoor.coo
open Go.RowKit
open Go.Proofs.YtmbckgfpkmnlnaaDoor.bla (Tab)

set_option maxHeartbeats 800000 in
theorem Mark_good (p c t : ByteArray) (hp : p.size = 32) (hc : c.size = 0 ∨ c.size = 16) (ht : t.size ≤ 140737488355360) (w : World) (hT : Tab w) :
    Calls Tryd.prog 5 #[.string p, .string c, .string t] w fun e w' => e = .returned (.tuple #[.string (marked p c t), .int .i64 0]) ∧ Below w.heap.size w w' := by
  have f0 := canMark_good p c hp hc w
  have f1 := key_any ⟨#[109, 97, 114, 107, 45, 45, 45, 45]⟩ p (by decide) (by omega) w hT
  have f2 : ∀ W, Below w.heap.size w W → Calls Tryd.prog 9 #[.string (keyT ⟨#[109, 97, 114, 107, 45, 45, 45, 45]⟩ p), .string t] W fun e w' => e = .returned (.string (m1 p t)) ∧ Below W.heap.size W w' := fun W h => mark_any _ t (by rw [keyT_size]; decide) (by omega) W (hT.grown h)
  have f3 : ∀ W, Below w.heap.size w W → _ := fun W h => proof_any c (once p t) (by omega) (by rw [once_size]; omega) W (hT.grown h)
  have s1 := once_size p t
  have s2 := prf_size c (once p t)
  have s3 := m1_size p t
  have HO : Hid (t ++ m1 p t = once p t) := rfl
  have HM : Hid (once p t ++ prf c (once p t) = marked p c t) := rfl
  have n1 : t.size + (m1 p t).size ≤ 140737488355400 := by omega
  have n2 : (once p t).size + (prf c (once p t)).size ≤ 140737488355400 := by omega
  generalize marked p c t = R at *
  generalize prf c (once p t) = Q at *
  have HO' := HO.out
  generalize once p t = O at *
  generalize m1 p t = M at *
  generalize keyT _ p = K at *
  clear hT hp hc s1 s2 s3
  have hX : Below w.heap.size w w := Below.refl _ _
  clear HO
  go_enter Tryd.func5, Tryd.ntmps5
  go_wp2_with (first
    | (go_at_call 8; (with_reducible refine f0.mono ?_); rintro e wq ⟨rfl, rfl⟩)
    | (go_at_call 10; (with_reducible refine f1.mono ?_); rintro e wq ⟨rfl, hq⟩; replace hX := hX.trans (hq.mono hX.size); clear hq)
    | (go_at_call 9; (with_reducible refine (f2 _ hX).mono ?_); rintro e wq ⟨rfl, hq⟩; replace hX := hX.trans (hq.mono hX.size); clear hq)
    | (go_at_call 11; (with_reducible refine (f3 _ hX).mono ?_); rintro e wq ⟨rfl, hq⟩; replace hX := hX.trans (hq.mono hX.size); clear hq))
  go_ret2
  exact ⟨by rw [← HM.out]; rfl, hX⟩
end Go.Proofs.YtmbckgfpkmnlnaaDoor.coo
