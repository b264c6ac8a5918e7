/-
  THE WALKS OF package cookie's canMark, cut, digest, mark, key and proof.
  THE WALK OF package cookie's Mark.
-/
import Derived.Test.YtmbckgfpkmnlnabDoorBundle3
import Derived.Test.YtmbckgfpkmnlnabDoorBlakeSum
import Derived.Test.YtmbckgfpkmnlnabDoorConv
import Derived.OwnWalk
namespace Go.Proofs.YtmbckgfpkmnlnabDoor.coo
open Go.RowKit
open Go.Proofs.YtmbckgfpkmnlnabDoor.bla (Tab)

theorem digest_any (k t : ByteArray) (n : Nat) (h1 : 1 ≤ n) (h2 : n ≤ 32) (hk : k.size ≤ 32) (ht : t.size < 9223372036854775808) (w : World) (hT : Tab w) :
    Calls Tryd.prog 22 #[.string k, .string t, .int .i64 n] w fun e w' => e = .returned (.string (bla.blaT k t n)) ∧ Below w.heap.size w w' := by
  have f1 := bla.Sum_good k t n h1 h2 hk ht w hT
  generalize bla.blaT k t n = X at *
  clear hT h1 h2 hk
  go_enter Tryd.func22, Tryd.ntmps22
  go_wp2_with (go_at_call 32; (with_reducible refine f1.mono ?_); rintro e w1 ⟨rfl, hb1⟩)
  go_ret
  exact ⟨rfl, hb1⟩
theorem mark_any (k t : ByteArray) (hk : k.size ≤ 32) (ht : t.size < 9223372036854775808) (w : World) (hT : Tab w) :
    Calls Tryd.prog 13 #[.string k, .string t] w fun e w' => e = .returned (.string (mk k t)) ∧ Below w.heap.size w w' := by
  have f1 : Calls Tryd.prog 22 #[.string k, .string t, .int .i64 16] w fun e w' => e = .returned (.string (mk k t)) ∧ Below w.heap.size w w' := digest_any k t 16 (by decide) (by decide) hk ht w hT
  generalize mk k t = X at *
  clear hT hk
  go_enter Tryd.func13, Tryd.ntmps13
  go_wp2_with (go_at_call 22; (with_reducible refine f1.mono ?_); rintro e w1 ⟨rfl, hb1⟩)
  go_ret
  exact ⟨rfl, hb1⟩
theorem key_any (a p : ByteArray) (ha : a.size ≤ 100) (hp : p.size ≤ 100) (w : World) (hT : Tab w) :
    Calls Tryd.prog 14 #[.string a, .string p] w fun e w' => e = .returned (.string (keyT a p)) ∧ Below w.heap.size w w' := by
  have f1 : Calls Tryd.prog 22 #[.string ⟨#[]⟩, .string (a ++ p), .int .i64 32] w fun e w' => e = .returned (.string (keyT a p)) ∧ Below w.heap.size w w' := digest_any ⟨#[]⟩ (a ++ p) 32 (by decide) (by decide) (by decide) (by rw [ByteArray.size_append]; omega) w hT
  have s1 : a.size + p.size ≤ 200 := by omega
  generalize keyT a p = X at *
  clear hT
  go_enter Tryd.func14, Tryd.ntmps14
  go_wp2_with (go_at_call 22; (with_reducible refine f1.mono ?_); rintro e w1 ⟨rfl, hb1⟩)
  go_ret
  exact ⟨rfl, hb1⟩
theorem proof_any (c t : ByteArray) (hc : c.size ≤ 32) (ht : t.size < 9223372036854775808) (w : World) (hT : Tab w) :
    Calls Tryd.prog 15 #[.string c, .string t] w fun e w' => e = .returned (.string (prf c t)) ∧ Below w.heap.size w w' := by
  by_cases h0 : c.size = 0
  · rw [prf, if_pos h0]
    have k0 : c.toList.isEmpty = true := bla.empty_yes h0
    have f2 := fun W => Tryd.strings_Repeat ⟨#[0]⟩ 16 W (by omega) (by decide)
    have e : (⟨(Lib.repeatL (⟨#[0]⟩ : ByteArray).data.toList 16).toArray⟩ : ByteArray) = noughts 16 := rfl
    rw [e, show ((16 : Nat) : Int) = 16 from rfl] at f2
    generalize noughts 16 = X at *
    clear hT e hc h0
    go_enter Tryd.func15, Tryd.ntmps15
    go_wp2_with (go_at_call 21; (with_reducible refine (f2 _).mono ?_); rintro e w1 ⟨rfl, hb1⟩)
    go_ret
    exact ⟨rfl, hb1⟩
  · rw [prf, if_neg h0]
    have k0 : c.toList.isEmpty = false := bla.empty_no h0
    have f1 := mark_any c t hc ht w hT
    generalize mk c t = X at *
    clear hT hc h0
    go_enter Tryd.func15, Tryd.ntmps15
    go_wp2_with (go_at_call 13; (with_reducible refine f1.mono ?_); rintro e w1 ⟨rfl, hb1⟩)
    go_ret
    exact ⟨rfl, hb1⟩
theorem canMark_good (p c : ByteArray) (hp : p.size = 32) (hc : c.size = 0 ∨ c.size = 16) (w : World) :
    Calls Tryd.prog 12 #[.string p, .string c] w fun e w' => e = .returned (.bool true) ∧ w' = w := by
  have t1 : ((p.size : Int) == 32) = true := by rw [beq_iff_eq]; omega
  rcases hc with hc | hc
  · have k0 : c.toList.isEmpty = true := bla.empty_yes hc
    clear hp hc
    go_enter Tryd.func12, Tryd.ntmps12
    go_wp2_with fail
    go_ret
    exact ⟨rfl, rfl⟩
  · have k0 : c.toList.isEmpty = false := bla.empty_no (by omega)
    have t2 : ((c.size : Int) == 16) = true := by rw [beq_iff_eq]; omega
    clear hp hc
    go_enter Tryd.func12, Tryd.ntmps12
    go_wp2_with fail
    go_ret
    exact ⟨rfl, rfl⟩
/-- A text and 16 bytes, cut. -/
theorem cut_at (a b : ByteArray) (ha : a.size ≤ 140737488355400) (hb : b.size = 16) (w : World) :
    Calls Tryd.prog 35 #[.string (a ++ b)] w fun e w' => e = .returned (.tuple #[.string a, .string b]) ∧ Below w.heap.size w w' := by
  have s0 : (a ++ b).size = a.size + 16 := by rw [ByteArray.size_append, hb]
  have p1 := cv.sl_to (a ++ b) a.size (by omega)
  have p2 := cv.sl_from (a ++ b) a.size (by omega)
  rw [app_to] at p1
  rw [app_from] at p2
  generalize a ++ b = S at *
  have e1 : (S.size : Int) - 16 = (a.size : Int) := by omega
  have e2 : IntKind.i64.wrap ((S.size : Int) - 16) = (a.size : Int) := by rw [IntWalk.i64_in _ ⟨by omega, by omega⟩]; omega
  generalize a.size = n at *
  clear hb
  go_enter Tryd.func35, Tryd.ntmps35
  go_wp2_with fail
  go_region
  go_wp2_with fail
  go_ret2
  exact ⟨rfl, (Below.refl _ _).drew⟩
end Go.Proofs.YtmbckgfpkmnlnabDoor.coo
namespace Go.Proofs.YtmbckgfpkmnlnabDoor.coo
open Go.RowKit
open Go.Proofs.YtmbckgfpkmnlnabDoor.bla (Tab)

set_option maxHeartbeats 800000 in
theorem Mark_good (p c t : ByteArray) (hp : p.size = 32) (hc : c.size = 0 ∨ c.size = 16) (ht : t.size ≤ 140737488355360) (w : World) (hT : Tab w) :
    Calls Tryd.prog 6 #[.string p, .string c, .string t] w fun e w' => e = .returned (.tuple #[.string (marked p c t), .int .i64 0]) ∧ Below w.heap.size w w' := by
  have f0 := canMark_good p c hp hc w
  have f1 := key_any ⟨#[109, 97, 114, 107, 45, 45, 45, 45]⟩ p (by decide) (by omega) w hT
  have f2 : ∀ W, Below w.heap.size w W → Calls Tryd.prog 13 #[.string (keyT ⟨#[109, 97, 114, 107, 45, 45, 45, 45]⟩ p), .string t] W fun e w' => e = .returned (.string (m1 p t)) ∧ Below W.heap.size W w' := fun W h => mark_any _ t (by rw [keyT_size]; decide) (by omega) W (hT.grown h)
  have f3 : ∀ W, Below w.heap.size w W → _ := fun W h => proof_any c (once p t) (by omega) (by rw [once_size]; omega) W (hT.grown h)
  have s1 := once_size p t
  have s2 := prf_size c (once p t)
  have s3 := m1_size p t
  have HO : Hid (t ++ m1 p t = once p t) := rfl
  have HM : Hid (once p t ++ prf c (once p t) = marked p c t) := rfl
  have n1 : t.size + (m1 p t).size ≤ 140737488355400 := by omega
  have n2 : (once p t).size + (prf c (once p t)).size ≤ 140737488355400 := by omega
  generalize marked p c t = R at *
  generalize prf c (once p t) = Q at *
  have HO' := HO.out
  generalize once p t = O at *
  generalize m1 p t = M at *
  generalize keyT _ p = K at *
  clear hT hp hc s1 s2 s3
  have hX : Below w.heap.size w w := Below.refl _ _
  clear HO
  go_enter Tryd.func6, Tryd.ntmps6
  go_wp2_with (first
    | (go_at_call 12; (with_reducible refine f0.mono ?_); rintro e wq ⟨rfl, rfl⟩)
    | (go_at_call 14; (with_reducible refine f1.mono ?_); rintro e wq ⟨rfl, hq⟩; replace hX := hX.trans (hq.mono hX.size); clear hq)
    | (go_at_call 13; (with_reducible refine (f2 _ hX).mono ?_); rintro e wq ⟨rfl, hq⟩; replace hX := hX.trans (hq.mono hX.size); clear hq)
    | (go_at_call 15; (with_reducible refine (f3 _ hX).mono ?_); rintro e wq ⟨rfl, hq⟩; replace hX := hX.trans (hq.mono hX.size); clear hq))
  go_ret2
  exact ⟨by rw [← HM.out]; rfl, hX⟩
end Go.Proofs.YtmbckgfpkmnlnabDoor.coo
