/-
  PolyKnown: whatever second half and text are handed in, the call returns true: a tag is as it is known, and by a key of noughts at first each text has the second half.
-/
import Derived.Test.YtkjjkljpbfjkpaaFrame
import Derived.Test.YtkjjkljpbfjkpaaPolyTag
import Derived.Test.YtkjjkljpbfjkpaaPlainPolyKnown
import Derived.Test.YtkjjkljpbfjkpaaKeepBytes
namespace Go.Proofs.Ytkjjkljpbfjkpaa.polyKnown
open Go.ChangeShapes Go.WideShapes Go.ChangeAt Go.RowKit
open Go.ChangeMaps (open_string shut_string)
open pol

theorem un1 : unhexB (⟨#[56, 53, 100, 54, 98, 101, 55, 56, 53, 55, 53, 53, 54, 100, 51, 51, 55, 102, 52, 52, 53, 50, 102, 101, 52, 50, 100, 53, 48, 54, 97, 56, 48, 49, 48, 51, 56, 48, 56, 97, 102, 98, 48, 100, 98, 50, 102, 100, 52, 97, 98, 102, 102, 54, 97, 102, 52, 49, 52, 57, 102, 53, 49, 98]⟩ : ByteArray) = some kK := by decide +kernel
theorem un2 : unhexB (⟨#[97, 56, 48, 54, 49, 100, 99, 49, 51, 48, 53, 49, 51, 54, 99, 54, 99, 50, 50, 98, 56, 98, 97, 102, 48, 99, 48, 49, 50, 55, 97, 57]⟩ : ByteArray) = some kT := by decide +kernel

set_option maxRecDepth 100000 in
set_option maxHeartbeats 800000 in
theorem walk (n : ByteArray) (hn : n.size ≤ maxLen) (s : ByteArray) (_ : s.size ≤ maxLen) (w : World) :
    Calls Try.prog 5 #[.string n, .string s] w fun e w' => e = .returned (.bool true) ∧ Below w.heap.size w w' := by
  have s2 : (sz n 16).size = 16 := sz_size _ _
  have B1 : Hid (∀ w, Calls Try.prog 12 #[.string (⟨#[56, 53, 100, 54, 98, 101, 55, 56, 53, 55, 53, 53, 54, 100, 51, 51, 55, 102, 52, 52, 53, 50, 102, 101, 52, 50, 100, 53, 48, 54, 97, 56, 48, 49, 48, 51, 56, 48, 56, 97, 102, 98, 48, 100, 98, 50, 102, 100, 52, 97, 98, 102, 102, 54, 97, 102, 52, 49, 52, 57, 102, 53, 49, 98]⟩ : ByteArray)] w fun e w' => e = .returned (.string kK) ∧ Below w.heap.size w w') := fun w => bytes_any _ kK (by decide) un1 w
  have B2 : Hid (∀ w, Calls Try.prog 12 #[.string (⟨#[97, 56, 48, 54, 49, 100, 99, 49, 51, 48, 53, 49, 51, 54, 99, 54, 99, 50, 50, 98, 56, 98, 97, 102, 48, 99, 48, 49, 50, 55, 97, 57]⟩ : ByteArray)] w fun e w' => e = .returned (.string kT) ∧ Below w.heap.size w w') := fun w => bytes_any _ kT (by decide) un2 w
  have S1 : Hid (∀ w, Calls Try.prog 9 #[.string n, .int .i64 16] w fun e w' => e = .returned (.string (sz n 16)) ∧ Below w.heap.size w w') := fun w => sized_any n 16 hn (by omega) w
  have Z1 : Hid (∀ w, Calls Try.prog 10 #[.int .i64 16] w fun e w' => e = .returned (.string (noughts 16)) ∧ Below w.heap.size w w') := fun w => zeros_any 16 (by omega) w
  have T1 : Hid (∀ w, Calls Try.prog 7 #[.string kK, .string (⟨#[67, 114, 121, 112, 116, 111, 103, 114, 97, 112, 104, 105, 99, 32, 70, 111, 114, 117, 109, 32, 82, 101, 115, 101, 97, 114, 99, 104, 32, 71, 114, 111, 117, 112]⟩ : ByteArray)] w fun e w' => e = .returned (.tuple #[.string kT, .int .i64 0]) ∧ Below w.heap.size w w') := fun w => by
    have := Tag_good kK kM rfl w
    rw [tag_k] at this
    exact this
  have T2 : Hid (∀ w, Calls Try.prog 7 #[.string (noughts 16 ++ sz n 16), .string s] w fun e w' => e = .returned (.tuple #[.string (sz n 16), .int .i64 0]) ∧ Below w.heap.size w w') := fun w => by
    have := Tag_good (noughts 16 ++ sz n 16) s (by rw [ByteArray.size_append, noughts_size, s2]) w
    rw [tag_nought _ _ s2] at this
    exact this
  have hz : (noughts 16).size = 16 := noughts_size 16
  generalize noughts 16 = Z at *
  generalize sz n 16 = n' at *
  generalize kK = x1 at *
  generalize kT = x2 at *
  have hX : Below w.heap.size w w := Below.refl _ _
  go_enter Try.func5, Try.ntmps5
  go_wp2_with (first
    | (go_at_call 12; (first | (with_reducible refine (B1.out _).mono ?_) | (with_reducible refine (B2.out _).mono ?_)); rintro e wq ⟨rfl, hq⟩; replace hX := hX.trans (hq.mono hX.size); clear hq)
    | (go_at_call 9; (with_reducible refine (S1.out _).mono ?_); rintro e wq ⟨rfl, hq⟩; replace hX := hX.trans (hq.mono hX.size); clear hq)
    | (go_at_call 10; (with_reducible refine (Z1.out _).mono ?_); rintro e wq ⟨rfl, hq⟩; replace hX := hX.trans (hq.mono hX.size); clear hq)
    | (go_at_call 7; (first | (with_reducible refine (T1.out _).mono ?_) | (with_reducible refine (T2.out _).mono ?_)); rintro e wq ⟨rfl, hq⟩; replace hX := hX.trans (hq.mono hX.size); clear hq))
  go_ret
  exact ⟨rfl, hX⟩

/-! ### The row's step -/
set_option maxRecDepth 100000 in
theorem lifted (os : Os) (started : os.Started) (H : Type) (enc : TypeId × Value → H) :
    ReturnsInHanded {} Try.checked os 5 .any (Rows.polyKnownSpec.pre6 enc Try.prog Try.f5 Rows.polyKnownRow.domain false) (Rows.polyKnownSpec.post enc Try.prog Try.f5 false true false false) := by
  refine returnsInHanded_of_change (C := Try.checked) own started (by kernel_rfl) Try.func5
    (ChangeSpec.witness6 (enc := enc) (C := Try.checked) false ⟨#[], #[.string .empty, .string .empty], []⟩ 8 (by kernel_rfl) (by kernel_rfl) (by kernel_rfl) (by kernel_rfl)) ?_
  intro W base args ds gs before hval0 hW _ _
  have hval : ∀ (j : Nat) t v, Try.f5.params[j]? = some t → args[j]? = some v → Value.okWide Try.prog W .any base t v := hval0
  have hW' := hW
  obtain ⟨p, q, hA0, hV, rfl, hfz, hnd⟩ := hW
  have hA : DataW.TrodAll enc Try.prog W 0 (fun _ => true) true Try.f5.params.toList args.toList ds p := hA0
  rw [Try.params5] at hA hval
  obtain ⟨v0, vs0, d0, ds0, p0, q0, hargs, rfl, rfl, h0, r0⟩ := trodAll_cons hA
  obtain ⟨v1, vs1, d1, ds1, p1, q1, rfl, rfl, rfl, h1, r1⟩ := trodAll_cons r0
  obtain ⟨rfl, rfl, rfl⟩ := trodAll_nil r1
  obtain rfl : args = #[v0, v1] := by cases args; simp_all
  obtain ⟨rfl, rfl⟩ := trodVars_none hV
  obtain ⟨s0, rfl, rfl, rfl, m0⟩ := open_string Try.underlying9 (hval 0 9 v0 rfl rfl) h0
  obtain ⟨s1, rfl, rfl, rfl, m1⟩ := open_string Try.underlying9 (hval 1 9 v1 rfl rfl) h1
  clear hA0 hval0
  simp only [List.append_nil] at hW'
  refine (walk s0 m0 s1 m1 W).mono fun e W' ⟨he, hg⟩ => ?_
  subst he
  exact ⟨_, rfl, _, _, _, [], [], [], hW', trodAll_cons_mk (shut_bool Try.underlying4 _) trodAll_mk0, (trodAll_cons_mk (shut_string Try.underlying9 m0) (trodAll_cons_mk (shut_string Try.underlying9 m1) trodAll_mk0)), rfl, hg.frame _, fun h => by cases h⟩

/-- THE STATEMENT. -/
theorem proved : Rows.PolyKnownSaid :=
  OpenClaim.holds_of_wide 5 Try.f5 rfl rfl rfl rfl rfl rfl rfl ⟨rfl, rfl, rfl, rfl, rfl⟩ rfl rfl rfl rfl rfl (by kernel_rfl) Try.func5 (by kernel_rfl)
    (of_decide_eq_true (by kernel_rfl)) (by unfold Func.isWrapper; first | (rw [if_pos (by decide +kernel)]; kernel_rfl) | (rw [if_neg (by decide +kernel)]; exact ⟨rfl, rfl⟩))
    (fun os started H enc _ => lifted os started H enc)
end Go.Proofs.Ytkjjkljpbfjkpaa.polyKnown
