/-
  ElemFermat: whatever text a is handed in (cut, or lengthened by bytes 0, to 32 bytes), the call returns true: squared 255 times it is what its power of 20 is: to the power of 2^255 - 19 a number is itself.
-/
import Derived.Test.YthabfejpejjenabFrame
import Derived.Test.YthabfejpejjenabPlainElem
namespace Go.Proofs.Ythabfejpejjenab.elemFermat
open Go.ChangeShapes Go.WideShapes Go.ChangeAt Go.RowKit
open Go.ChangeMaps (open_string shut_string)
open num

set_option maxHeartbeats 1600000 in
theorem walk (s : ByteArray) (hs : s.size ≤ maxLen) (w : World) :
    Calls Try.prog 6 #[.string s] w fun e w' => e = .returned (.bool true) ∧ Below w.heap.size w w' := by
  have hz := sz_size s 32
  have H : Hid (s.size ≤ maxLen) := hs
  clear hs
  go_enter Try.func6, Try.ntmps6
  go_wp2_with fail
  refine (elems_any s H.out _).mono ?_
  rintro e w1 ⟨rfl, hb1⟩
  go_wp2_with fail
  generalize sz s 32 = a at *
  go_loopw [4, 15] (fun v i wr => ∃ (k : Nat) (x : ByteArray), k ≤ 255 ∧ i = .int .i64 k ∧ v = .string x ∧ Sq a x k ∧ Below w.heap.size w wr) (fun _ i _ => 255 - (intOf i).toNat)
  case atStart => exact ⟨0, a, by omega, rfl, rfl, sq_start a hz, hb1⟩
  case round =>
    clear hb1
    obtain ⟨k, x, hk, rfl, rfl, hq, hnx⟩ := hrel
    by_cases hlt : k < 255
    · have hd : decide ((k : Int) < 255) = true := by simp; omega
      obtain ⟨z, hm, hq2⟩ := sq_step hq
      have HQ : Hid (Sq a z (k + 1)) := hq2
      clear hq hq2
      go_wp2_with (go_at_call 9; refine (mul_keep hnx hm).mono ?_; rintro e wn ⟨rfl, hbn⟩)
      go_roundw
      case rel => exact ⟨k + 1, z, by omega, by go_num, rfl, HQ.out, hbn⟩
      case measure => simp [intOf]; omega
    · have hd : decide ((k : Int) < 255) = false := by simp; omega
      have hp := sq_end hz hq (by omega)
      clear hq
      go_wp2_with (go_at_call 12; refine (pow_keep hnx hp).mono ?_; rintro e wn ⟨rfl, hbn⟩)
      go_ret
      exact ⟨rfl, hbn⟩

/-! ### The row's step -/
set_option maxRecDepth 100000 in
theorem lifted (os : Os) (started : os.Started) (H : Type) (enc : TypeId × Value → H) :
    ReturnsInHanded {} Try.checked os 6 .any (Rows.elemFermatSpec.pre6 enc Try.prog Try.f6 Rows.elemFermatRow.domain false) (Rows.elemFermatSpec.post enc Try.prog Try.f6 false true false false) := by
  refine returnsInHanded_of_change (C := Try.checked) own started (by kernel_rfl) Try.func6
    (ChangeSpec.witness6 (enc := enc) (C := Try.checked) false ⟨#[], #[.string .empty], []⟩ 8 (by kernel_rfl) (by kernel_rfl) (by kernel_rfl) (by kernel_rfl)) ?_
  intro W base args ds gs before hval0 hW _ _
  have hval : ∀ (j : Nat) t v, Try.f6.params[j]? = some t → args[j]? = some v → Value.okWide Try.prog W .any base t v := hval0
  have hW' := hW
  obtain ⟨p, q, hA0, hV, rfl, hfz, hnd⟩ := hW
  have hA : DataW.TrodAll enc Try.prog W 0 (fun _ => true) true Try.f6.params.toList args.toList ds p := hA0
  rw [Try.params6] at hA hval
  obtain ⟨v0, vs0, d0, ds0, p0, q0, hargs, rfl, rfl, h0, r0⟩ := trodAll_cons hA
  obtain ⟨rfl, rfl, rfl⟩ := trodAll_nil r0
  obtain rfl : args = #[v0] := by cases args; simp_all
  obtain ⟨rfl, rfl⟩ := trodVars_none hV
  obtain ⟨s0, rfl, rfl, rfl, m0⟩ := open_string Try.underlying9 (hval 0 9 v0 rfl rfl) h0
  clear hA0 hval0
  simp only [List.append_nil] at hW'
  refine (walk s0 m0 W).mono fun e W' ⟨he, hg⟩ => ?_
  subst he
  exact ⟨_, rfl, _, _, _, [], [], [], hW', trodAll_cons_mk (shut_bool Try.underlying4 _) trodAll_mk0, (trodAll_cons_mk (shut_string Try.underlying9 m0) trodAll_mk0), rfl, hg.frame _, fun h => by cases h⟩

/-- THE STATEMENT. -/
theorem proved : Rows.ElemFermatSaid :=
  OpenClaim.holds_of_wide 6 Try.f6 rfl rfl rfl rfl rfl rfl rfl ⟨rfl, rfl, rfl, rfl, rfl⟩ rfl rfl rfl rfl rfl (by kernel_rfl) Try.func6 (by kernel_rfl)
    (of_decide_eq_true (by kernel_rfl)) (by unfold Func.isWrapper; first | (rw [if_pos (by decide +kernel)]; kernel_rfl) | (rw [if_neg (by decide +kernel)]; exact ⟨rfl, rfl⟩))
    (fun os started H enc _ => lifted os started H enc)
end Go.Proofs.Ythabfejpejjenab.elemFermat
