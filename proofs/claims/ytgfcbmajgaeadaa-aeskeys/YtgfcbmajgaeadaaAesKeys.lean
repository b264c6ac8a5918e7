/-
  AesKeys: whatever text is handed in, the call returns true.
-/
import Derived.Test.YtgfcbmajgaeadaaFrame
import Derived.Test.YtgfcbmajgaeadaaAesFace
import Derived.Test.YtgfcbmajgaeadaaShelfStr
namespace Go.Proofs.Ytgfcbmajgaeadaa.aesKeys
open Go.ChangeShapes Go.WideShapes Go.ChangeAt Go.RowKit
open Go.ChangeMaps (open_string shut_string)
open aes

theorem pre_true (k : ByteArray) : Lib.hasPrefix (tx (kE k)).data.toList k.data.toList = true := by
  unfold Lib.hasPrefix
  rw [List.isPrefixOf_iff_prefix]
  have h := (kE_pre k).map UInt8.ofNat
  have e : (nb k).map UInt8.ofNat = k.data.toList := by
    have := congrArg (fun b : ByteArray => b.data.toList) (tx_nb k)
    simpa [tx] using this
  rw [e] at h
  simpa [tx] using h
theorem walk (k : ByteArray) (_ : k.size ≤ maxLen) (w : World) :
    Calls Try.prog 8 #[.string k] w fun e w' => e = .returned (.bool true) ∧ Below w.heap.size w w' := by
  by_cases h : k.size = 16 ∨ k.size = 32
  · have f1 := expand_good k h
    have f2 := Try.strings_HasPrefix (tx (kE k)) k
    rw [pre_true k] at f2
    have hz : (tx (kE k)).size = 16 * (k.size / 4 + 7) := by rw [tx_size, kE_length k h]
    generalize tx (kE k) = t at *
    rcases h with h | h
    all_goals
      rw [h] at hz
      have z1 : (t.size : Int) = ((16 * (k.size / 4 + 7) : Nat) : Int) := by omega
      rw [h] at z1
      have z2 : (k.size : Int) = _ := congrArg Int.ofNat h
      go_enter Try.func8, Try.ntmps8
      go_wp2_with (first | (go_at_call 9; refine (f1 _).mono ?_; rintro e w1 ⟨rfl, hb1⟩) | (go_at_call 17; refine (f2 _).mono ?_; rintro e w2 ⟨rfl, rfl⟩))
      go_ret
      exact ⟨rfl, hb1⟩
  · have f1 := expand_bad k (by omega) (by omega)
    have t1 : ((k.size : Int) != 16) = true := by rw [bne_iff_ne]; omega
    have t2 : ((k.size : Int) != 32) = true := by rw [bne_iff_ne]; omega
    go_enter Try.func8, Try.ntmps8
    go_wp2_with (go_at_call 9; refine (f1 _).mono ?_; rintro e w1 ⟨rfl, hb1⟩)
    go_ret
    exact ⟨rfl, hb1⟩

/-! ### The row's step -/
set_option maxRecDepth 100000 in
theorem lifted (os : Os) (started : os.Started) (H : Type) (enc : TypeId × Value → H) :
    ReturnsInHanded {} Try.checked os 8 .any (Rows.aesKeysSpec.pre6 enc Try.prog Try.f8 Rows.aesKeysRow.domain false) (Rows.aesKeysSpec.post enc Try.prog Try.f8 false true false false) := by
  refine returnsInHanded_of_change (C := Try.checked) own started (by kernel_rfl) Try.func8
    (ChangeSpec.witness6 (enc := enc) (C := Try.checked) false ⟨#[], #[.string .empty], []⟩ 8 (by kernel_rfl) (by kernel_rfl) (by kernel_rfl) (by kernel_rfl)) ?_
  intro W base args ds gs before hval0 hW _ _
  have hval : ∀ (j : Nat) t v, Try.f8.params[j]? = some t → args[j]? = some v → Value.okWide Try.prog W .any base t v := hval0
  have hW' := hW
  obtain ⟨p, q, hA0, hV, rfl, hfz, hnd⟩ := hW
  have hA : DataW.TrodAll enc Try.prog W 0 (fun _ => true) true Try.f8.params.toList args.toList ds p := hA0
  rw [Try.params8] at hA hval
  obtain ⟨v0, vs0, d0, ds0, p0, q0, hargs, rfl, rfl, h0, r0⟩ := trodAll_cons hA
  obtain ⟨rfl, rfl, rfl⟩ := trodAll_nil r0
  obtain rfl : args = #[v0] := by cases args; simp_all
  obtain ⟨rfl, rfl⟩ := trodVars_none hV
  obtain ⟨s0, rfl, rfl, rfl, m0⟩ := open_string Try.underlying9 (hval 0 9 v0 rfl rfl) h0
  clear hA0 hval0
  simp only [List.append_nil] at hW'
  refine (walk s0 m0 W).mono fun e W' ⟨he, hg⟩ => ?_
  subst he
  exact ⟨_, rfl, _, _, _, [], [], [], hW', trodAll_cons_mk (shut_bool Try.underlying4 _) trodAll_mk0, (trodAll_cons_mk (shut_string Try.underlying9 m0) trodAll_mk0), rfl, hg.frame _, fun h => by cases h⟩

/-- THE STATEMENT. -/
theorem proved : Rows.AesKeysSaid :=
  OpenClaim.holds_of_wide 8 Try.f8 rfl rfl rfl rfl rfl rfl rfl ⟨rfl, rfl, rfl, rfl, rfl⟩ rfl rfl rfl rfl rfl (by kernel_rfl) Try.func8 (by kernel_rfl)
    (of_decide_eq_true (by kernel_rfl)) (by unfold Func.isWrapper; first | (rw [if_pos (by decide +kernel)]; kernel_rfl) | (rw [if_neg (by decide +kernel)]; exact ⟨rfl, rfl⟩))
    (fun os started H enc _ => lifted os started H enc)
end Go.Proofs.Ytgfcbmajgaeadaa.aesKeys
