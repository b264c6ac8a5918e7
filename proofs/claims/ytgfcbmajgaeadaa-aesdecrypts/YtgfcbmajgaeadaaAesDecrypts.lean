/-
  AesDecrypts: whatever texts are handed in, the call returns true: Decrypt of them is what the document answers.
-/
import Derived.Test.YtgfcbmajgaeadaaFrame
import Derived.Test.YtgfcbmajgaeadaaAesGone
import Derived.Test.YtgfcbmajgaeadaaRefAesAny
import Derived.Test.YtgfcbmajgaeadaaRefAesBack
namespace Go.Proofs.Ytgfcbmajgaeadaa.aesDecrypts
open Go.ChangeShapes Go.WideShapes Go.ChangeAt Go.RowKit
open Go.ChangeMaps (open_string shut_string)
open aes gal

set_option maxRecDepth 100000 in
set_option maxHeartbeats 800000 in
theorem block_good (k b : ByteArray) (h : k.size = 16 ∨ k.size = 32) (hb : b.size = 16) (w : World) :
    Calls Try.prog 12 #[.string k, .string b, .bool false] w fun e w' => e = .returned (.tuple #[.string (decB k b), .int .i64 0]) ∧ Below w.heap.size w w' := by
  have t1 : ((b.size : Int) != 16) = false := by rw [bne_eq_false_iff_eq]; omega
  have f1 := aesOf_any k h
  have f2 := fun (sg wg wcap : Nat) (hc : 4 * (k.size / 4 + 6 + 1) ≤ wcap) (W : World) (hT : Tab W sg gsub) (hW : Words W wg (4 * (k.size / 4 + 6 + 1)) (kE k)) => back_any (kE k) (k.size / 4 + 6) (by omega) (by omega) (kE_ok k) b hb sg wg wcap hc W hT hW
  have e : tx (dec (kE k) (k.size / 4 + 6) (nb b)) = decB k b := rfl
  rw [e] at f2
  generalize decB k b = T at *
  generalize kE k = E at *
  have hN : 4 * (k.size / 4 + 6 + 1) ≤ 60 := by omega
  generalize 4 * (k.size / 4 + 6 + 1) = N at *
  clear h hb e
  go_enter Try.func12, Try.ntmps12
  go_wp2_with (go_at_call 20; refine (f1 _).mono ?_; rintro e w1 ⟨sg, wg, wcap, rfl, hwc, hT, hW, hb1⟩; have hX1 : Below w1.heap.size w1 (w1.alloc (.cells #[.slice (some ⟨sg, 0, none⟩) 256 256, .slice (some ⟨wg, 0, none⟩) N wcap] 37)) := (Below.refl _ _).alloc (Nat.le_refl _) _; have f3 := f2 sg wg wcap hwc _ (hT.below hX1 hT.1) (hW.below hX1 hW.1); have hB := Blk.new w1 37 [.slice (some ⟨sg, 0, none⟩) 256 256, .slice (some ⟨wg, 0, none⟩) N wcap] _ rfl)
  refine f3.mono ?_
  rintro e w2 ⟨rfl, hb2⟩
  go_wp2_with fail
  go_ret2
  have hX := hb1.trans (hX1.mono hb1.size)
  exact ⟨rfl, hX.trans (hb2.mono hX.size)⟩
theorem walk (k : ByteArray) (_ : k.size ≤ maxLen) (b : ByteArray) (_ : b.size ≤ maxLen) (w : World) :
    Calls Try.prog 5 #[.string k, .string b] w fun e w' => e = .returned (.bool true) ∧ Below w.heap.size w w' := by
  by_cases h : (k.size = 16 ∨ k.size = 32) ∧ b.size = 16
  · have f1 := decrypt_good k b h.1 h.2
    have f2 := block_good k b h.1 h.2
    clear h
    generalize decB k b = T at *
    go_enter Try.func5, Try.ntmps5
    go_wp2_with (first | (go_at_call 13; refine (f1 _).mono ?_; rintro e w1 ⟨rfl, hb1⟩) | (go_at_call 12; refine (f2 _).mono ?_; rintro e w2 ⟨rfl, hb2⟩))
    go_ret
    exact ⟨rfl, hb1.trans (hb2.mono hb1.size)⟩
  · have f1 := decrypt_bad k b h
    have f2 := block_bad k b h false
    clear h
    go_enter Try.func5, Try.ntmps5
    go_wp2_with (first | (go_at_call 13; refine (f1 _).mono ?_; rintro e w1 ⟨rfl, hb1⟩) | (go_at_call 12; refine (f2 _).mono ?_; rintro e w2 ⟨rfl, hb2⟩))
    go_ret
    exact ⟨rfl, hb1.trans (hb2.mono hb1.size)⟩

/-! ### The row's step -/
set_option maxRecDepth 100000 in
theorem lifted (os : Os) (started : os.Started) (H : Type) (enc : TypeId × Value → H) :
    ReturnsInHanded {} Try.checked os 5 .any (Rows.aesDecryptsSpec.pre6 enc Try.prog Try.f5 Rows.aesDecryptsRow.domain false) (Rows.aesDecryptsSpec.post enc Try.prog Try.f5 false true false false) := by
  refine returnsInHanded_of_change (C := Try.checked) own started (by kernel_rfl) Try.func5
    (ChangeSpec.witness6 (enc := enc) (C := Try.checked) false ⟨#[], #[.string .empty, .string .empty], []⟩ 8 (by kernel_rfl) (by kernel_rfl) (by kernel_rfl) (by kernel_rfl)) ?_
  intro W base args ds gs before hval0 hW _ _
  have hval : ∀ (j : Nat) t v, Try.f5.params[j]? = some t → args[j]? = some v → Value.okWide Try.prog W .any base t v := hval0
  have hW' := hW
  obtain ⟨p, q, hA0, hV, rfl, hfz, hnd⟩ := hW
  have hA : DataW.TrodAll enc Try.prog W 0 (fun _ => true) true Try.f5.params.toList args.toList ds p := hA0
  rw [Try.params5] at hA hval
  obtain ⟨v0, vs0, d0, ds0, p0, q0, hargs, rfl, rfl, h0, r0⟩ := trodAll_cons hA
  obtain ⟨v1, vs1, d1, ds1, p1, q1, rfl, rfl, rfl, h1, r1⟩ := trodAll_cons r0
  obtain ⟨rfl, rfl, rfl⟩ := trodAll_nil r1
  obtain rfl : args = #[v0, v1] := by cases args; simp_all
  obtain ⟨rfl, rfl⟩ := trodVars_none hV
  obtain ⟨s0, rfl, rfl, rfl, m0⟩ := open_string Try.underlying9 (hval 0 9 v0 rfl rfl) h0
  obtain ⟨s1, rfl, rfl, rfl, m1⟩ := open_string Try.underlying9 (hval 1 9 v1 rfl rfl) h1
  clear hA0 hval0
  simp only [List.append_nil] at hW'
  refine (walk s0 m0 s1 m1 W).mono fun e W' ⟨he, hg⟩ => ?_
  subst he
  exact ⟨_, rfl, _, _, _, [], [], [], hW', trodAll_cons_mk (shut_bool Try.underlying4 _) trodAll_mk0, (trodAll_cons_mk (shut_string Try.underlying9 m0) (trodAll_cons_mk (shut_string Try.underlying9 m1) trodAll_mk0)), rfl, hg.frame _, fun h => by cases h⟩

/-- THE STATEMENT. -/
theorem proved : Rows.AesDecryptsSaid :=
  OpenClaim.holds_of_wide 5 Try.f5 rfl rfl rfl rfl rfl rfl rfl ⟨rfl, rfl, rfl, rfl, rfl⟩ rfl rfl rfl rfl rfl (by kernel_rfl) Try.func5 (by kernel_rfl)
    (of_decide_eq_true (by kernel_rfl)) (by unfold Func.isWrapper; first | (rw [if_pos (by decide +kernel)]; kernel_rfl) | (rw [if_neg (by decide +kernel)]; exact ⟨rfl, rfl⟩))
    (fun os started H enc _ => lifted os started H enc)
end Go.Proofs.Ytgfcbmajgaeadaa.aesDecrypts
