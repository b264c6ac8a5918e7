/-
  AesExpands: whatever text is handed in, the call returns true: Expand of it is what the document answers.
-/
import Derived.Test.YtgfcbmajgaeadaaFrame
import Derived.Test.YtgfcbmajgaeadaaRefAesOf4
import Derived.Test.YtgfcbmajgaeadaaRefAesOf8
namespace Go.Proofs.Ytgfcbmajgaeadaa.aesExpands
open Go.ChangeShapes Go.WideShapes Go.ChangeAt Go.RowKit
open Go.ChangeMaps (open_string shut_string)
open aes gal

theorem aesOf_any (k : ByteArray) (h : k.size = 16 ∨ k.size = 32) (w : World) :
    Calls Try.prog 20 #[.string k] w fun e w' => ∃ sg wg wcap, e = .returned (.tuple #[.agg #[.slice (some ⟨sg, 0, none⟩) 256 256, .slice (some ⟨wg, 0, none⟩) (4 * (k.size / 4 + 7)) wcap], .bool true]) ∧ 4 * (k.size / 4 + 7) ≤ wcap ∧ Tab w' sg gsub ∧ Words w' wg (4 * (k.size / 4 + 7)) (kE k) ∧ Below w.heap.size w w' := by
  rcases h with h | h
  · have := aesOf_4 k h w
    rw [h]
    exact this
  · have := aesOf_8 k h w
    rw [h]
    exact this
theorem run_all (k : ByteArray) (h : k.size = 16 ∨ k.size = 32) : run (kE k) 0 (4 * (k.size / 4 + 7)) = kE k := by
  have hl := kE_length k h
  unfold run
  rw [show 4 * (4 * (k.size / 4 + 7)) = 16 * (k.size / 4 + 7) from by omega]
  refine (mk_congr fun j _ => ?_).trans (mk_of _ _ hl)
  rw [Nat.mul_zero, Nat.zero_add]
set_option maxHeartbeats 800000 in
theorem rexpand_good (k : ByteArray) (h : k.size = 16 ∨ k.size = 32) (w : World) :
    Calls Try.prog 10 #[.string k] w fun e w' => e = .returned (.tuple #[.string (tx (kE k)), .int .i64 0]) ∧ Below w.heap.size w w' := by
  have f1 := aesOf_any k h w
  have hrun := run_all k h
  have hN : 4 * (k.size / 4 + 7) ≤ 60 := by omega
  generalize 4 * (k.size / 4 + 7) = N at *
  have f2 : ∀ (wg wcap : Nat) (W : World), N ≤ wcap → Words W wg N (kE k) → Calls Try.prog 21 #[.slice (some ⟨wg, 0, none⟩) N wcap, .string ⟨#[]⟩] W fun e w' => e = .returned (.string (tx (kE k))) ∧ Below W.heap.size W w' := fun wg wcap W hc hW => by
    have := join_words wg 0 wcap N N (kE k) W hW (by omega) hc (by omega)
    rwa [hrun] at this
  generalize tx (kE k) = T at *
  generalize kE k = E at *
  clear h hrun
  go_enter Try.func10, Try.ntmps10
  go_wp2_with (go_at_call 20; refine f1.mono ?_; rintro e w1 ⟨sg, wg, wcap, rfl, hwc, hT, hW, hb1⟩; have f3 := f2 wg wcap _ hwc (hW.below ((Below.refl _ _).alloc (Nat.le_refl _) (.cells #[.slice (some ⟨sg, 0, none⟩) 256 256, .slice (some ⟨wg, 0, none⟩) N wcap] 37)) hW.1))
  refine f3.mono ?_
  rintro e w2 ⟨rfl, hb2⟩
  go_wp2_with fail
  go_ret2
  have hX := hb1.alloc hb1.size (.cells #[.slice (some ⟨sg, 0, none⟩) 256 256, .slice (some ⟨wg, 0, none⟩) N wcap] 37)
  exact ⟨rfl, hX.trans (hb2.mono hX.size)⟩
theorem rexpand_bad (k : ByteArray) (h : k.size ≠ 16) (h2 : k.size ≠ 32) (w : World) :
    Calls Try.prog 10 #[.string k] w fun e w' => e = .returned (.tuple #[.string ⟨#[]⟩, .int .i64 1]) ∧ Below w.heap.size w w' := by
  have f1 := aesOf_bad k h h2
  go_enter Try.func10, Try.ntmps10
  go_wp2_with (go_at_call 20; refine (f1 _).mono ?_; rintro e w1 ⟨rfl, hb1⟩)
  go_ret2
  exact ⟨rfl, hb1.alloc hb1.size _⟩
theorem walk (k : ByteArray) (_ : k.size ≤ maxLen) (w : World) :
    Calls Try.prog 3 #[.string k] w fun e w' => e = .returned (.bool true) ∧ Below w.heap.size w w' := by
  by_cases h : k.size = 16 ∨ k.size = 32
  · have f1 := expand_good k h
    have f2 := rexpand_good k h
    clear h
    generalize tx (kE k) = T at *
    go_enter Try.func3, Try.ntmps3
    go_wp2_with (first | (go_at_call 9; refine (f1 _).mono ?_; rintro e w1 ⟨rfl, hb1⟩) | (go_at_call 10; refine (f2 _).mono ?_; rintro e w2 ⟨rfl, hb2⟩))
    go_ret
    exact ⟨rfl, hb1.trans (hb2.mono hb1.size)⟩
  · have f1 := expand_bad k (by omega) (by omega)
    have f2 := rexpand_bad k (by omega) (by omega)
    clear h
    go_enter Try.func3, Try.ntmps3
    go_wp2_with (first | (go_at_call 9; refine (f1 _).mono ?_; rintro e w1 ⟨rfl, hb1⟩) | (go_at_call 10; refine (f2 _).mono ?_; rintro e w2 ⟨rfl, hb2⟩))
    go_ret
    exact ⟨rfl, hb1.trans (hb2.mono hb1.size)⟩

/-! ### The row's step -/
set_option maxRecDepth 100000 in
theorem lifted (os : Os) (started : os.Started) (H : Type) (enc : TypeId × Value → H) :
    ReturnsInHanded {} Try.checked os 3 .any (Rows.aesExpandsSpec.pre6 enc Try.prog Try.f3 Rows.aesExpandsRow.domain false) (Rows.aesExpandsSpec.post enc Try.prog Try.f3 false true false false) := by
  refine returnsInHanded_of_change (C := Try.checked) own started (by kernel_rfl) Try.func3
    (ChangeSpec.witness6 (enc := enc) (C := Try.checked) false ⟨#[], #[.string .empty], []⟩ 8 (by kernel_rfl) (by kernel_rfl) (by kernel_rfl) (by kernel_rfl)) ?_
  intro W base args ds gs before hval0 hW _ _
  have hval : ∀ (j : Nat) t v, Try.f3.params[j]? = some t → args[j]? = some v → Value.okWide Try.prog W .any base t v := hval0
  have hW' := hW
  obtain ⟨p, q, hA0, hV, rfl, hfz, hnd⟩ := hW
  have hA : DataW.TrodAll enc Try.prog W 0 (fun _ => true) true Try.f3.params.toList args.toList ds p := hA0
  rw [Try.params3] at hA hval
  obtain ⟨v0, vs0, d0, ds0, p0, q0, hargs, rfl, rfl, h0, r0⟩ := trodAll_cons hA
  obtain ⟨rfl, rfl, rfl⟩ := trodAll_nil r0
  obtain rfl : args = #[v0] := by cases args; simp_all
  obtain ⟨rfl, rfl⟩ := trodVars_none hV
  obtain ⟨s0, rfl, rfl, rfl, m0⟩ := open_string Try.underlying9 (hval 0 9 v0 rfl rfl) h0
  clear hA0 hval0
  simp only [List.append_nil] at hW'
  refine (walk s0 m0 W).mono fun e W' ⟨he, hg⟩ => ?_
  subst he
  exact ⟨_, rfl, _, _, _, [], [], [], hW', trodAll_cons_mk (shut_bool Try.underlying4 _) trodAll_mk0, (trodAll_cons_mk (shut_string Try.underlying9 m0) trodAll_mk0), rfl, hg.frame _, fun h => by cases h⟩

/-- THE STATEMENT. -/
theorem proved : Rows.AesExpandsSaid :=
  OpenClaim.holds_of_wide 3 Try.f3 rfl rfl rfl rfl rfl rfl rfl ⟨rfl, rfl, rfl, rfl, rfl⟩ rfl rfl rfl rfl rfl (by kernel_rfl) Try.func3 (by kernel_rfl)
    (of_decide_eq_true (by kernel_rfl)) (by unfold Func.isWrapper; first | (rw [if_pos (by decide +kernel)]; kernel_rfl) | (rw [if_neg (by decide +kernel)]; exact ⟨rfl, rfl⟩))
    (fun os started H enc _ => lifted os started H enc)
end Go.Proofs.Ytgfcbmajgaeadaa.aesExpands
