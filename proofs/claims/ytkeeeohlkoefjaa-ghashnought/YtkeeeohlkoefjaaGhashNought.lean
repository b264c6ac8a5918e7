/-
  GhashNought: whatever two texts are handed in, the call returns true: a product is nought just if one of both is.
-/
import Derived.Test.YtkeeeohlkoefjaaFrame
import Derived.Test.YtkeeeohlkoefjaaKeepGhash
import Derived.Test.YtkeeeohlkoefjaaPlainGhashField
namespace Go.Proofs.Ytkeeeohlkoefjaa.ghashNought
open Go.ChangeShapes Go.WideShapes Go.ChangeAt Go.RowKit
open Go.ChangeMaps (open_string shut_string)
open ghs

theorem bn_x : bn (sz ⟨#[64]⟩ 16) = 2 ^ 126 := by decide +kernel
theorem bn_xx : bn (sz ⟨#[32]⟩ 16) = 2 ^ 125 := by decide +kernel
theorem x_x : gm (2 ^ 126) (2 ^ 126) = 2 ^ 125 := by
  have h := gm_pows 1 1 (by decide) (by decide)
  rw [xts_one (1 + 1) (by decide)] at h
  exact h
theorem noughts_16 : noughts 16 = bt 0 := by
  refine bn_inj (noughts_size 16) (bt_size 0) ?_
  rw [bn_bt (by decide)]
  decide +kernel
theorem size_x : (⟨#[64]⟩ : ByteArray).size = 1 := rfl
theorem size_xx : (⟨#[32]⟩ : ByteArray).size = 1 := rfl
theorem ne_list {a b : ByteArray} (h : a ≠ b) : (a.toList == b.toList) = false := by
  rw [beq_eq_false_iff_ne, ByteArray.toList_eq, ByteArray.toList_eq]
  intro e
  apply h
  apply ByteArray.ext
  exact Array.toList_inj.1 e
theorem ne_bt {A : ByteArray} (h : bn A ≠ 0) : A ≠ bt 0 := fun e => h (by rw [e, bn_bt (by decide)])

set_option maxHeartbeats 3200000 in
theorem walk (a : ByteArray) (ha : a.size ≤ maxLen) (b : ByteArray) (hb : b.size ≤ maxLen) (w : World) :
    Calls Try.prog 6 #[.string a, .string b] w fun e w' => e = .returned (.bool true) ∧ Below w.heap.size w w' := by
  have g1 : ∀ W, Calls Try.prog 12 #[.string a, .int .i64 16] W fun e w' => e = .returned (.string (sz a 16)) ∧ Below W.heap.size W w' := sized_any a 16 ha (by decide)
  have g2 : ∀ W, Calls Try.prog 12 #[.string b, .int .i64 16] W fun e w' => e = .returned (.string (sz b 16)) ∧ Below W.heap.size W w' := sized_any b 16 hb (by decide)
  have g3 : ∀ W, Calls Try.prog 15 #[.int .i64 16] W fun e w' => e = .returned (.string (noughts 16)) ∧ Below W.heap.size W w' := zeros_any 16 (by decide)
  have g4 : ∀ W, Calls Try.prog 12 #[.string ⟨#[64]⟩, .int .i64 16] W fun e w' => e = .returned (.string (sz ⟨#[64]⟩ 16)) ∧ Below W.heap.size W w' := sized_any ⟨#[64]⟩ 16 (by rw [size_x]; decide) (by decide)
  have g5 : ∀ W, Calls Try.prog 12 #[.string ⟨#[32]⟩, .int .i64 16] W fun e w' => e = .returned (.string (sz ⟨#[32]⟩ 16)) ∧ Below W.heap.size W w' := sized_any ⟨#[32]⟩ 16 (by rw [size_xx]; decide) (by decide)
  have s1 := sz_size a 16
  have s2 := sz_size b 16
  have s4 := sz_size ⟨#[64]⟩ 16
  have s5 := sz_size ⟨#[32]⟩ 16
  have n4 := bn_x
  have n5 := bn_xx
  generalize sz a 16 = A at *
  generalize sz b 16 = B at *
  generalize sz ⟨#[64]⟩ 16 = X at *
  generalize sz ⟨#[32]⟩ 16 = Y at *
  clear ha hb
  have f1 := times_good A B s1 s2
  have f2 := times_good X X s4 s4
  rw [n4, x_x, ← n5, bt_bn s5] at f2
  rw [noughts_16] at g3
  have lG : gm (bn A) (bn B) < 2 ^ 128 := gm_lt _ (bn_lt B)
  have hN := gm_nought (bn_lt A) (bn_lt B)
  clear s4 s5 n4 n5
  by_cases hA : bn A = 0
  · have eA : A = bt 0 := by rw [← hA, bt_bn s1]
    have eG : gm (bn A) (bn B) = 0 := hN.2 (.inl hA)
    rw [eG] at f1
    rw [eA] at f1 g1
    clear hA hN eG eA lG s1 s2
    generalize bt 0 = Z at *
    have hX := Below.refl w.heap.size w
    go_enter Try.func6, Try.ntmps6
    go_wp2_with (first
      | (go_at_call 12; first
        | (with_reducible refine (g1 _).mono ?_; rintro e w1 ⟨rfl, hq⟩; replace hX := hX.trans (hq.mono hX.size); clear hq)
        | (with_reducible refine (g2 _).mono ?_; rintro e w1 ⟨rfl, hq⟩; replace hX := hX.trans (hq.mono hX.size); clear hq)
        | (with_reducible refine (g4 _).mono ?_; rintro e w1 ⟨rfl, hq⟩; replace hX := hX.trans (hq.mono hX.size); clear hq)
        | (with_reducible refine (g5 _).mono ?_; rintro e w1 ⟨rfl, hq⟩; replace hX := hX.trans (hq.mono hX.size); clear hq))
      | (go_at_call 13; first
        | (with_reducible refine (f1 _).mono ?_; rintro e w1 ⟨rfl, hq⟩; replace hX := hX.trans (hq.mono hX.size); clear hq)
        | (with_reducible refine (f2 _).mono ?_; rintro e w1 ⟨rfl, hq⟩; replace hX := hX.trans (hq.mono hX.size); clear hq))
      | (go_at_call 15; first
        | (with_reducible refine (g3 _).mono ?_; rintro e w1 ⟨rfl, hq⟩; replace hX := hX.trans (hq.mono hX.size); clear hq)))
    go_ret
    exact ⟨rfl, hX⟩
  · by_cases hB : bn B = 0
    · have eB : B = bt 0 := by rw [← hB, bt_bn s2]
      have eG : gm (bn A) (bn B) = 0 := hN.2 (.inr hB)
      have nA := ne_list (ne_bt hA)
      rw [eG] at f1
      rw [eB] at f1 g2
      clear hA hB hN eG eB lG s1 s2
      generalize bt 0 = Z at *
      have hX := Below.refl w.heap.size w
      go_enter Try.func6, Try.ntmps6
      go_wp2_with (first
        | (go_at_call 12; first
          | (with_reducible refine (g1 _).mono ?_; rintro e w1 ⟨rfl, hq⟩; replace hX := hX.trans (hq.mono hX.size); clear hq)
          | (with_reducible refine (g2 _).mono ?_; rintro e w1 ⟨rfl, hq⟩; replace hX := hX.trans (hq.mono hX.size); clear hq)
          | (with_reducible refine (g4 _).mono ?_; rintro e w1 ⟨rfl, hq⟩; replace hX := hX.trans (hq.mono hX.size); clear hq)
          | (with_reducible refine (g5 _).mono ?_; rintro e w1 ⟨rfl, hq⟩; replace hX := hX.trans (hq.mono hX.size); clear hq))
        | (go_at_call 13; first
          | (with_reducible refine (f1 _).mono ?_; rintro e w1 ⟨rfl, hq⟩; replace hX := hX.trans (hq.mono hX.size); clear hq)
          | (with_reducible refine (f2 _).mono ?_; rintro e w1 ⟨rfl, hq⟩; replace hX := hX.trans (hq.mono hX.size); clear hq))
        | (go_at_call 15; first
          | (with_reducible refine (g3 _).mono ?_; rintro e w1 ⟨rfl, hq⟩; replace hX := hX.trans (hq.mono hX.size); clear hq)))
      go_ret
      exact ⟨rfl, hX⟩
    · have hG : gm (bn A) (bn B) ≠ 0 := fun h => (hN.1 h).elim hA hB
      have nA := ne_list (ne_bt hA)
      have nB := ne_list (ne_bt hB)
      have nG := ne_list (ne_bt (A := bt (gm (bn A) (bn B))) (by rw [bn_bt lG]; exact hG))
      generalize bt (gm (bn A) (bn B)) = T at *
      clear hA hB hN hG lG s1 s2
      generalize bt 0 = Z at *
      have hX := Below.refl w.heap.size w
      go_enter Try.func6, Try.ntmps6
      go_wp2_with (first
        | (go_at_call 12; first
          | (with_reducible refine (g1 _).mono ?_; rintro e w1 ⟨rfl, hq⟩; replace hX := hX.trans (hq.mono hX.size); clear hq)
          | (with_reducible refine (g2 _).mono ?_; rintro e w1 ⟨rfl, hq⟩; replace hX := hX.trans (hq.mono hX.size); clear hq)
          | (with_reducible refine (g4 _).mono ?_; rintro e w1 ⟨rfl, hq⟩; replace hX := hX.trans (hq.mono hX.size); clear hq)
          | (with_reducible refine (g5 _).mono ?_; rintro e w1 ⟨rfl, hq⟩; replace hX := hX.trans (hq.mono hX.size); clear hq))
        | (go_at_call 13; first
          | (with_reducible refine (f1 _).mono ?_; rintro e w1 ⟨rfl, hq⟩; replace hX := hX.trans (hq.mono hX.size); clear hq)
          | (with_reducible refine (f2 _).mono ?_; rintro e w1 ⟨rfl, hq⟩; replace hX := hX.trans (hq.mono hX.size); clear hq))
        | (go_at_call 15; first
          | (with_reducible refine (g3 _).mono ?_; rintro e w1 ⟨rfl, hq⟩; replace hX := hX.trans (hq.mono hX.size); clear hq)))
      go_ret
      exact ⟨rfl, hX⟩
/-! ### The row's step -/
set_option maxRecDepth 100000 in
theorem lifted (os : Os) (started : os.Started) (H : Type) (enc : TypeId × Value → H) :
    ReturnsInHanded {} Try.checked os 6 .any (Rows.ghashNoughtSpec.pre6 enc Try.prog Try.f6 Rows.ghashNoughtRow.domain false) (Rows.ghashNoughtSpec.post enc Try.prog Try.f6 false true false false) := by
  refine returnsInHanded_of_change (C := Try.checked) own started (by kernel_rfl) Try.func6
    (ChangeSpec.witness6 (enc := enc) (C := Try.checked) false ⟨#[], #[.string .empty, .string .empty], []⟩ 8 (by kernel_rfl) (by kernel_rfl) (by kernel_rfl) (by kernel_rfl)) ?_
  intro W base args ds gs before hval0 hW _ _
  have hval : ∀ (j : Nat) t v, Try.f6.params[j]? = some t → args[j]? = some v → Value.okWide Try.prog W .any base t v := hval0
  have hW' := hW
  obtain ⟨p, q, hA0, hV, rfl, hfz, hnd⟩ := hW
  have hA : DataW.TrodAll enc Try.prog W 0 (fun _ => true) true Try.f6.params.toList args.toList ds p := hA0
  rw [Try.params6] at hA hval
  obtain ⟨v0, vs0, d0, ds0, p0, q0, hargs, rfl, rfl, h0, r0⟩ := trodAll_cons hA
  obtain ⟨v1, vs1, d1, ds1, p1, q1, rfl, rfl, rfl, h1, r1⟩ := trodAll_cons r0
  obtain ⟨rfl, rfl, rfl⟩ := trodAll_nil r1
  obtain rfl : args = #[v0, v1] := by cases args; simp_all
  obtain ⟨rfl, rfl⟩ := trodVars_none hV
  obtain ⟨s0, rfl, rfl, rfl, m0⟩ := open_string Try.underlying9 (hval 0 9 v0 rfl rfl) h0
  obtain ⟨s1, rfl, rfl, rfl, m1⟩ := open_string Try.underlying9 (hval 1 9 v1 rfl rfl) h1
  clear hA0 hval0
  simp only [List.append_nil] at hW'
  refine (walk s0 m0 s1 m1 W).mono fun e W' ⟨he, hg⟩ => ?_
  subst he
  exact ⟨_, rfl, _, _, _, [], [], [], hW', trodAll_cons_mk (shut_bool Try.underlying4 _) trodAll_mk0, (trodAll_cons_mk (shut_string Try.underlying9 m0) (trodAll_cons_mk (shut_string Try.underlying9 m1) trodAll_mk0)), rfl, hg.frame _, fun h => by cases h⟩

/-- THE STATEMENT. -/
theorem proved : Rows.GhashNoughtSaid :=
  OpenClaim.holds_of_wide 6 Try.f6 rfl rfl rfl rfl rfl rfl rfl ⟨rfl, rfl, rfl, rfl, rfl⟩ rfl rfl rfl rfl rfl (by kernel_rfl) Try.func6 (by kernel_rfl)
    (of_decide_eq_true (by kernel_rfl)) (by unfold Func.isWrapper; first | (rw [if_pos (by decide +kernel)]; kernel_rfl) | (rw [if_neg (by decide +kernel)]; exact ⟨rfl, rfl⟩))
    (fun os started H enc _ => lifted os started H enc)
end Go.Proofs.Ytkeeeohlkoefjaa.ghashNought
