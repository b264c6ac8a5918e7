/-
  GaloisField: whatever three bytes are handed in, the call returns true: bytes are a field.
-/
import Derived.Test.YtjgfldealnapnaaFrame
import Derived.Test.YtjgfldealnapnaaGaloisMul
namespace Go.Proofs.Ytjgfldealnapnaa.galoisField
open Go.ChangeShapes Go.WideShapes Go.ChangeAt Go.RowKit
open gal

theorem two_top : gm 2 128 = 27 := by rw [gm_u]; decide +kernel
theorem xor_lt8 {a b : Nat} (ha : a < 256) (hb : b < 256) : a ^^^ b < 256 := Nat.xor_lt_two_pow (n := 8) ha hb
/-- Facts of all products in it, by their names. -/
theorem facts (a b c : Nat) (ha : a < 256) (hb : b < 256) (hc : c < 256) : ∃ p q r s t u v : Nat, p < 256 ∧ v < 256 ∧ u < 256 ∧ gm a b = p ∧ gm b a = p ∧ gm p c = q ∧ gm b c = r ∧ gm a r = q ∧ b ^^^ c = s ∧ gm a s = t ∧ gm a c = u ∧ p ^^^ u = t ∧ gm a 1 = a ∧ ginv a = v ∧ (p = 0 ↔ a = 0 ∨ b = 0) ∧ (a = 0 → v = 0) ∧ (a ≠ 0 → gm a v = 1) ∧ r < 256 ∧ s < 256 :=
  ⟨gm a b, gm (gm a b) c, gm b c, b ^^^ c, gm a (b ^^^ c), gm a c, ginv a, gm_lt _ _, ginv_lt _, gm_lt _ _, rfl, gm_comm b a hb ha, rfl, rfl, (gm_assoc a b c ha hb hc).symm, rfl, rfl, rfl, (gm_dist a b c).symm, gm_one a ha, rfl, gm_nought a b ha hb, (fun h => by rw [h]; exact ginv_zero), (fun h => gm_inv a ha h), gm_lt _ _, xor_lt8 hb hc⟩
theorem beq_of (n : Nat) : (((n : Int) == 0) = true ∧ ((n : Int) != 0) = false ∧ n = 0) ∨ (((n : Int) == 0) = false ∧ ((n : Int) != 0) = true ∧ n ≠ 0) := by
  by_cases h : n = 0
  · left; subst h; exact ⟨rfl, rfl, rfl⟩
  · right
    refine ⟨?_, ?_, h⟩
    · rw [beq_eq_false_iff_ne]; omega
    · rw [bne_iff_ne]; omega

set_option maxHeartbeats 1600000 in
theorem walk_any (a b c : Nat) (ha : a < 256) (hb : b < 256) (hc : c < 256) (w : World) :
    Calls Try.prog 6 #[.int .u8 a, .int .u8 b, .int .u8 c] w fun e w' => e = .returned (.bool true) ∧ Below w.heap.size w w' := by
  obtain ⟨p, q, r, s, t, u, v, lp, lv, lu, h1, h2, h3, h4, h5, h6, h7, h8, h9, h10, h11, h12, h13, h14, lr, ls⟩ := facts a b c ha hb hc
  have f0 : ∀ w, Calls Try.prog 8 #[.int .u8 2, .int .u8 128] w fun e w' => e = .returned (.int .u8 27) ∧ w' = w := by have h := mul_good 2 128 (by decide) (by decide); rw [two_top] at h; exact h
  have f1 : ∀ w, Calls Try.prog 8 #[.int .u8 a, .int .u8 b] w fun e w' => e = .returned (.int .u8 p) ∧ w' = w := by have h := mul_good a b ha hb; rw [h1] at h; exact h
  have f2 : ∀ w, Calls Try.prog 8 #[.int .u8 b, .int .u8 a] w fun e w' => e = .returned (.int .u8 p) ∧ w' = w := by have h := mul_good b a hb ha; rw [h2] at h; exact h
  have f3 : ∀ w, Calls Try.prog 8 #[.int .u8 p, .int .u8 c] w fun e w' => e = .returned (.int .u8 q) ∧ w' = w := by have h := mul_good p c lp hc; rw [h3] at h; exact h
  have f4 : ∀ w, Calls Try.prog 8 #[.int .u8 b, .int .u8 c] w fun e w' => e = .returned (.int .u8 r) ∧ w' = w := by have h := mul_good b c hb hc; rw [h4] at h; exact h
  have f5 : ∀ w, Calls Try.prog 8 #[.int .u8 a, .int .u8 r] w fun e w' => e = .returned (.int .u8 q) ∧ w' = w := by have h := mul_good a r ha lr; rw [h5] at h; exact h
  have f6 : ∀ w, Calls Try.prog 8 #[.int .u8 a, .int .u8 s] w fun e w' => e = .returned (.int .u8 t) ∧ w' = w := by have h := mul_good a s ha ls; rw [h7] at h; exact h
  have f7 : ∀ w, Calls Try.prog 8 #[.int .u8 a, .int .u8 c] w fun e w' => e = .returned (.int .u8 u) ∧ w' = w := by have h := mul_good a c ha hc; rw [h8] at h; exact h
  have f8 : ∀ w, Calls Try.prog 8 #[.int .u8 a, .int .u8 1] w fun e w' => e = .returned (.int .u8 a) ∧ w' = w := by have h := mul_good a 1 ha (by decide); rw [h10] at h; exact h
  have e1 := xor8 b c hb hc
  have e2 := xor8 p u lp lu
  rw [h6] at e1
  rw [h9] at e2
  have g1 : ∀ w, Calls Try.prog 10 #[.int .u8 a] w fun e w' => e = .returned (.int .u8 v) ∧ w' = w := by have h := inv_good a ha; rw [h11] at h; exact h
  have f9 : Hid (a ≠ 0 → ∀ w, Calls Try.prog 8 #[.int .u8 a, .int .u8 v] w fun e w' => e = .returned (.int .u8 1) ∧ w' = w) := fun h0 => by have h := mul_good a v ha lv; rw [h14 h0] at h; exact h
  have H12 : Hid (p = 0 ↔ a = 0 ∨ b = 0) := h12
  have H13 : Hid (a = 0 → v = 0) := h13
  clear h1 h2 h3 h4 h5 h6 h7 h8 h9 h10 h11 h12 h13 h14 lr ls lp lu
  rcases beq_of a with ⟨a1, a2, a3⟩ | ⟨a1, a2, a3⟩
  · have A : Hid (a = 0) := a3
    have p1 : ((p : Int) == 0) = true := by rw [H12.out.2 (.inl A.out)]; rfl
    have v1 : ((v : Int) == 0) = true := by rw [H13.out A.out]; rfl
    clear a3
    go_enter Try.func6, Try.ntmps6
    go_wp2_with (first
      | (go_at_call 8; first
        | (with_reducible refine (f0 _).mono ?_; rintro e w1 ⟨rfl, rfl⟩)
        | (with_reducible refine (f1 _).mono ?_; rintro e w1 ⟨rfl, rfl⟩)
        | (with_reducible refine (f2 _).mono ?_; rintro e w1 ⟨rfl, rfl⟩)
        | (with_reducible refine (f3 _).mono ?_; rintro e w1 ⟨rfl, rfl⟩)
        | (with_reducible refine (f4 _).mono ?_; rintro e w1 ⟨rfl, rfl⟩)
        | (with_reducible refine (f5 _).mono ?_; rintro e w1 ⟨rfl, rfl⟩)
        | (with_reducible refine (f6 _).mono ?_; rintro e w1 ⟨rfl, rfl⟩)
        | (with_reducible refine (f7 _).mono ?_; rintro e w1 ⟨rfl, rfl⟩)
        | (with_reducible refine (f8 _).mono ?_; rintro e w1 ⟨rfl, rfl⟩))
      | (go_at_call 10; refine (g1 _).mono ?_; rintro e w1 ⟨rfl, rfl⟩))
    go_ret
    exact ⟨rfl, Below.refl _ _⟩
  · have f9' := f9.out a3
    rcases beq_of b with ⟨b1, b2, b3⟩ | ⟨b1, b2, b3⟩
    · have p1 : ((p : Int) == 0) = true := by rw [H12.out.2 (.inr b3)]; rfl
      clear a3 b3
      go_enter Try.func6, Try.ntmps6
      go_wp2_with (first
        | (go_at_call 8; first
          | (with_reducible refine (f0 _).mono ?_; rintro e w1 ⟨rfl, rfl⟩)
          | (with_reducible refine (f1 _).mono ?_; rintro e w1 ⟨rfl, rfl⟩)
          | (with_reducible refine (f2 _).mono ?_; rintro e w1 ⟨rfl, rfl⟩)
          | (with_reducible refine (f3 _).mono ?_; rintro e w1 ⟨rfl, rfl⟩)
          | (with_reducible refine (f4 _).mono ?_; rintro e w1 ⟨rfl, rfl⟩)
          | (with_reducible refine (f5 _).mono ?_; rintro e w1 ⟨rfl, rfl⟩)
          | (with_reducible refine (f6 _).mono ?_; rintro e w1 ⟨rfl, rfl⟩)
          | (with_reducible refine (f7 _).mono ?_; rintro e w1 ⟨rfl, rfl⟩)
          | (with_reducible refine (f8 _).mono ?_; rintro e w1 ⟨rfl, rfl⟩)
          | (with_reducible refine (f9' _).mono ?_; rintro e w1 ⟨rfl, rfl⟩))
        | (go_at_call 10; refine (g1 _).mono ?_; rintro e w1 ⟨rfl, rfl⟩))
      go_ret
      exact ⟨rfl, Below.refl _ _⟩
    · have p1 : ((p : Int) == 0) = false := by
        rw [beq_eq_false_iff_ne]
        intro h
        rcases H12.out.1 (by omega) with h | h
        · exact a3 h
        · exact b3 h
      clear a3 b3
      go_enter Try.func6, Try.ntmps6
      go_wp2_with (first
        | (go_at_call 8; first
          | (with_reducible refine (f0 _).mono ?_; rintro e w1 ⟨rfl, rfl⟩)
          | (with_reducible refine (f1 _).mono ?_; rintro e w1 ⟨rfl, rfl⟩)
          | (with_reducible refine (f2 _).mono ?_; rintro e w1 ⟨rfl, rfl⟩)
          | (with_reducible refine (f3 _).mono ?_; rintro e w1 ⟨rfl, rfl⟩)
          | (with_reducible refine (f4 _).mono ?_; rintro e w1 ⟨rfl, rfl⟩)
          | (with_reducible refine (f5 _).mono ?_; rintro e w1 ⟨rfl, rfl⟩)
          | (with_reducible refine (f6 _).mono ?_; rintro e w1 ⟨rfl, rfl⟩)
          | (with_reducible refine (f7 _).mono ?_; rintro e w1 ⟨rfl, rfl⟩)
          | (with_reducible refine (f8 _).mono ?_; rintro e w1 ⟨rfl, rfl⟩)
          | (with_reducible refine (f9' _).mono ?_; rintro e w1 ⟨rfl, rfl⟩))
        | (go_at_call 10; refine (g1 _).mono ?_; rintro e w1 ⟨rfl, rfl⟩))
      go_ret
      exact ⟨rfl, Below.refl _ _⟩
theorem walk (a : Int) (ha : (Lit.int .u8 a).wf = true) (b : Int) (hb : (Lit.int .u8 b).wf = true) (c : Int) (hc : (Lit.int .u8 c).wf = true) (w : World) :
    Calls Try.prog 6 #[.int .u8 a, .int .u8 b, .int .u8 c] w fun e w' => e = .returned (.bool true) ∧ Below w.heap.size w w' := by
  obtain ⟨h0, h1⟩ := u8_bd ha
  obtain ⟨h2, h3⟩ := u8_bd hb
  obtain ⟨h4, h5⟩ := u8_bd hc
  obtain ⟨x, rfl⟩ : ∃ k : Nat, a = (k : Int) := ⟨a.toNat, by omega⟩
  obtain ⟨y, rfl⟩ : ∃ k : Nat, b = (k : Int) := ⟨b.toNat, by omega⟩
  obtain ⟨z, rfl⟩ : ∃ k : Nat, c = (k : Int) := ⟨c.toNat, by omega⟩
  exact walk_any x y z (by omega) (by omega) (by omega) w

/-! ### The row's step -/
set_option maxRecDepth 100000 in
theorem lifted (os : Os) (started : os.Started) (H : Type) (enc : TypeId × Value → H) :
    ReturnsInHanded {} Try.checked os 6 .any (Rows.galoisFieldSpec.pre6 enc Try.prog Try.f6 Rows.galoisFieldRow.domain false) (Rows.galoisFieldSpec.post enc Try.prog Try.f6 false true false false) := by
  refine returnsInHanded_of_change (C := Try.checked) own started (by kernel_rfl) Try.func6
    (ChangeSpec.witness6 (enc := enc) (C := Try.checked) false ⟨#[], #[.int .u8 0, .int .u8 0, .int .u8 0], []⟩ 8 (by kernel_rfl) (by kernel_rfl) (by kernel_rfl) (by kernel_rfl)) ?_
  intro W base args ds gs before hval0 hW _ _
  have hval : ∀ (j : Nat) t v, Try.f6.params[j]? = some t → args[j]? = some v → Value.okWide Try.prog W .any base t v := hval0
  have hW' := hW
  obtain ⟨p, q, hA0, hV, rfl, hfz, hnd⟩ := hW
  have hA : DataW.TrodAll enc Try.prog W 0 (fun _ => true) true Try.f6.params.toList args.toList ds p := hA0
  rw [Try.params6] at hA hval
  obtain ⟨v0, vs0, d0, ds0, p0, q0, hargs, rfl, rfl, h0, r0⟩ := trodAll_cons hA
  obtain ⟨v1, vs1, d1, ds1, p1, q1, rfl, rfl, rfl, h1, r1⟩ := trodAll_cons r0
  obtain ⟨v2, vs2, d2, ds2, p2, q2, rfl, rfl, rfl, h2, r2⟩ := trodAll_cons r1
  obtain ⟨rfl, rfl, rfl⟩ := trodAll_nil r2
  obtain rfl : args = #[v0, v1, v2] := by cases args; simp_all
  obtain ⟨rfl, rfl⟩ := trodVars_none hV
  obtain ⟨s0, rfl, rfl, rfl, m0⟩ := open_int Try.underlying5 (hval 0 5 v0 rfl rfl) h0
  obtain ⟨s1, rfl, rfl, rfl, m1⟩ := open_int Try.underlying5 (hval 1 5 v1 rfl rfl) h1
  obtain ⟨s2, rfl, rfl, rfl, m2⟩ := open_int Try.underlying5 (hval 2 5 v2 rfl rfl) h2
  clear hA0 hval0
  simp only [List.append_nil] at hW'
  refine (walk s0 m0 s1 m1 s2 m2 W).mono fun e W' ⟨he, hg⟩ => ?_
  subst he
  exact ⟨_, rfl, _, _, _, [], [], [], hW', trodAll_cons_mk (shut_bool Try.underlying4 _) trodAll_mk0, (trodAll_cons_mk (shut_int Try.underlying5 m0) (trodAll_cons_mk (shut_int Try.underlying5 m1) (trodAll_cons_mk (shut_int Try.underlying5 m2) trodAll_mk0))), rfl, hg.frame _, fun h => by cases h⟩

/-- THE STATEMENT. -/
theorem proved : Rows.GaloisFieldSaid :=
  OpenClaim.holds_of_wide 6 Try.f6 rfl rfl rfl rfl rfl rfl rfl ⟨rfl, rfl, rfl, rfl, rfl⟩ rfl rfl rfl rfl rfl (by kernel_rfl) Try.func6 (by kernel_rfl)
    (of_decide_eq_true (by kernel_rfl)) (by unfold Func.isWrapper; first | (rw [if_pos (by decide +kernel)]; kernel_rfl) | (rw [if_neg (by decide +kernel)]; exact ⟨rfl, rfl⟩))
    (fun os started H enc _ => lifted os started H enc)
end Go.Proofs.Ytjgfldealnapnaa.galoisField
