/-
  GaloisBack: whatever two bytes are handed in, the call returns true: each byte stands for just one, never for itself, nor for what it is not in any bit.
-/
import Derived.Test.YtjgfldealnapnaaFrame
import Derived.Test.YtjgfldealnapnaaGaloisSub
namespace Go.Proofs.Ytjgfldealnapnaa.galoisBack
open Go.ChangeShapes Go.WideShapes Go.ChangeAt Go.RowKit
open gal

theorem not8 (a : Nat) (ha : a < 256) : bits .xor .u8 IntKind.u8.max (a : Int) = ((255 - a : Nat) : Int) := by
  have : ∀ n : Fin 256, bits .xor .u8 IntKind.u8.max ((n.val : Nat) : Int) = ((255 - n.val : Nat) : Int) := by decide +kernel
  exact this ⟨a, ha⟩
theorem facts (a b : Nat) (ha : a < 256) (hb : b < 256) : ∃ s r t : Nat, gsub a = s ∧ gback s = a ∧ gback a = r ∧ gsub r = a ∧ gsub b = t ∧ s ≠ a ∧ s ≠ 255 - a ∧ (s = t ↔ a = b) ∧ s < 256 ∧ r < 256 ∧ t < 256 :=
  ⟨gsub a, gback a, gsub b, rfl, back_sub a ha, rfl, sub_back a ha, rfl, (box a ha).2.2.1, (box a ha).2.2.2, ⟨gsub_inj a b ha hb, fun h => by rw [h]⟩, gsub_lt a, gback_lt a, gsub_lt b⟩

set_option maxHeartbeats 1600000 in
theorem walk_any (a b : Nat) (ha : a < 256) (hb : b < 256) (w : World) :
    Calls Try.prog 7 #[.int .u8 a, .int .u8 b] w fun e w' => e = .returned (.bool true) ∧ Below w.heap.size w w' := by
  obtain ⟨s, r, t, h1, h2, h3, h4, h5, h6, h7, h8, ls, lr, lt⟩ := facts a b ha hb
  have f1 : ∀ w, Calls Try.prog 12 #[.int .u8 a] w fun e w' => e = .returned (.int .u8 s) ∧ w' = w := by have h := sub_good a ha; rw [h1] at h; exact h
  have f2 : ∀ w, Calls Try.prog 12 #[.int .u8 r] w fun e w' => e = .returned (.int .u8 a) ∧ w' = w := by have h := sub_good r lr; rw [h4] at h; exact h
  have f3 : ∀ w, Calls Try.prog 12 #[.int .u8 b] w fun e w' => e = .returned (.int .u8 t) ∧ w' = w := by have h := sub_good b hb; rw [h5] at h; exact h
  have g1 : ∀ w, Calls Try.prog 14 #[.int .u8 s] w fun e w' => e = .returned (.int .u8 a) ∧ w' = w := by have h := back_good s ls; rw [h2] at h; exact h
  have g2 : ∀ w, Calls Try.prog 14 #[.int .u8 a] w fun e w' => e = .returned (.int .u8 r) ∧ w' = w := by have h := back_good a ha; rw [h3] at h; exact h
  have n1 : ((s : Int) != (a : Int)) = true := by rw [bne_iff_ne]; omega
  obtain ⟨z, hz⟩ : ∃ z, z = 255 - a := ⟨_, rfl⟩
  have n2 : ((s : Int) != (z : Int)) = true := by rw [bne_iff_ne]; omega
  have nx : bits .xor .u8 IntKind.u8.max (a : Int) = (z : Int) := by rw [hz]; exact not8 a ha
  have ns : IntKind.u8.signed = false := rfl
  clear hz
  have H8 : Hid (s = t ↔ a = b) := h8
  clear h1 h2 h3 h4 h5 h6 h7 h8 ls lr lt
  by_cases h : a = b
  · have q1 : ((a : Int) == (b : Int)) = true := by rw [h]; exact beq_self_eq_true _
    have q2 : ((s : Int) == (t : Int)) = true := by rw [H8.out.2 h]; exact beq_self_eq_true _
    clear h
    go_enter Try.func7, Try.ntmps7
    go_wp2_with (first
      | (go_at_call 12; first
        | (with_reducible refine (f1 _).mono ?_; rintro e w1 ⟨rfl, rfl⟩)
        | (with_reducible refine (f2 _).mono ?_; rintro e w1 ⟨rfl, rfl⟩)
        | (with_reducible refine (f3 _).mono ?_; rintro e w1 ⟨rfl, rfl⟩))
      | (go_at_call 14; first
        | (with_reducible refine (g1 _).mono ?_; rintro e w1 ⟨rfl, rfl⟩)
        | (with_reducible refine (g2 _).mono ?_; rintro e w1 ⟨rfl, rfl⟩)))
    go_ret
    exact ⟨rfl, Below.refl _ _⟩
  · have q1 : ((a : Int) == (b : Int)) = false := by rw [beq_eq_false_iff_ne]; omega
    have q2 : ((s : Int) == (t : Int)) = false := by rw [beq_eq_false_iff_ne]; intro e; exact h (H8.out.1 (by omega))
    clear h
    go_enter Try.func7, Try.ntmps7
    go_wp2_with (first
      | (go_at_call 12; first
        | (with_reducible refine (f1 _).mono ?_; rintro e w1 ⟨rfl, rfl⟩)
        | (with_reducible refine (f2 _).mono ?_; rintro e w1 ⟨rfl, rfl⟩)
        | (with_reducible refine (f3 _).mono ?_; rintro e w1 ⟨rfl, rfl⟩))
      | (go_at_call 14; first
        | (with_reducible refine (g1 _).mono ?_; rintro e w1 ⟨rfl, rfl⟩)
        | (with_reducible refine (g2 _).mono ?_; rintro e w1 ⟨rfl, rfl⟩)))
    go_ret
    exact ⟨rfl, Below.refl _ _⟩
theorem walk (a : Int) (ha : (Lit.int .u8 a).wf = true) (b : Int) (hb : (Lit.int .u8 b).wf = true) (w : World) :
    Calls Try.prog 7 #[.int .u8 a, .int .u8 b] w fun e w' => e = .returned (.bool true) ∧ Below w.heap.size w w' := by
  obtain ⟨h0, h1⟩ := u8_bd ha
  obtain ⟨h2, h3⟩ := u8_bd hb
  obtain ⟨x, rfl⟩ : ∃ k : Nat, a = (k : Int) := ⟨a.toNat, by omega⟩
  obtain ⟨y, rfl⟩ : ∃ k : Nat, b = (k : Int) := ⟨b.toNat, by omega⟩
  exact walk_any x y (by omega) (by omega) w

/-! ### The row's step -/
set_option maxRecDepth 100000 in
theorem lifted (os : Os) (started : os.Started) (H : Type) (enc : TypeId × Value → H) :
    ReturnsInHanded {} Try.checked os 7 .any (Rows.galoisBackSpec.pre6 enc Try.prog Try.f7 Rows.galoisBackRow.domain false) (Rows.galoisBackSpec.post enc Try.prog Try.f7 false true false false) := by
  refine returnsInHanded_of_change (C := Try.checked) own started (by kernel_rfl) Try.func7
    (ChangeSpec.witness6 (enc := enc) (C := Try.checked) false ⟨#[], #[.int .u8 0, .int .u8 0], []⟩ 8 (by kernel_rfl) (by kernel_rfl) (by kernel_rfl) (by kernel_rfl)) ?_
  intro W base args ds gs before hval0 hW _ _
  have hval : ∀ (j : Nat) t v, Try.f7.params[j]? = some t → args[j]? = some v → Value.okWide Try.prog W .any base t v := hval0
  have hW' := hW
  obtain ⟨p, q, hA0, hV, rfl, hfz, hnd⟩ := hW
  have hA : DataW.TrodAll enc Try.prog W 0 (fun _ => true) true Try.f7.params.toList args.toList ds p := hA0
  rw [Try.params7] at hA hval
  obtain ⟨v0, vs0, d0, ds0, p0, q0, hargs, rfl, rfl, h0, r0⟩ := trodAll_cons hA
  obtain ⟨v1, vs1, d1, ds1, p1, q1, rfl, rfl, rfl, h1, r1⟩ := trodAll_cons r0
  obtain ⟨rfl, rfl, rfl⟩ := trodAll_nil r1
  obtain rfl : args = #[v0, v1] := by cases args; simp_all
  obtain ⟨rfl, rfl⟩ := trodVars_none hV
  obtain ⟨s0, rfl, rfl, rfl, m0⟩ := open_int Try.underlying5 (hval 0 5 v0 rfl rfl) h0
  obtain ⟨s1, rfl, rfl, rfl, m1⟩ := open_int Try.underlying5 (hval 1 5 v1 rfl rfl) h1
  clear hA0 hval0
  simp only [List.append_nil] at hW'
  refine (walk s0 m0 s1 m1 W).mono fun e W' ⟨he, hg⟩ => ?_
  subst he
  exact ⟨_, rfl, _, _, _, [], [], [], hW', trodAll_cons_mk (shut_bool Try.underlying4 _) trodAll_mk0, (trodAll_cons_mk (shut_int Try.underlying5 m0) (trodAll_cons_mk (shut_int Try.underlying5 m1) trodAll_mk0)), rfl, hg.frame _, fun h => by cases h⟩

/-- THE STATEMENT. -/
theorem proved : Rows.GaloisBackSaid :=
  OpenClaim.holds_of_wide 7 Try.f7 rfl rfl rfl rfl rfl rfl rfl ⟨rfl, rfl, rfl, rfl, rfl⟩ rfl rfl rfl rfl rfl (by kernel_rfl) Try.func7 (by kernel_rfl)
    (of_decide_eq_true (by kernel_rfl)) (by unfold Func.isWrapper; first | (rw [if_pos (by decide +kernel)]; kernel_rfl) | (rw [if_neg (by decide +kernel)]; exact ⟨rfl, rfl⟩))
    (fun os started H enc _ => lifted os started H enc)
end Go.Proofs.Ytjgfldealnapnaa.galoisBack
