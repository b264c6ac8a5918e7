/-
  GhashField: whatever three texts are handed in, the call returns true.
-/
import Derived.Test.YtkeeeohlkoefjaaFrame
import Derived.Test.YtkeeeohlkoefjaaKeepGhash
namespace Go.Proofs.Ytkeeeohlkoefjaa.ghashField
open Go.ChangeShapes Go.WideShapes Go.ChangeAt Go.RowKit
open Go.ChangeMaps (open_string shut_string)
open ghs

theorem bn_one : bn (sz ⟨#[128]⟩ 16) = one := by decide +kernel
theorem size_one : (⟨#[128]⟩ : ByteArray).size = 1 := rfl

set_option maxHeartbeats 3200000 in
theorem walk (a : ByteArray) (ha : a.size ≤ maxLen) (b : ByteArray) (hb : b.size ≤ maxLen) (c : ByteArray) (hc : c.size ≤ maxLen) (w : World) :
    Calls Try.prog 5 #[.string a, .string b, .string c] w fun e w' => e = .returned (.bool true) ∧ Below w.heap.size w w' := by
  have g1 : ∀ W, Calls Try.prog 12 #[.string a, .int .i64 16] W fun e w' => e = .returned (.string (sz a 16)) ∧ Below W.heap.size W w' := sized_any a 16 ha (by decide)
  have g2 : ∀ W, Calls Try.prog 12 #[.string b, .int .i64 16] W fun e w' => e = .returned (.string (sz b 16)) ∧ Below W.heap.size W w' := sized_any b 16 hb (by decide)
  have g3 : ∀ W, Calls Try.prog 12 #[.string c, .int .i64 16] W fun e w' => e = .returned (.string (sz c 16)) ∧ Below W.heap.size W w' := sized_any c 16 hc (by decide)
  have g4 : ∀ W, Calls Try.prog 12 #[.string ⟨#[128]⟩, .int .i64 16] W fun e w' => e = .returned (.string (sz ⟨#[128]⟩ 16)) ∧ Below W.heap.size W w' := sized_any ⟨#[128]⟩ 16 (by rw [size_one]; decide) (by decide)
  have s1 := sz_size a 16
  have s2 := sz_size b 16
  have s3 := sz_size c 16
  have s4 := sz_size ⟨#[128]⟩ 16
  have n4 := bn_one
  generalize sz a 16 = A at *
  generalize sz b 16 = B at *
  generalize sz c 16 = C at *
  generalize sz ⟨#[128]⟩ 16 = O at *
  clear ha hb hc
  have lA := bn_lt A
  have lB := bn_lt B
  have lC := bn_lt C
  have f1 := times_good A B s1 s2
  have f2 := times_good B A s2 s1
  rw [gm_comm lB lA] at f2
  have f3 := times_good (bt (gm (bn A) (bn B))) C (bt_size _) s3
  rw [bn_bt (gm_lt _ lB), gm_assoc lA lB lC] at f3
  have f4 := times_good B C s2 s3
  have f5 := times_good A (bt (gm (bn B) (bn C))) s1 (bt_size _)
  rw [bn_bt (gm_lt _ lC)] at f5
  have f6 := xored_any B C 16 s2 s3 (by decide)
  have f7 := times_good A (xo B C) s1 (by rw [xo_size, s2])
  rw [bn_xo (by rw [s2, s3]), gm_dist] at f7
  have f8 := times_good A C s1 s3
  have f9 := xored_any (bt (gm (bn A) (bn B))) (bt (gm (bn A) (bn C))) 16 (bt_size _) (bt_size _) (by decide)
  rw [xo_bt] at f9
  have f10 := times_good A O s1 s4
  rw [n4, gm_one lA, bt_bn s1] at f10
  generalize bt (gm (bn A) (bn B) ^^^ gm (bn A) (bn C)) = T1 at *
  generalize bt (gm (bn A) (gm (bn B) (bn C))) = T2 at *
  generalize bt (gm (bn A) (bn B)) = T3 at *
  generalize bt (gm (bn A) (bn C)) = T4 at *
  generalize bt (gm (bn B) (bn C)) = T5 at *
  generalize xo B C = T6 at *
  clear s1 s2 s3 s4 n4 lA lB lC
  have hX := Below.refl w.heap.size w
  go_enter Try.func5, Try.ntmps5
  go_wp2_with (first
    | (go_at_call 12; first
      | (with_reducible refine (g1 _).mono ?_; rintro e w1 ⟨rfl, hq⟩; replace hX := hX.trans (hq.mono hX.size); clear hq)
      | (with_reducible refine (g2 _).mono ?_; rintro e w1 ⟨rfl, hq⟩; replace hX := hX.trans (hq.mono hX.size); clear hq)
      | (with_reducible refine (g3 _).mono ?_; rintro e w1 ⟨rfl, hq⟩; replace hX := hX.trans (hq.mono hX.size); clear hq)
      | (with_reducible refine (g4 _).mono ?_; rintro e w1 ⟨rfl, hq⟩; replace hX := hX.trans (hq.mono hX.size); clear hq))
    | (go_at_call 13; first
      | (with_reducible refine (f1 _).mono ?_; rintro e w1 ⟨rfl, hq⟩; replace hX := hX.trans (hq.mono hX.size); clear hq)
      | (with_reducible refine (f2 _).mono ?_; rintro e w1 ⟨rfl, hq⟩; replace hX := hX.trans (hq.mono hX.size); clear hq)
      | (with_reducible refine (f3 _).mono ?_; rintro e w1 ⟨rfl, hq⟩; replace hX := hX.trans (hq.mono hX.size); clear hq)
      | (with_reducible refine (f4 _).mono ?_; rintro e w1 ⟨rfl, hq⟩; replace hX := hX.trans (hq.mono hX.size); clear hq)
      | (with_reducible refine (f5 _).mono ?_; rintro e w1 ⟨rfl, hq⟩; replace hX := hX.trans (hq.mono hX.size); clear hq)
      | (with_reducible refine (f7 _).mono ?_; rintro e w1 ⟨rfl, hq⟩; replace hX := hX.trans (hq.mono hX.size); clear hq)
      | (with_reducible refine (f8 _).mono ?_; rintro e w1 ⟨rfl, hq⟩; replace hX := hX.trans (hq.mono hX.size); clear hq)
      | (with_reducible refine (f10 _).mono ?_; rintro e w1 ⟨rfl, hq⟩; replace hX := hX.trans (hq.mono hX.size); clear hq))
    | (go_at_call 14; first
      | (with_reducible refine (f6 _).mono ?_; rintro e w1 ⟨rfl, hq⟩; replace hX := hX.trans (hq.mono hX.size); clear hq)
      | (with_reducible refine (f9 _).mono ?_; rintro e w1 ⟨rfl, hq⟩; replace hX := hX.trans (hq.mono hX.size); clear hq)))
  go_ret
  exact ⟨rfl, hX⟩
/-! ### The row's step -/
set_option maxRecDepth 100000 in
theorem lifted (os : Os) (started : os.Started) (H : Type) (enc : TypeId × Value → H) :
    ReturnsInHanded {} Try.checked os 5 .any (Rows.ghashFieldSpec.pre6 enc Try.prog Try.f5 Rows.ghashFieldRow.domain false) (Rows.ghashFieldSpec.post enc Try.prog Try.f5 false true false false) := by
  refine returnsInHanded_of_change (C := Try.checked) own started (by kernel_rfl) Try.func5
    (ChangeSpec.witness6 (enc := enc) (C := Try.checked) false ⟨#[], #[.string .empty, .string .empty, .string .empty], []⟩ 8 (by kernel_rfl) (by kernel_rfl) (by kernel_rfl) (by kernel_rfl)) ?_
  intro W base args ds gs before hval0 hW _ _
  have hval : ∀ (j : Nat) t v, Try.f5.params[j]? = some t → args[j]? = some v → Value.okWide Try.prog W .any base t v := hval0
  have hW' := hW
  obtain ⟨p, q, hA0, hV, rfl, hfz, hnd⟩ := hW
  have hA : DataW.TrodAll enc Try.prog W 0 (fun _ => true) true Try.f5.params.toList args.toList ds p := hA0
  rw [Try.params5] at hA hval
  obtain ⟨v0, vs0, d0, ds0, p0, q0, hargs, rfl, rfl, h0, r0⟩ := trodAll_cons hA
  obtain ⟨v1, vs1, d1, ds1, p1, q1, rfl, rfl, rfl, h1, r1⟩ := trodAll_cons r0
  obtain ⟨v2, vs2, d2, ds2, p2, q2, rfl, rfl, rfl, h2, r2⟩ := trodAll_cons r1
  obtain ⟨rfl, rfl, rfl⟩ := trodAll_nil r2
  obtain rfl : args = #[v0, v1, v2] := by cases args; simp_all
  obtain ⟨rfl, rfl⟩ := trodVars_none hV
  obtain ⟨s0, rfl, rfl, rfl, m0⟩ := open_string Try.underlying9 (hval 0 9 v0 rfl rfl) h0
  obtain ⟨s1, rfl, rfl, rfl, m1⟩ := open_string Try.underlying9 (hval 1 9 v1 rfl rfl) h1
  obtain ⟨s2, rfl, rfl, rfl, m2⟩ := open_string Try.underlying9 (hval 2 9 v2 rfl rfl) h2
  clear hA0 hval0
  simp only [List.append_nil] at hW'
  refine (walk s0 m0 s1 m1 s2 m2 W).mono fun e W' ⟨he, hg⟩ => ?_
  subst he
  exact ⟨_, rfl, _, _, _, [], [], [], hW', trodAll_cons_mk (shut_bool Try.underlying4 _) trodAll_mk0, (trodAll_cons_mk (shut_string Try.underlying9 m0) (trodAll_cons_mk (shut_string Try.underlying9 m1) (trodAll_cons_mk (shut_string Try.underlying9 m2) trodAll_mk0))), rfl, hg.frame _, fun h => by cases h⟩

/-- THE STATEMENT. -/
theorem proved : Rows.GhashFieldSaid :=
  OpenClaim.holds_of_wide 5 Try.f5 rfl rfl rfl rfl rfl rfl rfl ⟨rfl, rfl, rfl, rfl, rfl⟩ rfl rfl rfl rfl rfl (by kernel_rfl) Try.func5 (by kernel_rfl)
    (of_decide_eq_true (by kernel_rfl)) (by unfold Func.isWrapper; first | (rw [if_pos (by decide +kernel)]; kernel_rfl) | (rw [if_neg (by decide +kernel)]; exact ⟨rfl, rfl⟩))
    (fun os started H enc _ => lifted os started H enc)
end Go.Proofs.Ytkeeeohlkoefjaa.ghashField
