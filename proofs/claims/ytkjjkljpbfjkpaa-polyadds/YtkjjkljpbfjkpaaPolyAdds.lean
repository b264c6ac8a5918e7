/-
  PolyAdds: whatever key, second half and text are handed in, the call returns true: what the key's second half says is added to the tag, and no more.
-/
import Derived.Test.YtkjjkljpbfjkpaaFrame
import Derived.Test.YtkjjkljpbfjkpaaPolyTag
import Derived.Test.YtkjjkljpbfjkpaaKeepPoly
namespace Go.Proofs.Ytkjjkljpbfjkpaa.polyAdds
open Go.ChangeShapes Go.WideShapes Go.ChangeAt Go.RowKit
open Go.ChangeMaps (open_string shut_string)
open pol
open Go.Proofs.Ytkjjkljpbfjkpaa.u64

set_option maxRecDepth 100000 in
set_option maxHeartbeats 1600000 in
theorem walk_sized (key n s k' n' A B : ByteArray) (hk : k'.size = 16) (hn : n'.size = 16) (hA : A.size = 16) (hB : B.size = 16) (x y p q u v : Nat)
    (S1 : ∀ w, Calls Try.prog 9 #[.string key, .int .i64 16] w fun e w' => e = .returned (.string k') ∧ Below w.heap.size w w')
    (S2 : ∀ w, Calls Try.prog 9 #[.string n, .int .i64 16] w fun e w' => e = .returned (.string n') ∧ Below w.heap.size w w')
    (Z1 : ∀ w, Calls Try.prog 10 #[.int .i64 16] w fun e w' => e = .returned (.string (noughts 16)) ∧ Below w.heap.size w w')
    (T1 : ∀ w, Calls Try.prog 7 #[.string (k' ++ n'), .string s] w fun e w' => e = .returned (.tuple #[.string A, .int .i64 0]) ∧ Below w.heap.size w w')
    (T2 : ∀ w, Calls Try.prog 7 #[.string (k' ++ noughts 16), .string s] w fun e w' => e = .returned (.tuple #[.string B, .int .i64 0]) ∧ Below w.heap.size w w')
    (N1 : ∀ w, Calls Try.prog 11 #[.string A] w fun e w' => e = .returned (.tuple #[.int .u64 x, .int .u64 y]) ∧ w' = w)
    (N2 : ∀ w, Calls Try.prog 11 #[.string B] w fun e w' => e = .returned (.tuple #[.int .u64 p, .int .u64 q]) ∧ w' = w)
    (N3 : ∀ w, Calls Try.prog 11 #[.string n'] w fun e w' => e = .returned (.tuple #[.int .u64 u, .int .u64 v]) ∧ w' = w)
    (e1 : IntKind.u64.wrap ((p : Int) + (u : Int)) = (x : Int)) (qv : Nat) (e2 : IntKind.u64.wrap ((q : Int) + (v : Int)) = (qv : Int))
    (e3 : (x < p ∧ IntKind.u64.wrap ((qv : Int) + 1) = (y : Int)) ∨ (¬ x < p ∧ qv = y)) (w : World) :
    Calls Try.prog 4 #[.string key, .string n, .string s] w fun e w' => e = .returned (.bool true) ∧ Below w.heap.size w w' := by
  have hX : Below w.heap.size w w := Below.refl _ _
  have hz : (noughts 16).size = 16 := noughts_size 16
  generalize noughts 16 = Z at *
  have a1 : (A.size : Int) = 16 := by omega
  have a2 : (B.size : Int) = 16 := by omega
  have g1 : (k'.size : Int) = 16 := by omega
  have g2 : (n'.size : Int) = 16 := by omega
  have g3 : (Z.size : Int) = 16 := by omega
  obtain ⟨C1, hC1⟩ : ∃ C1, k' ++ n' = C1 := ⟨_, rfl⟩
  obtain ⟨C2, hC2⟩ : ∃ C2, k' ++ Z = C2 := ⟨_, rfl⟩
  rw [hC1] at T1
  rw [hC2] at T2
  rcases e3 with ⟨c, e4⟩ | ⟨c, rfl⟩
  · have c1 : (x : Int) < (p : Int) := by omega
    clear c
    go_enter Try.func4, Try.ntmps4
    go_wp2_with (first
      | (go_at_call 9; (first | (with_reducible refine (S1 _).mono ?_) | (with_reducible refine (S2 _).mono ?_)); rintro e wq ⟨rfl, hq⟩; replace hX := hX.trans (hq.mono hX.size); clear hq)
      | (go_at_call 10; (with_reducible refine (Z1 _).mono ?_); rintro e wq ⟨rfl, hq⟩; replace hX := hX.trans (hq.mono hX.size); clear hq)
      | (go_at_call 7; (first | (with_reducible refine (T1 _).mono ?_) | (with_reducible refine (T2 _).mono ?_)); rintro e wq ⟨rfl, hq⟩; replace hX := hX.trans (hq.mono hX.size); clear hq)
      | (go_at_call 11; (first | (with_reducible refine (N1 _).mono ?_) | (with_reducible refine (N2 _).mono ?_) | (with_reducible refine (N3 _).mono ?_)); rintro e wq ⟨rfl, rfl⟩))
    go_ret
    exact ⟨rfl, hX⟩
  · have c1 : ¬ (x : Int) < (p : Int) := by omega
    have e5 : IntKind.u64.wrap (qv : Int) = (qv : Int) := by rw [← e2, wrap_u, wrap_u]; omega
    clear c
    go_enter Try.func4, Try.ntmps4
    go_wp2_with (first
      | (go_at_call 9; (first | (with_reducible refine (S1 _).mono ?_) | (with_reducible refine (S2 _).mono ?_)); rintro e wq ⟨rfl, hq⟩; replace hX := hX.trans (hq.mono hX.size); clear hq)
      | (go_at_call 10; (with_reducible refine (Z1 _).mono ?_); rintro e wq ⟨rfl, hq⟩; replace hX := hX.trans (hq.mono hX.size); clear hq)
      | (go_at_call 7; (first | (with_reducible refine (T1 _).mono ?_) | (with_reducible refine (T2 _).mono ?_)); rintro e wq ⟨rfl, hq⟩; replace hX := hX.trans (hq.mono hX.size); clear hq)
      | (go_at_call 11; (first | (with_reducible refine (N1 _).mono ?_) | (with_reducible refine (N2 _).mono ?_) | (with_reducible refine (N3 _).mono ?_)); rintro e wq ⟨rfl, rfl⟩))
    go_ret
    exact ⟨rfl, hX⟩
theorem walk (key : ByteArray) (hk : key.size ≤ maxLen) (n : ByteArray) (hn : n.size ≤ maxLen) (s : ByteArray) (_ : s.size ≤ maxLen) (w : World) :
    Calls Try.prog 4 #[.string key, .string n, .string s] w fun e w' => e = .returned (.bool true) ∧ Below w.heap.size w w' := by
  have s1 : (sz key 16).size = 16 := sz_size _ _
  have s2 : (sz n 16).size = 16 := sz_size _ _
  obtain ⟨A, hA1, hA2⟩ := tag_adds (sz key 16) (sz n 16) s s1
  have hnl := N_lt (sz n 16)
  rw [s2, show (256 : Nat) ^ 16 = 340282366920938463463374607431768211456 from by decide] at hnl
  have m1 := number_any (tag (sz key 16 ++ sz n 16) s) (tag_size _ _)
  have m2 := number_any (tag (sz key 16 ++ noughts 16) s) (tag_size _ _)
  have m3 := number_any (sz n 16) s2
  rw [hA1] at m1
  rw [hA2] at m2
  generalize N (sz n 16) = M at *
  refine walk_sized key n s (sz key 16) (sz n 16) (tag (sz key 16 ++ sz n 16) s) (tag (sz key 16 ++ noughts 16) s) s1 s2 (tag_size _ _) (tag_size _ _) _ _ _ _ _ _
    (fun w => sized_any key 16 hk (by omega) w) (fun w => sized_any n 16 hn (by omega) w) (fun w => zeros_any 16 (by omega) w)
    (Tag_good _ s (by rw [ByteArray.size_append, s1, s2])) (Tag_good _ s (by rw [ByteArray.size_append, s1, noughts_size])) m1 m2 m3
    (by rw [wrap_u]; omega) ((A % 340282366920938463463374607431768211456 / 18446744073709551616 + M / 18446744073709551616) % 18446744073709551616) (by rw [wrap_u]; omega) ?_ w
  rw [wrap_u]
  omega

/-! ### The row's step -/
set_option maxRecDepth 100000 in
theorem lifted (os : Os) (started : os.Started) (H : Type) (enc : TypeId × Value → H) :
    ReturnsInHanded {} Try.checked os 4 .any (Rows.polyAddsSpec.pre6 enc Try.prog Try.f4 Rows.polyAddsRow.domain false) (Rows.polyAddsSpec.post enc Try.prog Try.f4 false true false false) := by
  refine returnsInHanded_of_change (C := Try.checked) own started (by kernel_rfl) Try.func4
    (ChangeSpec.witness6 (enc := enc) (C := Try.checked) false ⟨#[], #[.string .empty, .string .empty, .string .empty], []⟩ 8 (by kernel_rfl) (by kernel_rfl) (by kernel_rfl) (by kernel_rfl)) ?_
  intro W base args ds gs before hval0 hW _ _
  have hval : ∀ (j : Nat) t v, Try.f4.params[j]? = some t → args[j]? = some v → Value.okWide Try.prog W .any base t v := hval0
  have hW' := hW
  obtain ⟨p, q, hA0, hV, rfl, hfz, hnd⟩ := hW
  have hA : DataW.TrodAll enc Try.prog W 0 (fun _ => true) true Try.f4.params.toList args.toList ds p := hA0
  rw [Try.params4] at hA hval
  obtain ⟨v0, vs0, d0, ds0, p0, q0, hargs, rfl, rfl, h0, r0⟩ := trodAll_cons hA
  obtain ⟨v1, vs1, d1, ds1, p1, q1, rfl, rfl, rfl, h1, r1⟩ := trodAll_cons r0
  obtain ⟨v2, vs2, d2, ds2, p2, q2, rfl, rfl, rfl, h2, r2⟩ := trodAll_cons r1
  obtain ⟨rfl, rfl, rfl⟩ := trodAll_nil r2
  obtain rfl : args = #[v0, v1, v2] := by cases args; simp_all
  obtain ⟨rfl, rfl⟩ := trodVars_none hV
  obtain ⟨s0, rfl, rfl, rfl, m0⟩ := open_string Try.underlying9 (hval 0 9 v0 rfl rfl) h0
  obtain ⟨s1, rfl, rfl, rfl, m1⟩ := open_string Try.underlying9 (hval 1 9 v1 rfl rfl) h1
  obtain ⟨s2, rfl, rfl, rfl, m2⟩ := open_string Try.underlying9 (hval 2 9 v2 rfl rfl) h2
  clear hA0 hval0
  simp only [List.append_nil] at hW'
  refine (walk s0 m0 s1 m1 s2 m2 W).mono fun e W' ⟨he, hg⟩ => ?_
  subst he
  exact ⟨_, rfl, _, _, _, [], [], [], hW', trodAll_cons_mk (shut_bool Try.underlying4 _) trodAll_mk0, (trodAll_cons_mk (shut_string Try.underlying9 m0) (trodAll_cons_mk (shut_string Try.underlying9 m1) (trodAll_cons_mk (shut_string Try.underlying9 m2) trodAll_mk0))), rfl, hg.frame _, fun h => by cases h⟩

/-- THE STATEMENT. -/
theorem proved : Rows.PolyAddsSaid :=
  OpenClaim.holds_of_wide 4 Try.f4 rfl rfl rfl rfl rfl rfl rfl ⟨rfl, rfl, rfl, rfl, rfl⟩ rfl rfl rfl rfl rfl (by kernel_rfl) Try.func4 (by kernel_rfl)
    (of_decide_eq_true (by kernel_rfl)) (by unfold Func.isWrapper; first | (rw [if_pos (by decide +kernel)]; kernel_rfl) | (rw [if_neg (by decide +kernel)]; exact ⟨rfl, rfl⟩))
    (fun os started H enc _ => lifted os started H enc)
end Go.Proofs.Ytkjjkljpbfjkpaa.polyAdds
