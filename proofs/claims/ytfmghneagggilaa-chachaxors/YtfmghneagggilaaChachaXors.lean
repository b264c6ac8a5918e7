/-
  ChachaXors: whatever key, nonce, number and text are handed in, the call returns true: Xor of them is what the document answers.
-/
import Derived.Test.YtfmghneagggilaaFrame
import Derived.Test.YtfmghneagggilaaChaXor
import Derived.Test.YtfmghneagggilaaRefChaXor
namespace Go.Proofs.Ytfmghneagggilaa.chachaXors
open Go.ChangeShapes Go.WideShapes Go.ChangeAt Go.RowKit
open Go.ChangeMaps (open_string shut_string)
open cha

set_option maxRecDepth 100000 in
set_option maxHeartbeats 800000 in
theorem walk_same (key nonce : ByteArray) (n : Nat) (s : ByteArray) (T : ByteArray) (e : Int) (f1 : ∀ w, Calls Try.prog 15 #[.string key, .string nonce, .int .u32 n, .string s] w fun r w' => r = .returned (.tuple #[.string T, .int .i64 e]) ∧ Below w.heap.size w w')
    (f2 : ∀ w, Calls Try.prog 16 #[.string key, .string nonce, .int .u32 n, .string s] w fun r w' => r = .returned (.tuple #[.string T, .int .i64 e]) ∧ Below w.heap.size w w') (w : World) :
    Calls Try.prog 5 #[.string key, .string nonce, .int .u32 n, .string s] w fun e w' => e = .returned (.bool true) ∧ Below w.heap.size w w' := by
  have hX : Below w.heap.size w w := Below.refl _ _
  go_enter Try.func5, Try.ntmps5
  go_wp2_with (first
    | (go_at_call 15; (with_reducible refine (f1 _).mono ?_); rintro e wq ⟨rfl, hq⟩; replace hX := hX.trans (hq.mono hX.size); clear hq)
    | (go_at_call 16; (with_reducible refine (f2 _).mono ?_); rintro e wq ⟨rfl, hq⟩; replace hX := hX.trans (hq.mono hX.size); clear hq))
  go_ret
  exact ⟨rfl, hX⟩
theorem walk (key : ByteArray) (_ : key.size ≤ maxLen) (nonce : ByteArray) (_ : nonce.size ≤ maxLen) (i : Int) (hn : (Lit.int .u32 i).wf = true) (s : ByteArray) (_ : s.size ≤ maxLen) (w : World) :
    Calls Try.prog 5 #[.string key, .string nonce, .int .u32 i, .string s] w fun e w' => e = .returned (.bool true) ∧ Below w.heap.size w w' := by
  obtain ⟨h0, h1⟩ := u32_bd hn
  obtain ⟨n, rfl⟩ : ∃ k : Nat, i = (k : Int) := ⟨i.toNat, by omega⟩
  have ln : n < 4294967296 := by omega
  by_cases h : key.size = 32 ∧ nonce.size = 12
  · by_cases hs : s.size ≤ 2000
    · exact walk_same key nonce n s _ 0 (Xor_good key nonce n s ln h.1 h.2 hs) (rxor_good key nonce n s ln h.1 h.2 hs) w
    · exact walk_same key nonce n s _ 2 (Xor_large key nonce n s h.1 h.2 (by omega)) (rxor_large key nonce n s ln h.1 h.2 (by omega)) w
  · have hb : key.size ≠ 32 ∨ nonce.size ≠ 12 := by omega
    exact walk_same key nonce n s _ 1 (Xor_bad key nonce n s hb) (rxor_bad key nonce n s hb) w

/-! ### The row's step -/
set_option maxRecDepth 100000 in
theorem lifted (os : Os) (started : os.Started) (H : Type) (enc : TypeId × Value → H) :
    ReturnsInHanded {} Try.checked os 5 .any (Rows.chachaXorsSpec.pre6 enc Try.prog Try.f5 Rows.chachaXorsRow.domain false) (Rows.chachaXorsSpec.post enc Try.prog Try.f5 false true false false) := by
  refine returnsInHanded_of_change (C := Try.checked) own started (by kernel_rfl) Try.func5
    (ChangeSpec.witness6 (enc := enc) (C := Try.checked) false ⟨#[], #[.string .empty, .string .empty, .int .u32 0, .string .empty], []⟩ 8 (by kernel_rfl) (by kernel_rfl) (by kernel_rfl) (by kernel_rfl)) ?_
  intro W base args ds gs before hval0 hW _ _
  have hval : ∀ (j : Nat) t v, Try.f5.params[j]? = some t → args[j]? = some v → Value.okWide Try.prog W .any base t v := hval0
  have hW' := hW
  obtain ⟨p, q, hA0, hV, rfl, hfz, hnd⟩ := hW
  have hA : DataW.TrodAll enc Try.prog W 0 (fun _ => true) true Try.f5.params.toList args.toList ds p := hA0
  rw [Try.params5] at hA hval
  obtain ⟨v0, vs0, d0, ds0, p0, q0, hargs, rfl, rfl, h0, r0⟩ := trodAll_cons hA
  obtain ⟨v1, vs1, d1, ds1, p1, q1, rfl, rfl, rfl, h1, r1⟩ := trodAll_cons r0
  obtain ⟨v2, vs2, d2, ds2, p2, q2, rfl, rfl, rfl, h2, r2⟩ := trodAll_cons r1
  obtain ⟨v3, vs3, d3, ds3, p3, q3, rfl, rfl, rfl, h3, r3⟩ := trodAll_cons r2
  obtain ⟨rfl, rfl, rfl⟩ := trodAll_nil r3
  obtain rfl : args = #[v0, v1, v2, v3] := by cases args; simp_all
  obtain ⟨rfl, rfl⟩ := trodVars_none hV
  obtain ⟨s0, rfl, rfl, rfl, m0⟩ := open_string Try.underlying9 (hval 0 9 v0 rfl rfl) h0
  obtain ⟨s1, rfl, rfl, rfl, m1⟩ := open_string Try.underlying9 (hval 1 9 v1 rfl rfl) h1
  obtain ⟨s2, rfl, rfl, rfl, m2⟩ := open_int Try.underlying22 (hval 2 22 v2 rfl rfl) h2
  obtain ⟨s3, rfl, rfl, rfl, m3⟩ := open_string Try.underlying9 (hval 3 9 v3 rfl rfl) h3
  clear hA0 hval0
  simp only [List.append_nil] at hW'
  refine (walk s0 m0 s1 m1 s2 m2 s3 m3 W).mono fun e W' ⟨he, hg⟩ => ?_
  subst he
  exact ⟨_, rfl, _, _, _, [], [], [], hW', trodAll_cons_mk (shut_bool Try.underlying4 _) trodAll_mk0, (trodAll_cons_mk (shut_string Try.underlying9 m0) (trodAll_cons_mk (shut_string Try.underlying9 m1) (trodAll_cons_mk (shut_int Try.underlying22 m2) (trodAll_cons_mk (shut_string Try.underlying9 m3) trodAll_mk0)))), rfl, hg.frame _, fun h => by cases h⟩

/-- THE STATEMENT. -/
theorem proved : Rows.ChachaXorsSaid :=
  OpenClaim.holds_of_wide 5 Try.f5 rfl rfl rfl rfl rfl rfl rfl ⟨rfl, rfl, rfl, rfl, rfl⟩ rfl rfl rfl rfl rfl (by kernel_rfl) Try.func5 (by kernel_rfl)
    (of_decide_eq_true (by kernel_rfl)) (by unfold Func.isWrapper; first | (rw [if_pos (by decide +kernel)]; kernel_rfl) | (rw [if_neg (by decide +kernel)]; exact ⟨rfl, rfl⟩))
    (fun os started H enc _ => lifted os started H enc)
end Go.Proofs.Ytfmghneagggilaa.chachaXors
