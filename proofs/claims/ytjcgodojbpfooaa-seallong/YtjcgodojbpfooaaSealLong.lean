/-
  SealLong: whatever five texts are handed in, the call returns true: what was sealed is opened as it was; what two have that were sealed so is what their texts have, xored.
-/
import Derived.Test.YtjcgodojbpfooaaFrame
import Derived.Test.YtjcgodojbpfooaaSealLongFace
import Derived.Test.YtjcgodojbpfooaaKeepBox
namespace Go.Proofs.Ytjcgodojbpfooaa.sealLong
open Go.ChangeShapes Go.WideShapes Go.ChangeAt Go.RowKit
open Go.ChangeMaps (open_string shut_string)

theorem walk (k : ByteArray) (hk : k.size ≤ maxLen) (n : ByteArray) (hn : n.size ≤ maxLen) (m : ByteArray) (_ : m.size ≤ maxLen) (t : ByteArray) (_ : t.size ≤ maxLen) (o : ByteArray) (ho : o.size ≤ maxLen) (w : World) :
    Calls Try.prog 7 #[.string k, .string n, .string m, .string t, .string o] w fun e w' => e = .returned (.bool true) ∧ Below w.heap.size w w' := by
  have g1 : ∀ W, Calls Try.prog 17 #[.string k, .int .i64 32] W fun e w' => e = .returned (.string (sz k 32)) ∧ Below W.heap.size W w' := sized_any k 32 hk (by decide)
  have g2 : ∀ W, Calls Try.prog 17 #[.string n, .int .i64 24] W fun e w' => e = .returned (.string (sz n 24)) ∧ Below W.heap.size W w' := sized_any n 24 hn (by decide)
  have s1 := sz_size k 32
  have s2 := sz_size n 24
  generalize sz k 32 = K at *
  generalize sz n 24 = N at *
  have HT : ∀ T, sea.longT K N T = T := fun T => if_pos ⟨s1, s2⟩
  have HE : ∀ e, sea.longE K N e = e := fun e => if_pos ⟨s1, s2⟩
  have k1 := sea.key2_size K N
  have k2 := sea.nonce2_size N s2
  have f1 := box.boxed_good 13 15 (fun args W => box.enter_of Try.func13 rfl rfl args W) (fun args W => box.enter_of Try.func15 rfl rfl args W)
    (sea.hide (sea.key2 K N) (sea.nonce2 N)) (sea.tagT (sea.key2 K N) (sea.nonce2 N) m) K N (sea.key2 K N) (sea.nonce2 N) m t o k1 k2 ho (sea.hide_twice _ _) (sea.hide_size _ _) (sea.tagT_size _ _ _) (sea.hide_both _ _)
    (fun x W => by have h := sea.long_any K N m x W; rw [HT, HE] at h; exact h) (fun x W => by have h := sea.unlong_any K N m x W; rw [HT, HE] at h; exact h)
  clear HT HE k1 k2
  go_enter Try.func7, Try.ntmps7
  go_wp2_with (first
    | (go_at_call 17; with_reducible refine (g1 _).mono ?_; rintro e w1 ⟨rfl, hb1⟩)
    | (go_at_call 17; with_reducible refine (g2 _).mono ?_; rintro e w2 ⟨rfl, hb2⟩)
    | (go_at_call 16; with_reducible refine (f1 _).mono ?_; rintro e w3 ⟨rfl, hb3⟩))
  go_ret
  have hX2 := hb1.trans (hb2.mono hb1.size)
  exact ⟨rfl, hX2.trans (hb3.mono hX2.size)⟩

/-! ### The row's step -/
set_option maxRecDepth 100000 in
theorem lifted (os : Os) (started : os.Started) (H : Type) (enc : TypeId × Value → H) :
    ReturnsInHanded {} Try.checked os 7 .any (Rows.sealLongSpec.pre6 enc Try.prog Try.f7 Rows.sealLongRow.domain false) (Rows.sealLongSpec.post enc Try.prog Try.f7 false true false false) := by
  refine returnsInHanded_of_change (C := Try.checked) own started (by kernel_rfl) Try.func7
    (ChangeSpec.witness6 (enc := enc) (C := Try.checked) false ⟨#[], #[.string .empty, .string .empty, .string .empty, .string .empty, .string .empty], []⟩ 8 (by kernel_rfl) (by kernel_rfl) (by kernel_rfl) (by kernel_rfl)) ?_
  intro W base args ds gs before hval0 hW _ _
  have hval : ∀ (j : Nat) t v, Try.f7.params[j]? = some t → args[j]? = some v → Value.okWide Try.prog W .any base t v := hval0
  have hW' := hW
  obtain ⟨p, q, hA0, hV, rfl, hfz, hnd⟩ := hW
  have hA : DataW.TrodAll enc Try.prog W 0 (fun _ => true) true Try.f7.params.toList args.toList ds p := hA0
  rw [Try.params7] at hA hval
  obtain ⟨v0, vs0, d0, ds0, p0, q0, hargs, rfl, rfl, h0, r0⟩ := trodAll_cons hA
  obtain ⟨v1, vs1, d1, ds1, p1, q1, rfl, rfl, rfl, h1, r1⟩ := trodAll_cons r0
  obtain ⟨v2, vs2, d2, ds2, p2, q2, rfl, rfl, rfl, h2, r2⟩ := trodAll_cons r1
  obtain ⟨v3, vs3, d3, ds3, p3, q3, rfl, rfl, rfl, h3, r3⟩ := trodAll_cons r2
  obtain ⟨v4, vs4, d4, ds4, p4, q4, rfl, rfl, rfl, h4, r4⟩ := trodAll_cons r3
  obtain ⟨rfl, rfl, rfl⟩ := trodAll_nil r4
  obtain rfl : args = #[v0, v1, v2, v3, v4] := by cases args; simp_all
  obtain ⟨rfl, rfl⟩ := trodVars_none hV
  obtain ⟨s0, rfl, rfl, rfl, m0⟩ := open_string Try.underlying9 (hval 0 9 v0 rfl rfl) h0
  obtain ⟨s1, rfl, rfl, rfl, m1⟩ := open_string Try.underlying9 (hval 1 9 v1 rfl rfl) h1
  obtain ⟨s2, rfl, rfl, rfl, m2⟩ := open_string Try.underlying9 (hval 2 9 v2 rfl rfl) h2
  obtain ⟨s3, rfl, rfl, rfl, m3⟩ := open_string Try.underlying9 (hval 3 9 v3 rfl rfl) h3
  obtain ⟨s4, rfl, rfl, rfl, m4⟩ := open_string Try.underlying9 (hval 4 9 v4 rfl rfl) h4
  clear hA0 hval0
  simp only [List.append_nil] at hW'
  refine (walk s0 m0 s1 m1 s2 m2 s3 m3 s4 m4 W).mono fun e W' ⟨he, hg⟩ => ?_
  subst he
  exact ⟨_, rfl, _, _, _, [], [], [], hW', trodAll_cons_mk (shut_bool Try.underlying4 _) trodAll_mk0, (trodAll_cons_mk (shut_string Try.underlying9 m0) (trodAll_cons_mk (shut_string Try.underlying9 m1) (trodAll_cons_mk (shut_string Try.underlying9 m2) (trodAll_cons_mk (shut_string Try.underlying9 m3) (trodAll_cons_mk (shut_string Try.underlying9 m4) trodAll_mk0))))), rfl, hg.frame _, fun h => by cases h⟩

/-- THE STATEMENT. -/
theorem proved : Rows.SealLongSaid :=
  OpenClaim.holds_of_wide 7 Try.f7 rfl rfl rfl rfl rfl rfl rfl ⟨rfl, rfl, rfl, rfl, rfl⟩ rfl rfl rfl rfl rfl (by kernel_rfl) Try.func7 (by kernel_rfl)
    (of_decide_eq_true (by kernel_rfl)) (by unfold Func.isWrapper; first | (rw [if_pos (by decide +kernel)]; kernel_rfl) | (rw [if_neg (by decide +kernel)]; exact ⟨rfl, rfl⟩))
    (fun os started H enc _ => lifted os started H enc)
end Go.Proofs.Ytjcgodojbpfooaa.sealLong
