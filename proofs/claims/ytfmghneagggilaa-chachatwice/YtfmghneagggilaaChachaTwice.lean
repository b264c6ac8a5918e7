/-
  ChachaTwice: whatever key, nonce, number and two texts are handed in, the call returns true: xored twice a text is as it was; what two have that were xored so is what they have themselves.
-/
import Derived.Test.YtfmghneagggilaaFrame
import Derived.Test.YtfmghneagggilaaChaXor
import Derived.Test.YtfmghneagggilaaPlainChaHid
import Derived.Test.YtfmghneagggilaaKeepXor
import Derived.Test.YtfmghneagggilaaSized
namespace Go.Proofs.Ytfmghneagggilaa.chachaTwice
open Go.ChangeShapes Go.WideShapes Go.ChangeAt Go.RowKit
open Go.ChangeMaps (open_string shut_string)
open cha
open ghs (xo xo_size)

theorem min_cast (a : Nat) : min (a : Int) 1000 = ((min a 1000 : Nat) : Int) := by omega
set_option maxRecDepth 100000 in
set_option maxHeartbeats 1600000 in
theorem walk_any (key : ByteArray) (hk : key.size ≤ maxLen) (nonce : ByteArray) (hno : nonce.size ≤ maxLen) (n : Nat) (hn : n < 4294967296) (s : ByteArray) (t : ByteArray) (ht : t.size ≤ maxLen) (w : World) :
    Calls Try.prog 8 #[.string key, .string nonce, .int .u32 n, .string s, .string t] w fun e w' => e = .returned (.bool true) ∧ Below w.heap.size w w' := by
  have g1 : ∀ W, Calls Try.prog 19 #[.string key, .int .i64 32] W fun e w' => e = .returned (.string (sz key 32)) ∧ Below W.heap.size W w' := sized_any key 32 hk (by decide)
  have g2 : ∀ W, Calls Try.prog 19 #[.string nonce, .int .i64 12] W fun e w' => e = .returned (.string (sz nonce 12)) ∧ Below W.heap.size W w' := sized_any nonce 12 hno (by decide)
  obtain ⟨m, hm⟩ : ∃ m, m = min s.size 1000 := ⟨_, rfl⟩
  have hmin : min (s.size : Int) 1000 = (m : Int) := by rw [hm]; exact min_cast _
  have g3 := sized_any t m ht (by omega)
  have hsl := cv.sl_to s m (by omega)
  have s1 := sz_size key 32
  have s2 := sz_size nonce 12
  have s3 := sz_size t m
  have s4 : (s.extract 0 m).size = m := by rw [ByteArray.size_extract]; omega
  have hm1 : m ≤ 1000 := by omega
  generalize sz key 32 = K at *
  generalize sz nonce 12 = O at *
  generalize sz t m = T at *
  generalize s.extract 0 m = S at *
  have f1 := Xor_good K O n S hn s1 s2 (by omega)
  have f2 := Xor_good K O n (hid K O n S) hn s1 s2 (by rw [hid_size]; omega)
  have f3 := Xor_good K O n T hn s1 s2 (by omega)
  rw [hid_twice] at f2
  have x1 := kx.xored_any (hid K O n S) (hid K O n T) m (by rw [hid_size]; exact s4) (by rw [hid_size]; exact s3) (by omega)
  have x2 := kx.xored_any S T m s4 s3 (by omega)
  rw [hid_both _ _ _ _ _ (by omega)] at x1
  have za := hid_size K O n S
  have zb := hid_size K O n T
  rw [s4] at za
  rw [s3] at zb
  generalize hid K O n S = A at *
  generalize hid K O n T = C at *
  generalize xo S T = X at *
  clear hm hk hno ht
  have hne := Up.some w
  have G1 : Hid (∀ y : Up w, Calls Try.prog 19 #[.string key, .int .i64 32] y.1 fun e w' => e = .returned (.string K) ∧ Below y.1.heap.size y.1 w') := fun y => g1 y.1
  have G2 : Hid (∀ y : Up w, Calls Try.prog 19 #[.string nonce, .int .i64 12] y.1 fun e w' => e = .returned (.string O) ∧ Below y.1.heap.size y.1 w') := fun y => g2 y.1
  clear g1 g2
  go_enter Try.func8, Try.ntmps8
  go_wp2_with fail
  refine wp_region_up (by kernel_rfl) (by kernel_rfl) ?_
  repeat (go_big_quiet_step (first | (with_reducible exact calls_up (G1.out _)) | (with_reducible exact calls_up (G2.out _))))
  refine wpQuiet_nil ?_
  rintro w0 ⟨y0, rfl⟩
  have hX : Below w.heap.size w y0.1 := y0.2
  go_wp2_with (first
    | (go_at_call 19; (with_reducible refine (g3 _).mono ?_); rintro e wq ⟨rfl, hq⟩; replace hX := hX.trans (hq.mono hX.size); clear hq)
    | (go_at_call 15; (first | (with_reducible refine (f1 _).mono ?_) | (with_reducible refine (f2 _).mono ?_) | (with_reducible refine (f3 _).mono ?_)); rintro e wq ⟨rfl, hq⟩; replace hX := hX.trans (hq.mono hX.size); clear hq)
    | (go_at_call 20; (first | (with_reducible refine (x1 _).mono ?_) | (with_reducible refine (x2 _).mono ?_)); rintro e wq ⟨rfl, hq⟩; replace hX := hX.trans (hq.mono hX.size); clear hq))
  go_ret
  exact ⟨rfl, hX⟩
theorem walk (key : ByteArray) (hk : key.size ≤ maxLen) (nonce : ByteArray) (hno : nonce.size ≤ maxLen) (i : Int) (hn : (Lit.int .u32 i).wf = true) (s : ByteArray) (_ : s.size ≤ maxLen) (t : ByteArray) (ht : t.size ≤ maxLen) (w : World) :
    Calls Try.prog 8 #[.string key, .string nonce, .int .u32 i, .string s, .string t] w fun e w' => e = .returned (.bool true) ∧ Below w.heap.size w w' := by
  obtain ⟨h0, h1⟩ := u32_bd hn
  obtain ⟨n, rfl⟩ : ∃ k : Nat, i = (k : Int) := ⟨i.toNat, by omega⟩
  exact walk_any key hk nonce hno n (by omega) s t ht w

/-! ### The row's step -/
set_option maxRecDepth 100000 in
theorem lifted (os : Os) (started : os.Started) (H : Type) (enc : TypeId × Value → H) :
    ReturnsInHanded {} Try.checked os 8 .any (Rows.chachaTwiceSpec.pre6 enc Try.prog Try.f8 Rows.chachaTwiceRow.domain false) (Rows.chachaTwiceSpec.post enc Try.prog Try.f8 false true false false) := by
  refine returnsInHanded_of_change (C := Try.checked) own started (by kernel_rfl) Try.func8
    (ChangeSpec.witness6 (enc := enc) (C := Try.checked) false ⟨#[], #[.string .empty, .string .empty, .int .u32 0, .string .empty, .string .empty], []⟩ 8 (by kernel_rfl) (by kernel_rfl) (by kernel_rfl) (by kernel_rfl)) ?_
  intro W base args ds gs before hval0 hW _ _
  have hval : ∀ (j : Nat) t v, Try.f8.params[j]? = some t → args[j]? = some v → Value.okWide Try.prog W .any base t v := hval0
  have hW' := hW
  obtain ⟨p, q, hA0, hV, rfl, hfz, hnd⟩ := hW
  have hA : DataW.TrodAll enc Try.prog W 0 (fun _ => true) true Try.f8.params.toList args.toList ds p := hA0
  rw [Try.params8] at hA hval
  obtain ⟨v0, vs0, d0, ds0, p0, q0, hargs, rfl, rfl, h0, r0⟩ := trodAll_cons hA
  obtain ⟨v1, vs1, d1, ds1, p1, q1, rfl, rfl, rfl, h1, r1⟩ := trodAll_cons r0
  obtain ⟨v2, vs2, d2, ds2, p2, q2, rfl, rfl, rfl, h2, r2⟩ := trodAll_cons r1
  obtain ⟨v3, vs3, d3, ds3, p3, q3, rfl, rfl, rfl, h3, r3⟩ := trodAll_cons r2
  obtain ⟨v4, vs4, d4, ds4, p4, q4, rfl, rfl, rfl, h4, r4⟩ := trodAll_cons r3
  obtain ⟨rfl, rfl, rfl⟩ := trodAll_nil r4
  obtain rfl : args = #[v0, v1, v2, v3, v4] := by cases args; simp_all
  obtain ⟨rfl, rfl⟩ := trodVars_none hV
  obtain ⟨s0, rfl, rfl, rfl, m0⟩ := open_string Try.underlying9 (hval 0 9 v0 rfl rfl) h0
  obtain ⟨s1, rfl, rfl, rfl, m1⟩ := open_string Try.underlying9 (hval 1 9 v1 rfl rfl) h1
  obtain ⟨s2, rfl, rfl, rfl, m2⟩ := open_int Try.underlying22 (hval 2 22 v2 rfl rfl) h2
  obtain ⟨s3, rfl, rfl, rfl, m3⟩ := open_string Try.underlying9 (hval 3 9 v3 rfl rfl) h3
  obtain ⟨s4, rfl, rfl, rfl, m4⟩ := open_string Try.underlying9 (hval 4 9 v4 rfl rfl) h4
  clear hA0 hval0
  simp only [List.append_nil] at hW'
  refine (walk s0 m0 s1 m1 s2 m2 s3 m3 s4 m4 W).mono fun e W' ⟨he, hg⟩ => ?_
  subst he
  exact ⟨_, rfl, _, _, _, [], [], [], hW', trodAll_cons_mk (shut_bool Try.underlying4 _) trodAll_mk0, (trodAll_cons_mk (shut_string Try.underlying9 m0) (trodAll_cons_mk (shut_string Try.underlying9 m1) (trodAll_cons_mk (shut_int Try.underlying22 m2) (trodAll_cons_mk (shut_string Try.underlying9 m3) (trodAll_cons_mk (shut_string Try.underlying9 m4) trodAll_mk0))))), rfl, hg.frame _, fun h => by cases h⟩

/-- THE STATEMENT. -/
theorem proved : Rows.ChachaTwiceSaid :=
  OpenClaim.holds_of_wide 8 Try.f8 rfl rfl rfl rfl rfl rfl rfl ⟨rfl, rfl, rfl, rfl, rfl⟩ rfl rfl rfl rfl rfl (by kernel_rfl) Try.func8 (by kernel_rfl)
    (of_decide_eq_true (by kernel_rfl)) (by unfold Func.isWrapper; first | (rw [if_pos (by decide +kernel)]; kernel_rfl) | (rw [if_neg (by decide +kernel)]; exact ⟨rfl, rfl⟩))
    (fun os started H enc _ => lifted os started H enc)
end Go.Proofs.Ytfmghneagggilaa.chachaTwice
