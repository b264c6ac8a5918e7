/-
  SealShort: whatever four texts are handed in, the call returns true: what has fewer than 16 bytes was never sealed; what isn't a key, or a nonce, is refused.
-/
import Derived.Test.YtjcgodojbpfooabFrame
import Derived.Test.YtjcgodojbpfooabSealFace
import Derived.Test.YtjcgodojbpfooabSized
namespace Go.Proofs.Ytjcgodojbpfooab.sealShort
open Go.ChangeShapes Go.WideShapes Go.ChangeAt Go.RowKit
open Go.ChangeMaps (open_string shut_string)
open box

theorem short_any (k n m s : ByteArray) (hk : k.size = 32) (hn : n.size = 12) (hm : m.size ≤ 2000) (hs : s.size < 16) (w : World) :
    Calls Try.prog 4 #[.string k, .string n, .string m, .string s] w fun e w' => e = .returned (.tuple #[.string ⟨#[]⟩, .int .i64 4]) ∧ Below w.heap.size w w' := by
  have f1 := sea.open_any k n m s w
  have c0 : chk k n m s 2016 = 0 := by rw [chk, if_pos ⟨hk, hn⟩, if_pos ⟨hm, by omega⟩]
  have e0 : openE (sea.tagT k n m) 0 s = 4 := by rw [openE, if_pos rfl, if_pos hs]
  rw [c0, openT, e0, if_neg (by decide)] at f1
  exact f1
theorem arg_any (k n m s : ByteArray) (h : ¬ (k.size = 32 ∧ n.size = 12)) (w : World) :
    Calls Try.prog 4 #[.string k, .string n, .string m, .string s] w fun e w' => e = .returned (.tuple #[.string ⟨#[]⟩, .int .i64 1]) ∧ Below w.heap.size w w' := by
  have f1 := sea.open_any k n m s w
  have c0 : chk k n m s 2016 = 1 := by rw [chk, if_neg h]
  have e0 : openE (sea.tagT k n m) 1 s = 1 := by rw [openE, if_neg (by decide)]
  rw [c0, openT, e0, if_neg (by decide)] at f1
  exact f1
set_option maxRecDepth 100000 in
set_option maxHeartbeats 1600000 in
theorem walk (k : ByteArray) (hk : k.size ≤ maxLen) (n : ByteArray) (hn : n.size ≤ maxLen) (m : ByteArray) (hm : m.size ≤ maxLen) (s : ByteArray) (_ : s.size ≤ maxLen) (w : World) :
    Calls Try.prog 3 #[.string k, .string n, .string m, .string s] w fun e w' => e = .returned (.bool true) ∧ Below w.heap.size w w' := by
  have g1 : ∀ W, Calls Try.prog 5 #[.string k, .int .i64 32] W fun e w' => e = .returned (.string (sz k 32)) ∧ Below W.heap.size W w' := sized_any k 32 hk (by decide)
  have g2 : ∀ W, Calls Try.prog 5 #[.string n, .int .i64 12] W fun e w' => e = .returned (.string (sz n 12)) ∧ Below W.heap.size W w' := sized_any n 12 hn (by decide)
  have g3 : ∀ W, Calls Try.prog 5 #[.string m, .int .i64 20] W fun e w' => e = .returned (.string (sz m 20)) ∧ Below W.heap.size W w' := sized_any m 20 hm (by decide)
  have s1 := sz_size k 32
  have s2 := sz_size n 12
  have s3 := sz_size m 20
  generalize sz k 32 = K at *
  generalize sz n 12 = N at *
  generalize sz m 20 = M at *
  obtain ⟨c, hc, hc1⟩ : ∃ c : Nat, min (s.size : Int) 15 = (c : Int) ∧ c ≤ 15 ∧ c ≤ s.size := ⟨min s.size 15, by omega, by omega⟩
  have p1 := cv.sl_to s c hc1.2
  have f1 := short_any K N M (s.extract 0 c) s1 s2 (by omega) (by rw [ByteArray.size_extract]; omega)
  generalize s.extract 0 c = P at *
  have hne := Up.some w
  have F1 : Hid (∀ y : Up w, Calls Try.prog 5 #[.string k, .int .i64 32] y.1 fun e w' => e = .returned (.string K) ∧ Below y.1.heap.size y.1 w') := fun y => g1 y.1
  have F2 : Hid (∀ y : Up w, Calls Try.prog 5 #[.string n, .int .i64 12] y.1 fun e w' => e = .returned (.string N) ∧ Below y.1.heap.size y.1 w') := fun y => g2 y.1
  have F3 : Hid (∀ y : Up w, Calls Try.prog 5 #[.string m, .int .i64 20] y.1 fun e w' => e = .returned (.string M) ∧ Below y.1.heap.size y.1 w') := fun y => g3 y.1
  have F4 : Hid (∀ y : Up w, Calls Try.prog 4 #[.string K, .string N, .string M, .string P] y.1 fun e w' => e = .returned (.tuple #[.string ⟨#[]⟩, .int .i64 4]) ∧ Below y.1.heap.size y.1 w') := fun y => f1 y.1
  clear g1 g2 g3 f1
  by_cases h : k.size = 32 ∧ n.size = 12
  · have f2 := short_any k n ⟨#[]⟩ ⟨#[]⟩ h.1 h.2 (by decide) (by decide)
    have t1 : ((k.size : Int) != 32) = false := by simp; omega
    have t2 : ((n.size : Int) != 12) = false := by simp; omega
    go_enter Try.func3, Try.ntmps3
    go_wp2_with fail
    refine wp_region_up (by kernel_rfl) (by kernel_rfl) ?_
    repeat (go_big_quiet_step (first | (with_reducible exact calls_up (F1.out _)) | (with_reducible exact calls_up (F2.out _)) | (with_reducible exact calls_up (F3.out _)) | (with_reducible exact calls_up (F4.out _))))
    refine wpQuiet_nil ?_
    rintro w1 ⟨y1, rfl⟩
    clear F1 F2 F3 F4 hne
    go_wp2_with (go_at_call 4; with_reducible refine (f2 _).mono ?_; rintro e w2 ⟨rfl, hb2⟩)
    go_ret
    exact ⟨rfl, y1.2.trans (hb2.mono y1.2.size)⟩
  · have f2 := arg_any k n ⟨#[]⟩ ⟨#[]⟩ h
    go_enter Try.func3, Try.ntmps3
    go_wp2_with fail
    refine wp_region_up (by kernel_rfl) (by kernel_rfl) ?_
    repeat (go_big_quiet_step (first | (with_reducible exact calls_up (F1.out _)) | (with_reducible exact calls_up (F2.out _)) | (with_reducible exact calls_up (F3.out _)) | (with_reducible exact calls_up (F4.out _))))
    refine wpQuiet_nil ?_
    rintro w1 ⟨y1, rfl⟩
    clear F1 F2 F3 F4 hne
    go_wp2_with (go_at_call 4; with_reducible refine (f2 _).mono ?_; rintro e w2 ⟨rfl, hb2⟩)
    all_goals first
      | (go_ret
         exact ⟨rfl, y1.2.trans (hb2.mono y1.2.size)⟩)
      | (exfalso; simp at *; omega)

/-! ### The row's step -/
set_option maxRecDepth 100000 in
theorem lifted (os : Os) (started : os.Started) (H : Type) (enc : TypeId × Value → H) :
    ReturnsInHanded {} Try.checked os 3 .any (Rows.sealShortSpec.pre6 enc Try.prog Try.f3 Rows.sealShortRow.domain false) (Rows.sealShortSpec.post enc Try.prog Try.f3 false true false false) := by
  refine returnsInHanded_of_change (C := Try.checked) own started (by kernel_rfl) Try.func3
    (ChangeSpec.witness6 (enc := enc) (C := Try.checked) false ⟨#[], #[.string .empty, .string .empty, .string .empty, .string .empty], []⟩ 8 (by kernel_rfl) (by kernel_rfl) (by kernel_rfl) (by kernel_rfl)) ?_
  intro W base args ds gs before hval0 hW _ _
  have hval : ∀ (j : Nat) t v, Try.f3.params[j]? = some t → args[j]? = some v → Value.okWide Try.prog W .any base t v := hval0
  have hW' := hW
  obtain ⟨p, q, hA0, hV, rfl, hfz, hnd⟩ := hW
  have hA : DataW.TrodAll enc Try.prog W 0 (fun _ => true) true Try.f3.params.toList args.toList ds p := hA0
  rw [Try.params3] at hA hval
  obtain ⟨v0, vs0, d0, ds0, p0, q0, hargs, rfl, rfl, h0, r0⟩ := trodAll_cons hA
  obtain ⟨v1, vs1, d1, ds1, p1, q1, rfl, rfl, rfl, h1, r1⟩ := trodAll_cons r0
  obtain ⟨v2, vs2, d2, ds2, p2, q2, rfl, rfl, rfl, h2, r2⟩ := trodAll_cons r1
  obtain ⟨v3, vs3, d3, ds3, p3, q3, rfl, rfl, rfl, h3, r3⟩ := trodAll_cons r2
  obtain ⟨rfl, rfl, rfl⟩ := trodAll_nil r3
  obtain rfl : args = #[v0, v1, v2, v3] := by cases args; simp_all
  obtain ⟨rfl, rfl⟩ := trodVars_none hV
  obtain ⟨s0, rfl, rfl, rfl, m0⟩ := open_string Try.underlying9 (hval 0 9 v0 rfl rfl) h0
  obtain ⟨s1, rfl, rfl, rfl, m1⟩ := open_string Try.underlying9 (hval 1 9 v1 rfl rfl) h1
  obtain ⟨s2, rfl, rfl, rfl, m2⟩ := open_string Try.underlying9 (hval 2 9 v2 rfl rfl) h2
  obtain ⟨s3, rfl, rfl, rfl, m3⟩ := open_string Try.underlying9 (hval 3 9 v3 rfl rfl) h3
  clear hA0 hval0
  simp only [List.append_nil] at hW'
  refine (walk s0 m0 s1 m1 s2 m2 s3 m3 W).mono fun e W' ⟨he, hg⟩ => ?_
  subst he
  exact ⟨_, rfl, _, _, _, [], [], [], hW', trodAll_cons_mk (shut_bool Try.underlying4 _) trodAll_mk0, (trodAll_cons_mk (shut_string Try.underlying9 m0) (trodAll_cons_mk (shut_string Try.underlying9 m1) (trodAll_cons_mk (shut_string Try.underlying9 m2) (trodAll_cons_mk (shut_string Try.underlying9 m3) trodAll_mk0)))), rfl, hg.frame _, fun h => by cases h⟩

/-- THE STATEMENT. -/
theorem proved : Rows.SealShortSaid :=
  OpenClaim.holds_of_wide 3 Try.f3 rfl rfl rfl rfl rfl rfl rfl ⟨rfl, rfl, rfl, rfl, rfl⟩ rfl rfl rfl rfl rfl (by kernel_rfl) Try.func3 (by kernel_rfl)
    (of_decide_eq_true (by kernel_rfl)) (by unfold Func.isWrapper; first | (rw [if_pos (by decide +kernel)]; kernel_rfl) | (rw [if_neg (by decide +kernel)]; exact ⟨rfl, rfl⟩))
    (fun os started H enc _ => lifted os started H enc)
end Go.Proofs.Ytjcgodojbpfooab.sealShort
