/-
  StampBack: whatever a time and a text, the call returns true: what Write tells of a time is read as that time; what is read of a text is written so again.
-/
import Derived.Test.YtkkechklpijgkaaFrame
import Derived.Test.YtkkechklpijgkaaPlainStampBack
import Derived.Lib.SmallJoins
namespace Go.Proofs.Ytkkechklpijgkaa.stampBack
open Go.ChangeShapes Go.WideShapes Go.ChangeAt Go.RowKit
open Go.ChangeMaps (open_string shut_string)
open stm

set_option maxRecDepth 100000 in
set_option maxHeartbeats 3200000 in
theorem walk (a : Int) (_ha : (Lit.int .i64 a).wf = true) (b : Int) (_hb : (Lit.int .i64 b).wf = true) (s : ByteArray) (hs : s.size ≤ maxLen) (w : World) :
    Calls Try.prog 5 #[st a b, .string s] w fun e w' => e = .returned (.bool true) ∧ Below w.heap.size w w' := by
  have hm : maxLen ≤ 9223372036854775807 := by decide
  have f1 := write_any a b
  have f3 := read_any s (Nat.le_trans hs hm)
  clear hs hm
  have hX0 : Below w.heap.size w (w.alloc (.cells #[.int .i64 a, .int .i64 b] 23)) := (Below.refl _ _).alloc (Nat.le_refl _) _
  have hS0 : Blk (w.alloc (.cells #[.int .i64 a, .int .i64 b] 23)) w.heap.size 23 [.int .i64 a, .int .i64 b] := Blk.new w 23 _ _ rfl
  by_cases k : ok a b = true
  · obtain ⟨n, m, rfl, rfl, hn, hm⟩ := ok_nat k
    have f2 := read_any (told n m) (by rw [told_size]; decide)
    obtain ⟨r1, r2, r3⟩ := rd_told n m hn hm
    rw [r1, r2, r3] at f2
    unfold wrT wrE at f1
    rw [if_pos k, if_pos k, Int.toNat_natCast, Int.toNat_natCast] at f1
    have zt : ((told n m).size : Int) = 12 := by rw [told_size]; rfl
    clear k r1 r2 r3
    generalize told n m = T at *
    clear hn hm
    by_cases c : rdE s = 0
    · obtain ⟨g1, g2⟩ := rd_is c
      have f4 := write_any (rdA s) (rdB s)
      rw [g1, g2] at f4
      rw [c] at f3
      generalize rdA s = A at *
      generalize rdB s = B at *
      clear c g1 g2
      go_enter Try.func5, Try.ntmps5
      go_wp2_with (first
        | (go_at_call 7; (with_reducible refine (f1 _).mono ?_); rintro e w1 ⟨rfl, hb1⟩
           have hS1 := hS0.below hb1 hS0.lt
           have hX := hX0.trans (hb1.mono hX0.size)
           clear hS0 hX0 hb1)
        | (go_at_call 11; (with_reducible refine (f2 _).mono ?_); rintro e w2 ⟨rfl, hb2⟩
           have hS2 := (hS1.below hb2 hS1.lt).alloc (.cells #[.int .i64 n, .int .i64 m] 23)
           have c0 := hS2.cell 0 _ rfl
           have c1 := hS2.cell 1 _ rfl
           replace hX := (hX.trans (hb2.mono hX.size)).alloc (show w.heap.size ≤ w2.heap.size by have h1 := hX.size; have h2 := hb2.size; omega) (.cells #[.int .i64 n, .int .i64 m] 23)
           clear hS1 hS2 hb2 f2)
        | (go_at_call 11; (with_reducible refine (f3 _).mono ?_); rintro e w3 ⟨rfl, hb3⟩
           replace hX := (hX.trans (hb3.mono hX.size)).alloc (show w.heap.size ≤ w3.heap.size by have h1 := hX.size; have h2 := hb3.size; omega) (.cells #[.int .i64 A, .int .i64 B] 23)
           clear hb3 f3)
        | (go_at_call 7; (with_reducible refine (f4 _).mono ?_); rintro e w4 ⟨rfl, hb4⟩
           replace hX := hX.trans (hb4.mono hX.size)
           clear hb4 f4))
      go_ret
      exact ⟨rfl, hX⟩
    · obtain ⟨g1, g2⟩ := rd_not c
      rw [g1, g2] at f3
      have tE : (rdE s == 0) = false := by rw [beq_eq_false_iff_ne]; exact c
      have tF : (rdE s != 0) = true := by rw [bne_iff_ne]; exact c
      generalize rdE s = E at *
      clear c g1 g2
      go_enter Try.func5, Try.ntmps5
      go_wp2_with (first
        | (go_at_call 7; (with_reducible refine (f1 _).mono ?_); rintro e w1 ⟨rfl, hb1⟩
           have hS1 := hS0.below hb1 hS0.lt
           have hX := hX0.trans (hb1.mono hX0.size)
           clear hS0 hX0 hb1)
        | (go_at_call 11; (with_reducible refine (f2 _).mono ?_); rintro e w2 ⟨rfl, hb2⟩
           have hS2 := (hS1.below hb2 hS1.lt).alloc (.cells #[.int .i64 n, .int .i64 m] 23)
           have c0 := hS2.cell 0 _ rfl
           have c1 := hS2.cell 1 _ rfl
           replace hX := (hX.trans (hb2.mono hX.size)).alloc (show w.heap.size ≤ w2.heap.size by have h1 := hX.size; have h2 := hb2.size; omega) (.cells #[.int .i64 n, .int .i64 m] 23)
           clear hS1 hS2 hb2 f2)
        | (go_at_call 11; (with_reducible refine (f3 _).mono ?_); rintro e w3 ⟨rfl, hb3⟩
           replace hX := (hX.trans (hb3.mono hX.size)).alloc (show w.heap.size ≤ w3.heap.size by have h1 := hX.size; have h2 := hb3.size; omega) (.cells #[.int .i64 0, .int .i64 0] 23)
           clear hb3 f3))
      go_ret
      exact ⟨rfl, hX⟩
  · unfold wrT wrE at f1
    rw [if_neg k, if_neg k] at f1
    clear k
    by_cases c : rdE s = 0
    · obtain ⟨g1, g2⟩ := rd_is c
      have f4 := write_any (rdA s) (rdB s)
      rw [g1, g2] at f4
      rw [c] at f3
      generalize rdA s = A at *
      generalize rdB s = B at *
      clear c g1 g2
      go_enter Try.func5, Try.ntmps5
      go_wp2_with (first
        | (go_at_call 7; (with_reducible refine (f1 _).mono ?_); rintro e w1 ⟨rfl, hb1⟩
           have hS1 := hS0.below hb1 hS0.lt
           have hX := hX0.trans (hb1.mono hX0.size)
           clear hS0 hX0 hb1)
        | (go_at_call 11; (with_reducible refine (f3 _).mono ?_); rintro e w3 ⟨rfl, hb3⟩
           replace hX := (hX.trans (hb3.mono hX.size)).alloc (show w.heap.size ≤ w3.heap.size by have h1 := hX.size; have h2 := hb3.size; omega) (.cells #[.int .i64 A, .int .i64 B] 23)
           clear hb3 f3)
        | (go_at_call 7; (with_reducible refine (f4 _).mono ?_); rintro e w4 ⟨rfl, hb4⟩
           replace hX := hX.trans (hb4.mono hX.size)
           clear hb4 f4))
      go_ret
      exact ⟨rfl, hX⟩
    · obtain ⟨g1, g2⟩ := rd_not c
      rw [g1, g2] at f3
      have tE : (rdE s == 0) = false := by rw [beq_eq_false_iff_ne]; exact c
      have tF : (rdE s != 0) = true := by rw [bne_iff_ne]; exact c
      generalize rdE s = E at *
      clear c g1 g2
      go_enter Try.func5, Try.ntmps5
      go_wp2_with (first
        | (go_at_call 7; (with_reducible refine (f1 _).mono ?_); rintro e w1 ⟨rfl, hb1⟩
           have hS1 := hS0.below hb1 hS0.lt
           have hX := hX0.trans (hb1.mono hX0.size)
           clear hS0 hX0 hb1)
        | (go_at_call 11; (with_reducible refine (f3 _).mono ?_); rintro e w3 ⟨rfl, hb3⟩
           replace hX := (hX.trans (hb3.mono hX.size)).alloc (show w.heap.size ≤ w3.heap.size by have h1 := hX.size; have h2 := hb3.size; omega) (.cells #[.int .i64 0, .int .i64 0] 23)
           clear hb3 f3))
      go_ret
      exact ⟨rfl, hX⟩

/-! ### The row's step -/
set_option maxRecDepth 100000 in
theorem lifted (os : Os) (started : os.Started) (H : Type) (enc : TypeId × Value → H) :
    ReturnsInHanded {} Try.checked os 5 .any (Rows.stampBackSpec.pre6 enc Try.prog Try.f5 Rows.stampBackRow.domain false) (Rows.stampBackSpec.post enc Try.prog Try.f5 false true false false) := by
  refine returnsInHanded_of_change (C := Try.checked) own started (by kernel_rfl) Try.func5
    (ChangeSpec.witness6 (enc := enc) (C := Try.checked) false ⟨#[], #[.agg #[.int .i64 0, .int .i64 0], .string .empty], []⟩ 8 (by kernel_rfl) (by kernel_rfl) (by kernel_rfl) (by kernel_rfl)) ?_
  intro W base args ds gs before hval0 hW _ _
  have hval : ∀ (j : Nat) t v, Try.f5.params[j]? = some t → args[j]? = some v → Value.okWide Try.prog W .any base t v := hval0
  have hW' := hW
  obtain ⟨p, q, hA0, hV, rfl, hfz, hnd⟩ := hW
  have hA : DataW.TrodAll enc Try.prog W 0 (fun _ => true) true Try.f5.params.toList args.toList ds p := hA0
  rw [Try.params5] at hA hval
  obtain ⟨v0, vs0, d0, ds0, p0, q0, hargs, rfl, rfl, h0, r0⟩ := trodAll_cons hA
  obtain ⟨v1, vs1, d1, ds1, p1, q1, rfl, rfl, rfl, h1, r1⟩ := trodAll_cons r0
  obtain ⟨rfl, rfl, rfl⟩ := trodAll_nil r1
  obtain rfl : args = #[v0, v1] := by cases args; simp_all
  obtain ⟨rfl, rfl⟩ := trodVars_none hV
  obtain ⟨c0a, c0b, y0a, y0b, n0, rfl, rfl, rfl, hy0a, hy0b⟩ := Go.Joins.open_agg2 Try.underlying23 (by kernel_rfl) (show Try.prog.cellsOf 23 = 2 by kernel_rfl) (hval 0 23 v0 rfl rfl) h0
  obtain ⟨s0a, e0a, rfl, m0a⟩ := DataW.trod_int Try.underlying3 hy0a
  obtain ⟨s0b, e0b, rfl, m0b⟩ := DataW.trod_int Try.underlying3 hy0b
  simp at e0a e0b
  subst e0a e0b
  obtain ⟨s1, rfl, rfl, rfl, m1⟩ := open_string Try.underlying9 (hval 1 9 v1 rfl rfl) h1
  clear hA0 hval0
  simp only [List.append_nil] at hW'
  refine (walk s0a m0a s0b m0b s1 m1 W).mono fun e W' ⟨he, hg⟩ => ?_
  subst he
  exact ⟨_, rfl, _, _, _, [], [], [], hW', trodAll_cons_mk (shut_bool Try.underlying4 _) trodAll_mk0, (trodAll_cons_mk (Go.Joins.shut_agg2 (y0 := (.lit (.int .i64 s0a), [])) (y1 := (.lit (.int .i64 s0b), [])) Try.underlying23 (by kernel_rfl) (show Try.prog.cellsOf 23 = 2 by kernel_rfl) ⟨1, by simp [DataW.trod, Try.underlying3, m0a]⟩ ⟨1, by simp [DataW.trod, Try.underlying3, m0b]⟩) (trodAll_cons_mk (shut_string Try.underlying9 m1) trodAll_mk0)), rfl, hg.frame _, fun h => by cases h⟩

/-- THE STATEMENT. -/
theorem proved : Rows.StampBackSaid :=
  OpenClaim.holds_of_wide 5 Try.f5 rfl rfl rfl rfl rfl rfl rfl ⟨rfl, rfl, rfl, rfl, rfl⟩ rfl rfl rfl rfl rfl (by kernel_rfl) Try.func5 (by kernel_rfl)
    (of_decide_eq_true (by kernel_rfl)) (by unfold Func.isWrapper; first | (rw [if_pos (by decide +kernel)]; kernel_rfl) | (rw [if_neg (by decide +kernel)]; exact ⟨rfl, rfl⟩))
    (fun os started H enc _ => lifted os started H enc)
end Go.Proofs.Ytkkechklpijgkaa.stampBack
