/-
  StampWrites: whatever two times, the call returns true: Write and After answer of them what the document's own answer.
-/
import Derived.Test.YtkkechklpijgkaaFrame
import Derived.Test.YtkkechklpijgkaaRefStamp
import Derived.Lib.SmallJoins
namespace Go.Proofs.Ytkkechklpijgkaa.stampWrites
open Go.ChangeShapes Go.WideShapes Go.ChangeAt Go.RowKit
open Go.ChangeMaps (open_string shut_string)
open stm rstm

set_option maxRecDepth 100000 in
set_option maxHeartbeats 1600000 in
theorem walk (a : Int) (_ha : (Lit.int .i64 a).wf = true) (b : Int) (_hb : (Lit.int .i64 b).wf = true) (c : Int) (_hc : (Lit.int .i64 c).wf = true) (d : Int) (_hd : (Lit.int .i64 d).wf = true) (w : World) :
    Calls Try.prog 3 #[st a b, st c d] w fun e w' => e = .returned (.bool true) ∧ Below w.heap.size w w' := by
  have f1 := write_any a b
  have f2 := rwrite_any a b
  have f3 := after_any a b c d
  have f4 := rafter_any a b c d
  generalize wrT a b = T at *
  generalize wrE a b = E at *
  generalize later a b c d = L at *
  have t1 : (T.toList == T.toList) = true := by simp
  have t2 : (E == E) = true := by simp
  have t3 : (L == L) = true := by simp
  have hS0 : Blk ((w.alloc (.cells #[.int .i64 a, .int .i64 b] 23)).alloc (.cells #[.int .i64 c, .int .i64 d] 23)) w.heap.size 23 [.int .i64 a, .int .i64 b] := (Blk.new w 23 _ _ rfl).alloc _
  have hU0 : Blk ((w.alloc (.cells #[.int .i64 a, .int .i64 b] 23)).alloc (.cells #[.int .i64 c, .int .i64 d] 23)) (w.heap.size + 1) 23 [.int .i64 c, .int .i64 d] := by
    have h := Blk.new (w.alloc (.cells #[.int .i64 a, .int .i64 b] 23)) 23 [.int .i64 c, .int .i64 d] _ rfl
    rw [World.size_alloc] at h
    exact h
  have hX0 : Below w.heap.size w ((w.alloc (.cells #[.int .i64 a, .int .i64 b] 23)).alloc (.cells #[.int .i64 c, .int .i64 d] 23)) := ((Below.refl _ _).alloc (Nat.le_refl _) _).alloc (by simp) _
  go_enter Try.func3, Try.ntmps3
  go_wp2_with (first
    | (go_at_call 7; (with_reducible refine (f1 _).mono ?_); rintro e w1 ⟨rfl, hb1⟩
       have hS1 := hS0.below hb1 hS0.lt
       have hU1 := hU0.below hb1 hU0.lt
       have hX1 := hX0.trans (hb1.mono hX0.size)
       have c0 := hS1.cell 0 _ rfl
       have c1 := hS1.cell 1 _ rfl
       clear hS0 hU0 hX0 hb1)
    | (go_at_call 8; (with_reducible refine (f2 _).mono ?_); rintro e w2 ⟨rfl, hb2⟩
       have hS2 := hS1.below hb2 hS1.lt
       have hU2 := hU1.below hb2 hU1.lt
       have hX2 := hX1.trans (hb2.mono hX1.size)
       clear hS1 hU1 hX1 hb2 c0 c1))
  have l1 := hS2.lt
  have l2 := hU2.lt
  have q0 : ∀ y : Up w2, y.1.cell? ⟨w.heap.size, 0, none⟩ = some (.int .i64 a) := fun y => (hS2.below y.2 l1).cell 0 _ rfl
  have q1 : ∀ y : Up w2, y.1.cell? ⟨w.heap.size, 1, none⟩ = some (.int .i64 b) := fun y => (hS2.below y.2 l1).cell 1 _ rfl
  have q2 : ∀ y : Up w2, y.1.cell? ⟨w.heap.size + 1, 0, none⟩ = some (.int .i64 c) := fun y => (hU2.below y.2 l2).cell 0 _ rfl
  have q3 : ∀ y : Up w2, y.1.cell? ⟨w.heap.size + 1, 1, none⟩ = some (.int .i64 d) := fun y => (hU2.below y.2 l2).cell 1 _ rfl
  have F3 : Hid (∀ y : Up w2, Calls Try.prog 9 #[st a b, st c d] y.1 fun e w' => e = .returned (.bool L) ∧ Below y.1.heap.size y.1 w') := fun y => f3 y.1
  have F4 : Hid (∀ y : Up w2, Calls Try.prog 10 #[st a b, st c d] y.1 fun e w' => e = .returned (.bool L) ∧ Below y.1.heap.size y.1 w') := fun y => f4 y.1
  have hne := Up.some w2
  refine wp_region_up (by kernel_rfl) (by kernel_rfl) ?_
  repeat (go_big_quiet_step (first | (with_reducible exact calls_up (F3.out _)) | (with_reducible exact calls_up (F4.out _))))
  refine wpQuiet_nil ?_
  rintro w5 ⟨y5, rfl⟩
  go_wp2_with fail
  go_ret
  exact ⟨rfl, hX2.trans (y5.2.mono hX2.size)⟩

/-! ### The row's step -/
set_option maxRecDepth 100000 in
theorem lifted (os : Os) (started : os.Started) (H : Type) (enc : TypeId × Value → H) :
    ReturnsInHanded {} Try.checked os 3 .any (Rows.stampWritesSpec.pre6 enc Try.prog Try.f3 Rows.stampWritesRow.domain false) (Rows.stampWritesSpec.post enc Try.prog Try.f3 false true false false) := by
  refine returnsInHanded_of_change (C := Try.checked) own started (by kernel_rfl) Try.func3
    (ChangeSpec.witness6 (enc := enc) (C := Try.checked) false ⟨#[], #[.agg #[.int .i64 0, .int .i64 0], .agg #[.int .i64 0, .int .i64 0]], []⟩ 8 (by kernel_rfl) (by kernel_rfl) (by kernel_rfl) (by kernel_rfl)) ?_
  intro W base args ds gs before hval0 hW _ _
  have hval : ∀ (j : Nat) t v, Try.f3.params[j]? = some t → args[j]? = some v → Value.okWide Try.prog W .any base t v := hval0
  have hW' := hW
  obtain ⟨p, q, hA0, hV, rfl, hfz, hnd⟩ := hW
  have hA : DataW.TrodAll enc Try.prog W 0 (fun _ => true) true Try.f3.params.toList args.toList ds p := hA0
  rw [Try.params3] at hA hval
  obtain ⟨v0, vs0, d0, ds0, p0, q0, hargs, rfl, rfl, h0, r0⟩ := trodAll_cons hA
  obtain ⟨v1, vs1, d1, ds1, p1, q1, rfl, rfl, rfl, h1, r1⟩ := trodAll_cons r0
  obtain ⟨rfl, rfl, rfl⟩ := trodAll_nil r1
  obtain rfl : args = #[v0, v1] := by cases args; simp_all
  obtain ⟨rfl, rfl⟩ := trodVars_none hV
  obtain ⟨c0a, c0b, y0a, y0b, n0, rfl, rfl, rfl, hy0a, hy0b⟩ := Go.Joins.open_agg2 Try.underlying23 (by kernel_rfl) (show Try.prog.cellsOf 23 = 2 by kernel_rfl) (hval 0 23 v0 rfl rfl) h0
  obtain ⟨s0a, e0a, rfl, m0a⟩ := DataW.trod_int Try.underlying3 hy0a
  obtain ⟨s0b, e0b, rfl, m0b⟩ := DataW.trod_int Try.underlying3 hy0b
  simp at e0a e0b
  subst e0a e0b
  obtain ⟨c1a, c1b, y1a, y1b, n1, rfl, rfl, rfl, hy1a, hy1b⟩ := Go.Joins.open_agg2 Try.underlying23 (by kernel_rfl) (show Try.prog.cellsOf 23 = 2 by kernel_rfl) (hval 1 23 v1 rfl rfl) h1
  obtain ⟨s1a, e1a, rfl, m1a⟩ := DataW.trod_int Try.underlying3 hy1a
  obtain ⟨s1b, e1b, rfl, m1b⟩ := DataW.trod_int Try.underlying3 hy1b
  simp at e1a e1b
  subst e1a e1b
  clear hA0 hval0
  simp only [List.append_nil] at hW'
  refine (walk s0a m0a s0b m0b s1a m1a s1b m1b W).mono fun e W' ⟨he, hg⟩ => ?_
  subst he
  exact ⟨_, rfl, _, _, _, [], [], [], hW', trodAll_cons_mk (shut_bool Try.underlying4 _) trodAll_mk0, (trodAll_cons_mk (Go.Joins.shut_agg2 (y0 := (.lit (.int .i64 s0a), [])) (y1 := (.lit (.int .i64 s0b), [])) Try.underlying23 (by kernel_rfl) (show Try.prog.cellsOf 23 = 2 by kernel_rfl) ⟨1, by simp [DataW.trod, Try.underlying3, m0a]⟩ ⟨1, by simp [DataW.trod, Try.underlying3, m0b]⟩) (trodAll_cons_mk (Go.Joins.shut_agg2 (y0 := (.lit (.int .i64 s1a), [])) (y1 := (.lit (.int .i64 s1b), [])) Try.underlying23 (by kernel_rfl) (show Try.prog.cellsOf 23 = 2 by kernel_rfl) ⟨1, by simp [DataW.trod, Try.underlying3, m1a]⟩ ⟨1, by simp [DataW.trod, Try.underlying3, m1b]⟩) trodAll_mk0)), rfl, hg.frame _, fun h => by cases h⟩

/-- THE STATEMENT. -/
theorem proved : Rows.StampWritesSaid :=
  OpenClaim.holds_of_wide 3 Try.f3 rfl rfl rfl rfl rfl rfl rfl ⟨rfl, rfl, rfl, rfl, rfl⟩ rfl rfl rfl rfl rfl (by kernel_rfl) Try.func3 (by kernel_rfl)
    (of_decide_eq_true (by kernel_rfl)) (by unfold Func.isWrapper; first | (rw [if_pos (by decide +kernel)]; kernel_rfl) | (rw [if_neg (by decide +kernel)]; exact ⟨rfl, rfl⟩))
    (fun os started H enc _ => lifted os started H enc)
end Go.Proofs.Ytkkechklpijgkaa.stampWrites
