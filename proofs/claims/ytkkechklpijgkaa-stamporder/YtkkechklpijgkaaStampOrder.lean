/-
  StampOrder: whatever three times, the call returns true: which of two is later is told by their bytes, and each later one of three is later than the first.
-/
import Derived.Test.YtkkechklpijgkaaFrame
import Derived.Test.YtkkechklpijgkaaStampWrite
import Derived.Lib.SmallJoins
import Derived.WalkLawsBesides
namespace Go.Proofs.Ytkkechklpijgkaa.stampOrder
open Go.ChangeShapes Go.WideShapes Go.ChangeAt Go.RowKit
open Go.ChangeMaps (open_string shut_string)
open stm

/-- The three boxes, and what was there. -/
structure Three (w : World) (a b c d e f : Int) (W : World) : Prop where
  t : Blk W w.heap.size 23 [.int .i64 a, .int .i64 b]
  u : Blk W (w.heap.size + 1) 23 [.int .i64 c, .int .i64 d]
  v : Blk W (w.heap.size + 2) 23 [.int .i64 e, .int .i64 f]
  below : Below w.heap.size w W
theorem Three.next {w W W' : World} {a b c d e f : Int} (h : Three w a b c d e f W) (hb : Below W.heap.size W W') : Three w a b c d e f W' :=
  ⟨h.t.below hb h.t.lt, h.u.below hb h.u.lt, h.v.below hb h.v.lt, h.below.trans (hb.mono h.below.size)⟩
theorem three_start (w : World) (a b c d e f : Int) : Three w a b c d e f (((w.alloc (.cells #[.int .i64 a, .int .i64 b] 23)).alloc (.cells #[.int .i64 c, .int .i64 d] 23)).alloc (.cells #[.int .i64 e, .int .i64 f] 23)) := by
  have h1 := Blk.new w 23 [.int .i64 a, .int .i64 b] _ rfl
  have h2 := Blk.new (w.alloc (.cells #[.int .i64 a, .int .i64 b] 23)) 23 [.int .i64 c, .int .i64 d] _ rfl
  have h3 := Blk.new ((w.alloc (.cells #[.int .i64 a, .int .i64 b] 23)).alloc (.cells #[.int .i64 c, .int .i64 d] 23)) 23 [.int .i64 e, .int .i64 f] _ rfl
  rw [World.size_alloc] at h2 h3
  rw [World.size_alloc] at h3
  exact ⟨(h1.alloc _).alloc _, h2.alloc _, h3, (((Below.refl _ _).alloc (Nat.le_refl _) _).alloc (by simp) _).alloc (by simp; omega) _⟩
/-- What is later is told higher. -/
theorem later_told {a b c d : Int} (h1 : ok a b = true) (h2 : ok c d = true) : later a b c d = !(Op.bytesLess (wrT a b).toList (wrT c d).toList || (wrT a b).toList == (wrT c d).toList) := by
  obtain ⟨n, m, rfl, rfl, hn, hm⟩ := ok_nat h1
  obtain ⟨p, q, rfl, rfl, hp, hq⟩ := ok_nat h2
  unfold wrT
  rw [if_pos h1, if_pos h2, Int.toNat_natCast, Int.toNat_natCast, Int.toNat_natCast, Int.toNat_natCast, told_less hn hm hp hq, told_eq hn hm hp hq, ← Bool.decide_or, ← decide_not]
  exact decide_eq_decide.2 (by omega)

set_option maxRecDepth 100000 in
set_option maxHeartbeats 8000000 in
theorem walk (a : Int) (_ha : (Lit.int .i64 a).wf = true) (b : Int) (_hb : (Lit.int .i64 b).wf = true) (c : Int) (_hc : (Lit.int .i64 c).wf = true) (d : Int) (_hd : (Lit.int .i64 d).wf = true) (e : Int) (_he : (Lit.int .i64 e).wf = true) (f : Int) (_hf : (Lit.int .i64 f).wf = true) (w : World) :
    Calls Try.prog 6 #[st a b, st c d, st e f] w fun r w' => r = .returned (.bool true) ∧ Below w.heap.size w w' := by
  have f1 := write_any a b
  have f2 := write_any c d
  have g1 := after_any 1 0 0 5
  rw [show later 1 0 0 5 = true from rfl] at g1
  have g2 := after_any a b a b
  rw [show later a b a b = false from decide_eq_false (by omega)] at g2
  have g3 := after_any a b c d
  have g4 := after_any c d a b
  have g5 := after_any c d e f
  have g6 := after_any a b e f
  have hL := @later_told a b c d
  have hE1 : wrE a b ≠ 0 ∨ wrE a b = 0 ∧ ok a b = true := by
    unfold wrE
    by_cases k : ok a b = true
    · rw [if_pos k]; exact .inr ⟨rfl, k⟩
    · rw [if_neg k]; exact .inl (by decide)
  have hE2 : wrE c d ≠ 0 ∨ wrE c d = 0 ∧ ok c d = true := by
    unfold wrE
    by_cases k : ok c d = true
    · rw [if_pos k]; exact .inr ⟨rfl, k⟩
    · rw [if_neg k]; exact .inl (by decide)
  have h24 : later a b c d = true → later c d a b = false := fun h => decide_eq_false (by have := of_decide_eq_true h; omega)
  have h36 : later a b c d = true → later c d e f = true → later a b e f = true := fun h h' => decide_eq_true (by have := of_decide_eq_true h; have := of_decide_eq_true h'; omega)
  have hK := three_start w a b c d e f
  generalize wrT a b = T1 at *
  generalize wrT c d = T2 at *
  generalize wrE a b = E1 at *
  generalize wrE c d = E2 at *
  have hT : E1 ≠ 0 ∨ E1 = 0 ∧ E2 ≠ 0 ∨ E1 = 0 ∧ E2 = 0 ∧ later a b c d = !(Op.bytesLess T1.toList T2.toList || T1.toList == T2.toList) := by
    rcases hE1 with h | ⟨h, k1⟩
    · exact .inl h
    · rcases hE2 with h' | ⟨h', k2⟩
      · exact .inr (.inl ⟨h, h'⟩)
      · exact .inr (.inr ⟨h, h', hL k1 k2⟩)
  clear hE1 hE2 hL
  have hO : later a b c d = false ∨ later a b c d = true ∧ later c d a b = false ∧ (later c d e f = false ∨ later c d e f = true ∧ later a b e f = true) := by
    cases k1 : later a b c d
    · exact .inl rfl
    · cases k2 : later c d e f
      · exact .inr ⟨rfl, h24 k1, .inl rfl⟩
      · exact .inr ⟨rfl, h24 k1, .inr ⟨rfl, h36 k1 k2⟩⟩
  clear h24 h36
  generalize later a b c d = L1 at *
  generalize later c d a b = L2 at *
  generalize later c d e f = L3 at *
  generalize later a b e f = L4 at *
  have c0 := hK.t.cell 0 _ rfl
  have c1 := hK.t.cell 1 _ rfl
  have c2 := hK.u.cell 0 _ rfl
  have c3 := hK.u.cell 1 _ rfl
  have c4 := hK.v.cell 0 _ rfl
  have c5 := hK.v.cell 1 _ rfl
  rcases hT with hT | ⟨rfl, hT⟩ | ⟨rfl, rfl, hT⟩
  · have t1 : (E1 != 0) = true := by rw [bne_iff_ne]; exact hT
    clear hT
    rcases hO with rfl | ⟨rfl, rfl, rfl | ⟨rfl, rfl⟩⟩
    all_goals
      go_enter Try.func6, Try.ntmps6
      go_wp2_with (first
        | (go_at_call 7; (first | (with_reducible refine (f1 _).mono ?_) | (with_reducible refine (f2 _).mono ?_)); rintro r w1 ⟨rfl, hq⟩
           replace hK := hK.next hq
           replace c0 := hK.t.cell 0 _ rfl
           replace c1 := hK.t.cell 1 _ rfl
           replace c2 := hK.u.cell 0 _ rfl
           replace c3 := hK.u.cell 1 _ rfl
           replace c4 := hK.v.cell 0 _ rfl
           replace c5 := hK.v.cell 1 _ rfl
           clear hq)
        | (go_at_call 9; (first | (with_reducible refine (g1 _).mono ?_) | (with_reducible refine (g2 _).mono ?_) | (with_reducible refine (g3 _).mono ?_) | (with_reducible refine (g4 _).mono ?_) | (with_reducible refine (g5 _).mono ?_) | (with_reducible refine (g6 _).mono ?_)); rintro r w1 ⟨rfl, hq⟩
           replace hK := hK.next hq
           replace c0 := hK.t.cell 0 _ rfl
           replace c1 := hK.t.cell 1 _ rfl
           replace c2 := hK.u.cell 0 _ rfl
           replace c3 := hK.u.cell 1 _ rfl
           replace c4 := hK.v.cell 0 _ rfl
           replace c5 := hK.v.cell 1 _ rfl
           clear hq))
      go_ret
      exact ⟨rfl, hK.below⟩
  · have t1 : (E2 != 0) = true := by rw [bne_iff_ne]; exact hT
    clear hT
    rcases hO with rfl | ⟨rfl, rfl, rfl | ⟨rfl, rfl⟩⟩
    all_goals
      go_enter Try.func6, Try.ntmps6
      go_wp2_with (first
        | (go_at_call 7; (first | (with_reducible refine (f1 _).mono ?_) | (with_reducible refine (f2 _).mono ?_)); rintro r w1 ⟨rfl, hq⟩
           replace hK := hK.next hq
           replace c0 := hK.t.cell 0 _ rfl
           replace c1 := hK.t.cell 1 _ rfl
           replace c2 := hK.u.cell 0 _ rfl
           replace c3 := hK.u.cell 1 _ rfl
           replace c4 := hK.v.cell 0 _ rfl
           replace c5 := hK.v.cell 1 _ rfl
           clear hq)
        | (go_at_call 9; (first | (with_reducible refine (g1 _).mono ?_) | (with_reducible refine (g2 _).mono ?_) | (with_reducible refine (g3 _).mono ?_) | (with_reducible refine (g4 _).mono ?_) | (with_reducible refine (g5 _).mono ?_) | (with_reducible refine (g6 _).mono ?_)); rintro r w1 ⟨rfl, hq⟩
           replace hK := hK.next hq
           replace c0 := hK.t.cell 0 _ rfl
           replace c1 := hK.t.cell 1 _ rfl
           replace c2 := hK.u.cell 0 _ rfl
           replace c3 := hK.u.cell 1 _ rfl
           replace c4 := hK.v.cell 0 _ rfl
           replace c5 := hK.v.cell 1 _ rfl
           clear hq))
      go_ret
      exact ⟨rfl, hK.below⟩
  · cases hbl : Op.bytesLess T1.toList T2.toList <;> cases hbe : (T1.toList == T2.toList) <;> rw [hbl, hbe] at hT <;> (rcases hO with rfl | ⟨rfl, rfl, rfl | ⟨rfl, rfl⟩⟩)
    all_goals first | (cases hT; done) | skip
    all_goals clear hT
    all_goals
      go_enter Try.func6, Try.ntmps6
      go_wp2_with (first
        | (go_at_call 7; (first | (with_reducible refine (f1 _).mono ?_) | (with_reducible refine (f2 _).mono ?_)); rintro r w1 ⟨rfl, hq⟩
           replace hK := hK.next hq
           replace c0 := hK.t.cell 0 _ rfl
           replace c1 := hK.t.cell 1 _ rfl
           replace c2 := hK.u.cell 0 _ rfl
           replace c3 := hK.u.cell 1 _ rfl
           replace c4 := hK.v.cell 0 _ rfl
           replace c5 := hK.v.cell 1 _ rfl
           clear hq)
        | (go_at_call 9; (first | (with_reducible refine (g1 _).mono ?_) | (with_reducible refine (g2 _).mono ?_) | (with_reducible refine (g3 _).mono ?_) | (with_reducible refine (g4 _).mono ?_) | (with_reducible refine (g5 _).mono ?_) | (with_reducible refine (g6 _).mono ?_)); rintro r w1 ⟨rfl, hq⟩
           replace hK := hK.next hq
           replace c0 := hK.t.cell 0 _ rfl
           replace c1 := hK.t.cell 1 _ rfl
           replace c2 := hK.u.cell 0 _ rfl
           replace c3 := hK.u.cell 1 _ rfl
           replace c4 := hK.v.cell 0 _ rfl
           replace c5 := hK.v.cell 1 _ rfl
           clear hq))
      go_ret
      exact ⟨rfl, hK.below⟩

/-! ### The row's step -/
set_option maxRecDepth 100000 in
theorem lifted (os : Os) (started : os.Started) (H : Type) (enc : TypeId × Value → H) :
    ReturnsInHanded {} Try.checked os 6 .any (Rows.stampOrderSpec.pre6 enc Try.prog Try.f6 Rows.stampOrderRow.domain false) (Rows.stampOrderSpec.post enc Try.prog Try.f6 false true false false) := by
  refine returnsInHanded_of_change (C := Try.checked) own started (by kernel_rfl) Try.func6
    (ChangeSpec.witness6 (enc := enc) (C := Try.checked) false ⟨#[], #[.agg #[.int .i64 0, .int .i64 0], .agg #[.int .i64 0, .int .i64 0], .agg #[.int .i64 0, .int .i64 0]], []⟩ 8 (by kernel_rfl) (by kernel_rfl) (by kernel_rfl) (by kernel_rfl)) ?_
  intro W base args ds gs before hval0 hW _ _
  have hval : ∀ (j : Nat) t v, Try.f6.params[j]? = some t → args[j]? = some v → Value.okWide Try.prog W .any base t v := hval0
  have hW' := hW
  obtain ⟨p, q, hA0, hV, rfl, hfz, hnd⟩ := hW
  have hA : DataW.TrodAll enc Try.prog W 0 (fun _ => true) true Try.f6.params.toList args.toList ds p := hA0
  rw [Try.params6] at hA hval
  obtain ⟨v0, vs0, d0, ds0, p0, q0, hargs, rfl, rfl, h0, r0⟩ := trodAll_cons hA
  obtain ⟨v1, vs1, d1, ds1, p1, q1, rfl, rfl, rfl, h1, r1⟩ := trodAll_cons r0
  obtain ⟨v2, vs2, d2, ds2, p2, q2, rfl, rfl, rfl, h2, r2⟩ := trodAll_cons r1
  obtain ⟨rfl, rfl, rfl⟩ := trodAll_nil r2
  obtain rfl : args = #[v0, v1, v2] := by cases args; simp_all
  obtain ⟨rfl, rfl⟩ := trodVars_none hV
  obtain ⟨c0a, c0b, y0a, y0b, n0, rfl, rfl, rfl, hy0a, hy0b⟩ := Go.Joins.open_agg2 Try.underlying23 (by kernel_rfl) (show Try.prog.cellsOf 23 = 2 by kernel_rfl) (hval 0 23 v0 rfl rfl) h0
  obtain ⟨s0a, e0a, rfl, m0a⟩ := DataW.trod_int Try.underlying3 hy0a
  obtain ⟨s0b, e0b, rfl, m0b⟩ := DataW.trod_int Try.underlying3 hy0b
  simp at e0a e0b
  subst e0a e0b
  obtain ⟨c1a, c1b, y1a, y1b, n1, rfl, rfl, rfl, hy1a, hy1b⟩ := Go.Joins.open_agg2 Try.underlying23 (by kernel_rfl) (show Try.prog.cellsOf 23 = 2 by kernel_rfl) (hval 1 23 v1 rfl rfl) h1
  obtain ⟨s1a, e1a, rfl, m1a⟩ := DataW.trod_int Try.underlying3 hy1a
  obtain ⟨s1b, e1b, rfl, m1b⟩ := DataW.trod_int Try.underlying3 hy1b
  simp at e1a e1b
  subst e1a e1b
  obtain ⟨c2a, c2b, y2a, y2b, n2, rfl, rfl, rfl, hy2a, hy2b⟩ := Go.Joins.open_agg2 Try.underlying23 (by kernel_rfl) (show Try.prog.cellsOf 23 = 2 by kernel_rfl) (hval 2 23 v2 rfl rfl) h2
  obtain ⟨s2a, e2a, rfl, m2a⟩ := DataW.trod_int Try.underlying3 hy2a
  obtain ⟨s2b, e2b, rfl, m2b⟩ := DataW.trod_int Try.underlying3 hy2b
  simp at e2a e2b
  subst e2a e2b
  clear hA0 hval0
  simp only [List.append_nil] at hW'
  refine (walk s0a m0a s0b m0b s1a m1a s1b m1b s2a m2a s2b m2b W).mono fun e W' ⟨he, hg⟩ => ?_
  subst he
  exact ⟨_, rfl, _, _, _, [], [], [], hW', trodAll_cons_mk (shut_bool Try.underlying4 _) trodAll_mk0, (trodAll_cons_mk (Go.Joins.shut_agg2 (y0 := (.lit (.int .i64 s0a), [])) (y1 := (.lit (.int .i64 s0b), [])) Try.underlying23 (by kernel_rfl) (show Try.prog.cellsOf 23 = 2 by kernel_rfl) ⟨1, by simp [DataW.trod, Try.underlying3, m0a]⟩ ⟨1, by simp [DataW.trod, Try.underlying3, m0b]⟩) (trodAll_cons_mk (Go.Joins.shut_agg2 (y0 := (.lit (.int .i64 s1a), [])) (y1 := (.lit (.int .i64 s1b), [])) Try.underlying23 (by kernel_rfl) (show Try.prog.cellsOf 23 = 2 by kernel_rfl) ⟨1, by simp [DataW.trod, Try.underlying3, m1a]⟩ ⟨1, by simp [DataW.trod, Try.underlying3, m1b]⟩) (trodAll_cons_mk (Go.Joins.shut_agg2 (y0 := (.lit (.int .i64 s2a), [])) (y1 := (.lit (.int .i64 s2b), [])) Try.underlying23 (by kernel_rfl) (show Try.prog.cellsOf 23 = 2 by kernel_rfl) ⟨1, by simp [DataW.trod, Try.underlying3, m2a]⟩ ⟨1, by simp [DataW.trod, Try.underlying3, m2b]⟩) trodAll_mk0))), rfl, hg.frame _, fun h => by cases h⟩

/-- THE STATEMENT. -/
theorem proved : Rows.StampOrderSaid :=
  OpenClaim.holds_of_wide 6 Try.f6 rfl rfl rfl rfl rfl rfl rfl ⟨rfl, rfl, rfl, rfl, rfl⟩ rfl rfl rfl rfl rfl (by kernel_rfl) Try.func6 (by kernel_rfl)
    (of_decide_eq_true (by kernel_rfl)) (by unfold Func.isWrapper; first | (rw [if_pos (by decide +kernel)]; kernel_rfl) | (rw [if_neg (by decide +kernel)]; exact ⟨rfl, rfl⟩))
    (fun os started H enc _ => lifted os started H enc)
end Go.Proofs.Ytkkechklpijgkaa.stampOrder
