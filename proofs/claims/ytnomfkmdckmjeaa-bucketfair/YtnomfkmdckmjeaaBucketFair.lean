/-
  BucketFair: whatever number a source has, whatever steps are taken, the call returns true: a source is answered alike by two buckets, though others take turns in one of them, as long as there are no more than sixteen.
-/
import Derived.Test.YtnomfkmdckmjeaaBucketTake
import Derived.Test.YtnomfkmdckmjeaaPlainBucketFair
import Derived.Test.YtnomfkmdckmjeaaKeepOf
import Derived.Test.YtnomfkmdckmjeaaFrame
namespace Go.Proofs.Ytnomfkmdckmjeaa.bucketFair
open Go.ChangeShapes Go.WideShapes Go.ChangeAt Go.RowKit
open bkt

/-- Two buckets in blocks of their own, at or above D. -/
structure Pr (w : World) (D ba ma bb mb : Nat) (A B : St) : Prop where
  a : Bm w ba ma A
  b : Bm w bb mb B
  la : ∀ k, two ba ma k → D ≤ k
  lb : ∀ k, two bb mb k → D ≤ k
  d : ∀ k, two ba ma k → ¬ two bb mb k
theorem Pr.below {w w' : World} {D ba ma bb mb : Nat} {A B : St} (h : Pr w D ba ma bb mb A B) (hb : Below w.heap.size w w') : Pr w' D ba ma bb mb A B := ⟨h.a.below hb, h.b.below hb, h.la, h.lb, h.d⟩
theorem Pr.left {w w' : World} {D ba ma bb mb : Nat} {A A' B : St} (h : Pr w D ba ma bb mb A B) (ha : Bm w' ba ma A') (hc : Chg (two ba ma) w w') : Pr w' D ba ma bb mb A' B :=
  ⟨ha, h.b.chg hc (fun q => h.d _ q (.inl rfl)) (fun q => h.d _ q (.inr rfl)), h.la, h.lb, h.d⟩
theorem Pr.right {w w' : World} {D ba ma bb mb : Nat} {A B B' : St} (h : Pr w D ba ma bb mb A B) (hb : Bm w' bb mb B') (hc : Chg (two bb mb) w w') : Pr w' D ba ma bb mb A B' :=
  ⟨h.a.chg hc (fun q => h.d _ (.inl rfl) q) (fun q => h.d _ (.inr rfl) q), hb, h.la, h.lb, h.d⟩
set_option maxRecDepth 100000 in
set_option maxHeartbeats 6400000 in
theorem walk (w : World) (v : Int) (hv : (Lit.int .u32 v).wf = true) (a : Option Addr) (n c : Nat) (zs : List StepV) (hi : Steps w w.heap.size a n zs) (hr : n * 64 ≤ reachBytes) (hz : ∀ z ∈ zs, z.Fits) :
    Calls Try.prog 5 #[.int .u32 v, .slice a n c] w fun e w' => e = .returned (.bool true) ∧ Below w.heap.size w w' := by
  have hrb : reachBytes < 140737488355328 := by decide
  have hn : n < 17592186044416 := by omega
  have bv := u32_bd hv
  obtain ⟨f, rfl⟩ : ∃ f : Nat, v = (f : Int) := ⟨v.toNat, by omega⟩
  have hf : f < 4294967296 := by omega
  have f0 : ∀ W, _ := fun W => New_any W
  have HI : Hid (Steps w w.heap.size a n zs) := hi
  have HZ : Hid (∀ z ∈ zs, z.Fits) := hz
  obtain ⟨D, hD⟩ : ∃ D, w.heap.size = D := ⟨_, rfl⟩
  have f00 := New_any w
  have hDw : D ≤ w.heap.size := Nat.le_of_eq hD.symm
  rw [hD] at HI f00 ⊢
  clear hi hz hr hrb hv bv hD
  go_enter Try.func5, Try.ntmps5
  go_wp2_with (first
    | (go_at_call 7; (with_reducible refine f00.mono ?_); rintro e w1 ⟨rfl, hB1, hX1⟩)
    | (go_at_call 7; (with_reducible refine (f0 _).mono ?_); rintro e w2 ⟨rfl, hB2, hX2⟩))
  obtain ⟨ba, hba⟩ : ∃ ba, D + 1 = ba := ⟨_, rfl⟩
  obtain ⟨ma, hma⟩ : ∃ ma, D = ma := ⟨_, rfl⟩
  obtain ⟨mb, hmb⟩ : ∃ mb, w1.heap.size = mb := ⟨_, rfl⟩
  obtain ⟨bb, hbb⟩ : ∃ bb, mb + 1 = bb := ⟨_, rfl⟩
  have hlt1 := hB1.blk.lt
  rw [hmb] at hB2 hX2 hlt1
  rw [hbb] at hB2
  rw [hba] at hB1 hlt1
  have hP2 : Pr w2 D ba ma bb mb ⟨0, []⟩ ⟨0, []⟩ := by
    refine ⟨?_, hB2, ?_, ?_, ?_⟩
    · rw [← hma]; exact hB1.below (by rw [hmb]; exact hX2)
    · rintro k (rfl | rfl) <;> omega
    · rintro k (rfl | rfl) <;> omega
    · rintro k (rfl | rfl) (h | h) <;> omega
  have hX3 : Below D w w2 := hX1.trans (hX2.mono (by omega))
  rw [hba, hmb, hbb]
  clear hB1 hB2 hX1 hX2 hba hma hmb hbb hlt1 f0 f00
  go_loopw [20, 7] (fun i t wr => ∃ (k now : Nat) (A B : St), k ≤ n ∧ now ≤ 2 * k ∧ i = .int .i64 (k : Int) ∧ t = .int .i64 (now : Int) ∧ Pr wr D ba ma bb mb A B ∧ Inv f A B now ∧ Below D w wr) (fun i _ _ => n - (intOf i).toNat)
  case atStart => exact ⟨0, 0, _, _, Nat.zero_le _, Nat.zero_le _, rfl, rfl, hP2, Inv.start f, hX3⟩
  case round =>
    clear hP2 hX3
    obtain ⟨k, now, A, B, hk, hnow, rfl, rfl, hP, hI, hX⟩ := hrel
    have k0 : (0 : Int) ≤ (k : Int) := by omega
    have k1 : (k : Int) ≤ 17592186044416 := by omega
    have hlen := HI.out.len
    have hDs : D ≤ wr.heap.size := by have := hX.size; omega
    by_cases hlt : k < n
    · have d0 : decide ((k : Int) < (n : Int)) = true := decide_eq_true (by omega)
      obtain ⟨b', o, hix, hbD, hc⟩ := (HI.out.below hX (Nat.le_refl _)).at c k hlt (by omega)
      have hfit : (zs[k]'(by omega)).Fits := HZ.out _ (List.getElem_mem _)
      generalize zs[k]'(by omega) = x at *
      have fOf := of_any x hfit 2 (by decide) (by decide)
      have hBE := Blk.new wr 34 (cells8 x) _ rfl
      have hPE := hP.below ((Below.refl _ wr).alloc (Nat.le_refl _) (.cells (cells8 x).toArray 34))
      have hXE : Below D w (wr.alloc (.cells (cells8 x).toArray 34)) := hX.alloc hDs _
      have hse : (wr.alloc (.cells (cells8 x).toArray 34)).heap.size = wr.heap.size + 1 := by simp
      have fR := rest_any x.a 3 (by decide) (by decide) (i64_bd' hfit.a)
      have bN := u32_bd hfit.num
      obtain ⟨N, hN⟩ : ∃ N : Nat, x.n = (N : Int) := ⟨x.n.toNat, by omega⟩
      have hN2 : N < 4294967296 := by omega
      obtain ⟨r, hr⟩ : ∃ r, (x.a % ((3 : Nat) : Int)).toNat = r := ⟨_, rfl⟩
      have hr3 : r < 3 := by omega
      rw [hr] at fR
      obtain ⟨q, hq⟩ : ∃ q, (x.kind % ((2 : Nat) : Int)).toNat = q := ⟨_, rfl⟩
      rw [hq] at fOf
      obtain ⟨kind, xa, xb, xn, xm, xs, xad, xbi⟩ := x
      simp only at hN
      subst hN
      have fR' : ∀ W, Calls Try.prog 12 #[.int .i64 xa, .int .i64 3] W fun e w' => e = .returned (.int .i64 (r : Int)) ∧ w' = W := fR
      clear fR
      have q0 := hc 0 _ rfl
      have q1 := hc 1 _ rfl
      have q2 := hc 2 _ rfl
      have q3 := hc 3 _ rfl
      have q4 := hc 4 _ rfl
      have q5 := hc 5 _ rfl
      have q6 := hc 6 _ rfl
      have q7 := hc 7 _ rfl
      rw [Nat.add_zero] at q0
      obtain ⟨E, hE⟩ : ∃ E, wr.heap.size = E := ⟨_, rfl⟩
      have r0 := hBE.cell 0 _ rfl
      have r1 := hBE.cell 1 _ rfl
      have r2 := hBE.cell 2 _ rfl
      have r3 := hBE.cell 3 _ rfl
      have r4 := hBE.cell 4 _ rfl
      have r5 := hBE.cell 5 _ rfl
      have r6 := hBE.cell 6 _ rfl
      have r7 := hBE.cell 7 _ rfl
      rw [hE] at hBE hse r0 r1 r2 r3 r4 r5 r6 r7 hDs
      unfold cells8 at fOf hBE hPE hXE hse r0 r1 r2 r3 r4 r5 r6 r7
      have hR0 : (0 : Int) ≤ (r : Int) := by omega
      have hR1 : (r : Int) ≤ 2 := by omega
      have hN0 : (0 : Int) ≤ (now : Int) := by omega
      have hN1 : (now : Int) ≤ 35184372088832 := by omega
      have eN : (now : Int) + (r : Int) = ((now + r : Nat) : Int) := by omega
      obtain ⟨t, ht⟩ : ∃ t, now + r = t := ⟨_, rfl⟩
      have hnt : now ≤ t := by omega
      have ht2 : t ≤ 2 * (k + 1) := by omega
      rw [ht] at eN
      have f5 := Take_any ba ma (nxt A f (t : Int)) (hI.a.nxt hf _) f hf (-1)
      rw [(bad_err (bad_neg _) f).1, (bad_err (bad_neg _) f).2] at f5
      have f6 := Take_any ba ma A hI.a f hf (-1)
      rw [(bad_err (bad_neg _) f).1, (bad_err (bad_neg _) f).2] at f6
      have f3 := Take_any ba ma A hI.a f hf (t : Int)
      have f4 := Take_any bb mb B hI.b f hf (t : Int)
      obtain ⟨hee, hI2⟩ := hI.both hf hnt
      rw [← hee] at f4
      obtain ⟨y, hy⟩ : ∃ y : Int, ((err A f (t : Int) : Nat) : Int) = y := ⟨_, rfl⟩
      rw [hy] at f3 f4
      have m1 : (y != y) = false := by simp
      clear hc hfit hX hbD hr hq hee hy ht hnow
      by_cases hq0 : q = 0
      · subst hq0
        have fOf' : ∀ W, Calls Try.prog 13 #[.agg #[.int .i64 kind, .int .i64 xa, .int .i64 xb, .int .u32 (N : Int), .int .u32 xm, .string xs, .int .u32 xad, .int .i64 xbi], .int .i64 2] W fun e w' => e = .returned (.int .i64 0) ∧ Below W.heap.size W w' := fOf
        have HI2 : Hid (Inv f (nxt A f (t : Int)) (nxt B f (t : Int)) t) := hI2
        generalize nxt A f (t : Int) = A2 at *
        generalize nxt B f (t : Int) = B2 at *
        clear fOf f6 hI hI2
        go_wp2_with (first
          | (go_at_call 12; (with_reducible refine (fR' _).mono ?_); rintro e w4 ⟨rfl, hq⟩; have hq := hq.symm; subst hq)
          | (go_at_call 13; (with_reducible refine (fOf' _).mono ?_); rintro e w5 ⟨rfl, h5⟩
             have hP5 := hPE.below h5
             have hX5 := hXE.trans (h5.mono (by omega))
             have hs5 : D ≤ w5.heap.size := by have := h5.size; omega)
          | (go_at_call 8; (with_reducible refine (f3 _ hP5.a).mono ?_); rintro e w6 ⟨rfl, hA6, hC6⟩
             have hP6 := hP5.left hA6 hC6
             have hX6 := hX5.trans (hC6.toBelow hs5 hP5.la)
             have hs6 := Nat.le_trans hs5 hC6.size)
          | (go_at_call 8; (with_reducible refine (f4 _ hP6.b).mono ?_); rintro e w7 ⟨rfl, hB7, hC7⟩
             have hP7 := hP6.right hB7 hC7
             have hX7 := hX6.trans (hC7.toBelow hs6 hP6.lb)
             have hs7 := Nat.le_trans hs6 hC7.size)
          | (go_at_call 8; (with_reducible refine (f5 _ hP7.a).mono ?_); rintro e w8 ⟨rfl, hA8, hC8⟩
             have hP8 := hP7.left hA8 hC8
             have hX8 := hX7.trans (hC8.toBelow hs7 hP7.la)))
        go_roundw
        case rel => exact ⟨k + 1, t, A2, B2, by omega, ht2, by go_num, rfl, hP8, HI2.out, hX8⟩
        case measure => simp [intOf]; omega
      · have t0 : ((q : Int) == 0) = false := by rw [beq_eq_false_iff_ne]; omega
        have fOf' : ∀ W, Calls Try.prog 13 #[.agg #[.int .i64 kind, .int .i64 xa, .int .i64 xb, .int .u32 (N : Int), .int .u32 xm, .string xs, .int .u32 xad, .int .i64 xbi], .int .i64 2] W fun e w' => e = .returned (.int .i64 (q : Int)) ∧ Below W.heap.size W w' := fOf
        obtain ⟨s, hs⟩ : ∃ s, N % 15 = s := ⟨_, rfl⟩
        have hs15 : s < 15 := by omega
        obtain ⟨g, hg⟩ : ∃ g, (f + (1 + s)) % 4294967296 = g := ⟨_, rfl⟩
        have hg2 : g < 4294967296 := by omega
        have hgn : g ∈ bkt.nb f := by rw [← hg]; exact nb_of (by omega)
        have hgf : f ≠ g := by omega
        have e1 : IntKind.u32.wrap ((f : Int) + 1) = (((f + 1) % 4294967296 : Nat) : Int) := by rw [wrapU]; omega
        have e2 : Int.tmod (N : Int) 15 = (s : Int) := by rw [Int.tmod_eq_emod_of_nonneg (by omega)]; omega
        have e3 : IntKind.u32.wrap ((((f + 1) % 4294967296 : Nat) : Int) + (s : Int)) = (g : Int) := by rw [wrapU]; omega
        generalize (((f + 1) % 4294967296 : Nat) : Int) = f1 at *
        have f7 := Take_any bb mb B hI.b g hg2 (t : Int)
        have HI2 : Hid (Inv f A (nxt B g (t : Int)) t) := hI.other hg2 hgn hgf hnt
        generalize nxt B g (t : Int) = B2 at *
        generalize ((err B g (t : Int) : Nat) : Int) = z at *
        clear fOf f5 f3 f4 m1 hI hI2 hg hgn hgf hs hs15
        go_wp2_with (first
          | (go_at_call 12; (with_reducible refine (fR' _).mono ?_); rintro e w4 ⟨rfl, hq⟩; have hq := hq.symm; subst hq)
          | (go_at_call 13; (with_reducible refine (fOf' _).mono ?_); rintro e w5 ⟨rfl, h5⟩
             have hP5 := hPE.below h5
             have hX5 := hXE.trans (h5.mono (by omega))
             have r3' := (h5.cell (p := ⟨E, 3, none⟩) (by show E < _; omega)).trans r3
             have hs5 : D ≤ w5.heap.size := by have := h5.size; omega)
          | (go_at_call 8; (with_reducible refine (f7 _ hP5.b).mono ?_); rintro e w7 ⟨rfl, hB7, hC7⟩
             have hP7 := hP5.right hB7 hC7
             have hX7 := hX5.trans (hC7.toBelow hs5 hP5.lb)
             have hs7 := Nat.le_trans hs5 hC7.size)
          | (go_at_call 8; (with_reducible refine (f6 _ hP7.a).mono ?_); rintro e w8 ⟨rfl, hA8, hC8⟩
             have hP8 := hP7.left hA8 hC8
             have hX8 := hX7.trans (hC8.toBelow hs7 hP7.la)))
        go_roundw
        case rel => exact ⟨k + 1, t, A, B2, by omega, ht2, by go_num, rfl, hP8, HI2.out, hX8⟩
        case measure => simp [intOf]; omega
    · obtain rfl : k = n := by omega
      have d0 : decide ((k : Int) < (k : Int)) = false := decide_eq_false (by omega)
      go_wp2
      go_ret
      exact ⟨rfl, hX⟩

/-! ### The row's step -/
set_option maxRecDepth 100000 in
theorem lifted (os : Os) (started : os.Started) (H : Type) (enc : TypeId × Value → H) :
    ReturnsInHanded {} Try.checked os 5 .any (Rows.bucketFairSpec.pre6 enc Try.prog Try.f5 Rows.bucketFairRow.domain false) (Rows.bucketFairSpec.post enc Try.prog Try.f5 false true false false) := by
  refine returnsInHanded_of_change_sized (C := Try.checked) own started (by kernel_rfl) Try.func5
    (ChangeSpec.witness6 (enc := enc) (C := Try.checked) false ⟨#[], #[.int .u32 0, .slice none 0 0], []⟩ 8 (by kernel_rfl) (by kernel_rfl) (by kernel_rfl) (by kernel_rfl)) ?_
  intro W base args ds gs before hval0 hW _ hz0 _
  have hz : (DataW.weightsEach Try.prog (Try.f5.params.toList ++ Rows.bucketFairSpec.plain.varTypes Try.prog) (ds ++ gs)).all (· ≤ reachBytes) = true := hz0
  clear hz0
  have hval : ∀ (j : Nat) t v, Try.f5.params[j]? = some t → args[j]? = some v → Value.okWide Try.prog W .any base t v := hval0
  have hW' := hW
  obtain ⟨p, q, hA0, hV, rfl, hfz, hnd⟩ := hW
  have hA : DataW.TrodAll enc Try.prog W 0 (fun _ => true) true Try.f5.params.toList args.toList ds p := hA0
  rw [Try.params5] at hA hval hz
  obtain ⟨v0, vs0, d0, ds0, p0, q0, hargs, rfl, rfl, h0, r0⟩ := trodAll_cons hA
  obtain ⟨v1, vs1, d1, ds1, p1, q1, rfl, rfl, rfl, h1, r1⟩ := trodAll_cons r0
  obtain ⟨rfl, rfl, rfl⟩ := trodAll_nil r1
  obtain rfl : args = #[v0, v1] := by cases args; simp_all
  obtain ⟨rfl, rfl⟩ := trodVars_none hV
  obtain ⟨s0, rfl, rfl, rfl, m0⟩ := open_int Try.underlying30 (hval 0 30 v0 rfl rfl) h0
  obtain ⟨a1, n1, c1, rfl⟩ := okWide_slice Try.underlying22 (hval 1 22 v1 rfl rfl)
  have l1 : ∀ x ∈ p1, x.block < W.heap.size := fun x hx => by
    have := hW'.lt x (by simp [hx])
    simpa using this
  obtain ⟨z1, i1, b1, e1⟩ := step_open h1 l1
  have y1 : n1 * 64 ≤ reachBytes := by
    rcases e1 with ⟨_, e1⟩ | ⟨es, sp, e1, g1⟩
    · rw [e1]; decide
    · have h := sized_slice hz (j := 1) (t := 22) (e := 34) (by rfl) (by rw [e1]; rfl) Try.underlying22
      rw [bytesSTEP] at h
      try simp only [List.length_append] at h
      omega
  clear hA0 hval0 hz
  simp only [List.append_nil] at hW'
  refine (walk W s0 m0 a1 n1 c1 z1 i1 y1 b1).mono fun e W' ⟨he, hg⟩ => ?_
  subst he
  exact ⟨_, rfl, _, _, _, [], ([] ++ (p1 ++ [])), [], hW', trodAll_cons_mk (shut_bool Try.underlying4 _) trodAll_mk0, (trodAll_cons_mk (shut_int Try.underlying30 m0) (trodAll_cons_mk (step_shut h1 l1 hg) trodAll_mk0)), rfl, hg.frame _, fun h => by cases h⟩

/-- THE STATEMENT. -/
theorem proved : Rows.BucketFairSaid :=
  OpenClaim.holds_of_wide 5 Try.f5 rfl rfl rfl rfl rfl rfl rfl ⟨rfl, rfl, rfl, rfl, rfl⟩ rfl rfl rfl rfl rfl (by kernel_rfl) Try.func5 (by kernel_rfl)
    (of_decide_eq_true (by kernel_rfl)) (by unfold Func.isWrapper; first | (rw [if_pos (by decide +kernel)]; kernel_rfl) | (rw [if_neg (by decide +kernel)]; exact ⟨rfl, rfl⟩))
    (fun os started H enc _ => lifted os started H enc)
end Go.Proofs.Ytnomfkmdckmjeaa.bucketFair
