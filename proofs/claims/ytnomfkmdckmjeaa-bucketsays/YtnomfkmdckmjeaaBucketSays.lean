/-
  BucketSays: whatever steps are taken, the call returns true: Take and Left of a bucket answer what the document's bucket answers.
-/
import Derived.Test.YtnomfkmdckmjeaaBucketTake
import Derived.Test.YtnomfkmdckmjeaaRefBucketTake
import Derived.Test.YtnomfkmdckmjeaaKeepOf
import Derived.Test.YtnomfkmdckmjeaaFrame
import Derived.Deep.RegionHeld3
namespace Go.Proofs.Ytnomfkmdckmjeaa.bucketSays
open Go.ChangeShapes Go.WideShapes Go.ChangeAt Go.RowKit
open bkt
open rbkt (RBm Two)

theorem chg_cell {F : Nat → Prop} {w w' : World} (h : Chg F w w') {E i : Nat} (hE : E < w.heap.size) (hx : ¬ F E) {v : Value} (hv : w.cell? ⟨E, i, none⟩ = some v) : w'.cell? ⟨E, i, none⟩ = some v :=
  (World.cell?_of_block (h.same E hE hx)).trans hv
set_option maxRecDepth 100000 in
set_option maxHeartbeats 6400000 in
theorem walk (w : World) (a : Option Addr) (n c : Nat) (zs : List StepV) (hi : Steps w w.heap.size a n zs) (hr : n * 64 ≤ reachBytes) (hz : ∀ z ∈ zs, z.Fits) :
    Calls Try.prog 3 #[.slice a n c] w fun e w' => e = .returned (.bool true) ∧ Below w.heap.size w w' := by
  have hrb : reachBytes < 140737488355328 := by decide
  have hn : n < 17592186044416 := by omega
  have HI : Hid (Steps w w.heap.size a n zs) := hi
  have HZ : Hid (∀ z ∈ zs, z.Fits) := hz
  have f0 := New_any w
  obtain ⟨D, hD⟩ : ∃ D, w.heap.size = D := ⟨_, rfl⟩
  have hDw : D ≤ w.heap.size := Nat.le_of_eq hD.symm
  rw [hD] at HI f0 ⊢
  clear hi hz hr hrb hD
  go_enter Try.func3, Try.ntmps3
  go_wp2_with (go_at_call 7; (with_reducible refine f0.mono ?_); rintro e w1 ⟨rfl, hB1, hX1⟩)
  obtain ⟨b, hb⟩ : ∃ b, D + 1 = b := ⟨_, rfl⟩
  obtain ⟨m, hm⟩ : ∃ m, D = m := ⟨_, rfl⟩
  obtain ⟨d, hd⟩ : ∃ d, w1.heap.size = d := ⟨_, rfl⟩
  have hlt1 := hB1.blk.lt
  have hB2 := hB1.below ((Below.refl _ w1).alloc (Nat.le_refl _) (.cells #[.int .i64 0, .slice none 0 0, .slice none 0 0] 29))
  have hR2 : RBm (w1.alloc (.cells #[.int .i64 0, .slice none 0 0, .slice none 0 0] 29)) d ⟨0, []⟩ := by
    refine ⟨none, 0, none, 0, ?_, Two.nil _ _⟩
    rw [← hd]
    exact Blk.new w1 29 [.int .i64 0, .slice none 0 0, .slice none 0 0] _ rfl
  have hX2 : Below D w (w1.alloc (.cells #[.int .i64 0, .slice none 0 0, .slice none 0 0] 29)) := hX1.alloc (by omega) _
  rw [hb] at hlt1 hB2 ⊢
  have hbd : b < d := by omega
  have hmd : m < d := by omega
  have hDb : D ≤ b := by omega
  have hDm : D ≤ m := by omega
  have hB3 : Bm (w1.alloc (.cells #[.int .i64 0, .slice none 0 0, .slice none 0 0] 29)) b m ⟨0, []⟩ := by rw [← hm]; exact hB2
  rw [hd]
  have tF : ∀ k, d ≤ k → ¬ two b m k := fun k hk => by rintro (rfl | rfl) <;> omega
  have tD : ∀ k, two b m k → D ≤ k := fun k => by rintro (rfl | rfl) <;> omega
  generalize w1.alloc (.cells #[.int .i64 0, .slice none 0 0, .slice none 0 0] 29) = w2 at *
  clear hB1 hX1 hB2 hlt1 hb hm hd f0
  go_loopw [14] (fun i wr => ∃ (k : Nat) (S : St), k ≤ n ∧ i = .int .i64 (k : Int) ∧ S.Ok ∧ Bm wr b m S ∧ RBm wr d S ∧ Below D w wr) (fun i _ => n - (intOf i).toNat)
  case atStart => exact ⟨0, _, Nat.zero_le _, rfl, St.Ok.start, hB3, hR2, hX2⟩
  case round =>
    clear hB3 hR2 hX2
    obtain ⟨k, S, hk, rfl, hO, hB, hR, hX⟩ := hrel
    have k0 : (0 : Int) ≤ (k : Int) := by omega
    have k1 : (k : Int) ≤ 17592186044416 := by omega
    have hlen := HI.out.len
    have hDs : D ≤ wr.heap.size := by have := hX.size; omega
    by_cases hlt : k < n
    · have d0 : decide ((k : Int) < (n : Int)) = true := decide_eq_true (by omega)
      obtain ⟨b', o, hix, hbD, hc⟩ := (HI.out.below hX (Nat.le_refl _)).at c k hlt (by omega)
      have hfit : (zs[k]'(by omega)).Fits := HZ.out _ (List.getElem_mem _)
      generalize zs[k]'(by omega) = y at *
      have hBE := Blk.new wr 34 (cells8 y) _ rfl
      have hAl : Below wr.heap.size wr (wr.alloc (.cells (cells8 y).toArray 34)) := (Below.refl _ wr).alloc (Nat.le_refl _) _
      have hBd : Bm (wr.alloc (.cells (cells8 y).toArray 34)).drew b m S := (hB.below hAl).below (Below.refl _ _).drew
      have hRd : RBm (wr.alloc (.cells (cells8 y).toArray 34)).drew d S := (hR.below hAl).below (Below.refl _ _).drew
      have hXd : Below D w (wr.alloc (.cells (cells8 y).toArray 34)).drew := (hX.alloc hDs _).drew
      have hsd : wr.heap.size + 1 ≤ (wr.alloc (.cells (cells8 y).toArray 34)).drew.heap.size := by show _ ≤ (wr.alloc _).heap.size; simp
      have hdE := hR.lt
      have bN := u32_bd hfit.num
      obtain ⟨N, hN⟩ : ∃ N : Nat, y.n = (N : Int) := ⟨y.n.toNat, by omega⟩
      have hN2 : N < 4294967296 := by omega
      obtain ⟨kind, xa, xb, xn, xm, xs, xad, xbi⟩ := y
      simp only at hN
      subst hN
      have q0 := hc 0 _ rfl
      have q1 := hc 1 _ rfl
      have q2 := hc 2 _ rfl
      have q3 := hc 3 _ rfl
      have q4 := hc 4 _ rfl
      have q5 := hc 5 _ rfl
      have q6 := hc 6 _ rfl
      have q7 := hc 7 _ rfl
      rw [Nat.add_zero] at q0
      obtain ⟨E, hE⟩ : ∃ E, wr.heap.size = E := ⟨_, rfl⟩
      have r0 := hBE.cell 0 _ rfl
      have r1 := hBE.cell 1 _ rfl
      have r2 := hBE.cell 2 _ rfl
      have r3 := hBE.cell 3 _ rfl
      have r4 := hBE.cell 4 _ rfl
      have r5 := hBE.cell 5 _ rfl
      have r6 := hBE.cell 6 _ rfl
      have r7 := hBE.cell 7 _ rfl
      rw [hE] at hBE hsd hdE r0 r1 r2 r3 r4 r5 r6 r7 hDs
      unfold cells8 at hBE hBd hRd hXd hsd r0 r1 r2 r3 r4 r5 r6 r7
      have r1d : (wr.alloc (.cells [Value.int .i64 kind, .int .i64 xa, .int .i64 xb, .int .u32 (N : Int), .int .u32 xm, .string xs, .int .u32 xad, .int .i64 xbi].toArray 34)).drew.cell? ⟨E, 1, none⟩ = some (.int .i64 xa) := r1
      have r3d : (wr.alloc (.cells [Value.int .i64 kind, .int .i64 xa, .int .i64 xb, .int .u32 (N : Int), .int .u32 xm, .string xs, .int .u32 xad, .int .i64 xbi].toArray 34)).drew.cell? ⟨E, 3, none⟩ = some (.int .u32 (N : Int)) := r3
      have f1 := Take_any b m S hO N hN2 xa
      have f2 := rbkt.Take_any d S hO N xa
      have hO2 := hO.nxt hN2 xa
      have HO2 : Hid (nxt S N xa).Ok := hO2
      obtain ⟨x1, hx1⟩ : ∃ x1, (N + 1) % 4294967296 = x1 := ⟨_, rfl⟩
      have hx12 : x1 < 4294967296 := by omega
      have f3 := Left_any b m (nxt S N xa) hO2.keys N hN2
      have f4 := rbkt.Of_any d (nxt S N xa) hO2.keys hO2.few N
      have f5 := Left_any b m (nxt S N xa) hO2.keys x1 hx12
      have f6 := rbkt.Of_any d (nxt S N xa) hO2.keys hO2.few x1
      have ex1 : IntKind.u32.wrap ((N : Int) + 1) = (x1 : Int) := by rw [wrapU]; omega
      generalize nxt S N xa = S2 at *
      generalize ((err S N xa : Nat) : Int) = u at *
      generalize ((left S2.l N : Nat) : Int) = u3 at *
      generalize ((left S2.l x1 : Nat) : Int) = u5 at *
      have m1 : (u != u) = false := by simp
      have m3 : (u3 != u3) = false := by simp
      have m5 : (u5 != u5) = false := by simp
      clear hc hfit hX hbD hO2 hx1 hO hAl hBE
      go_wp2
      go_region_held3 (fun w' => w'.cell? ⟨E, 1, none⟩ = some (.int .i64 xa) ∧ w'.cell? ⟨E, 3, none⟩ = some (.int .u32 (N : Int)))
        (first
          | go_keep)
        (first
          | (go_at_call 8; (with_reducible refine (f1 _ hBd).mono ?_); rintro e w6 ⟨rfl, hB6, hC6⟩
             have hR6 := hRd.chg hC6 (fun k hk _ => tF k hk)
             have hX6 := hXd.trans (hC6.toBelow (by omega) tD)
             have r61 := chg_cell hC6 (by omega) (tF E (by omega)) r1d
             have r63 := chg_cell hC6 (by omega) (tF E (by omega)) r3d
             have hs6 := Nat.le_trans hsd hC6.size)
          | (go_at_call 9; (with_reducible refine (f2 _ hR6).mono ?_); rintro e w7 ⟨rfl, hR7, hC7⟩
             have hB7 := hB6.chg hC7 (by show ¬ b = d; omega) (by show ¬ m = d; omega)
             have hX7 := hX6.trans (hC7.toBelow (B := D) (by omega) (fun k hk => by have hk : k = d := hk; omega))
             have r71 := chg_cell hC7 (by omega) (show ¬ E = d by omega) r61
             have r73 := chg_cell hC7 (by omega) (show ¬ E = d by omega) r63
             have hs7 := Nat.le_trans hs6 hC7.size)
          | (go_at_call 10; (first | (with_reducible refine (f3 _ hB7).mono ?_) | (with_reducible refine (f5 _ hB7).mono ?_)); rintro e w8 ⟨rfl, hq⟩; have hq := hq.symm; subst hq)
          | (go_at_call 11; (first | (with_reducible refine (f4 _ hR7).mono ?_) | (with_reducible refine (f6 _ hR7).mono ?_)); rintro e w8 ⟨rfl, hq⟩; have hq := hq.symm; subst hq))
      go_wp2
      go_roundw
      case rel => exact ⟨k + 1, S2, by omega, by go_num, HO2.out, hB7, hR7, hX7⟩
      case measure => simp [intOf]; omega
    · obtain rfl : k = n := by omega
      have d0 : decide ((k : Int) < (k : Int)) = false := decide_eq_false (by omega)
      have f1 := Take_any b m S hO 0 (by decide) (-1)
      rw [(bad_err (bad_neg _) 0).1, (bad_err (bad_neg _) 0).2] at f1
      have f1' : ∀ W, Bm W b m S → Calls Try.prog 8 #[.pointer (some ⟨b, 0, none⟩), .int .u32 0, .int .i64 (-1)] W fun e w' => e = .returned (.int .i64 1) ∧ Bm w' b m S ∧ Chg (two b m) W w' := f1
      clear f1 hO
      go_wp2_with (go_at_call 8; (with_reducible refine (f1' _ hB).mono ?_); rintro e w6 ⟨rfl, hB6, hC6⟩)
      go_ret
      exact ⟨rfl, hX.trans (hC6.toBelow hDs tD)⟩

/-! ### The row's step -/
set_option maxRecDepth 100000 in
theorem lifted (os : Os) (started : os.Started) (H : Type) (enc : TypeId × Value → H) :
    ReturnsInHanded {} Try.checked os 3 .any (Rows.bucketSaysSpec.pre6 enc Try.prog Try.f3 Rows.bucketSaysRow.domain false) (Rows.bucketSaysSpec.post enc Try.prog Try.f3 false true false false) := by
  refine returnsInHanded_of_change_sized (C := Try.checked) own started (by kernel_rfl) Try.func3
    (ChangeSpec.witness6 (enc := enc) (C := Try.checked) false ⟨#[], #[.slice none 0 0], []⟩ 8 (by kernel_rfl) (by kernel_rfl) (by kernel_rfl) (by kernel_rfl)) ?_
  intro W base args ds gs before hval0 hW _ hz0 _
  have hz : (DataW.weightsEach Try.prog (Try.f3.params.toList ++ Rows.bucketSaysSpec.plain.varTypes Try.prog) (ds ++ gs)).all (· ≤ reachBytes) = true := hz0
  clear hz0
  have hval : ∀ (j : Nat) t v, Try.f3.params[j]? = some t → args[j]? = some v → Value.okWide Try.prog W .any base t v := hval0
  have hW' := hW
  obtain ⟨p, q, hA0, hV, rfl, hfz, hnd⟩ := hW
  have hA : DataW.TrodAll enc Try.prog W 0 (fun _ => true) true Try.f3.params.toList args.toList ds p := hA0
  rw [Try.params3] at hA hval hz
  obtain ⟨v0, vs0, d0, ds0, p0, q0, hargs, rfl, rfl, h0, r0⟩ := trodAll_cons hA
  obtain ⟨rfl, rfl, rfl⟩ := trodAll_nil r0
  obtain rfl : args = #[v0] := by cases args; simp_all
  obtain ⟨rfl, rfl⟩ := trodVars_none hV
  obtain ⟨a0, n0, c0, rfl⟩ := okWide_slice Try.underlying22 (hval 0 22 v0 rfl rfl)
  have l0 : ∀ x ∈ p0, x.block < W.heap.size := fun x hx => by
    have := hW'.lt x (by simp [hx])
    simpa using this
  obtain ⟨z0, i0, b0, e0⟩ := step_open h0 l0
  have y0 : n0 * 64 ≤ reachBytes := by
    rcases e0 with ⟨_, e0⟩ | ⟨es, sp, e0, g0⟩
    · rw [e0]; decide
    · have h := sized_slice hz (j := 0) (t := 22) (e := 34) (by rfl) (by rw [e0]; rfl) Try.underlying22
      rw [bytesSTEP] at h
      try simp only [List.length_append] at h
      omega
  clear hA0 hval0 hz
  simp only [List.append_nil] at hW'
  refine (walk W a0 n0 c0 z0 i0 y0 b0).mono fun e W' ⟨he, hg⟩ => ?_
  subst he
  exact ⟨_, rfl, _, _, _, [], (p0 ++ []), [], hW', trodAll_cons_mk (shut_bool Try.underlying4 _) trodAll_mk0, (trodAll_cons_mk (step_shut h0 l0 hg) trodAll_mk0), rfl, hg.frame _, fun h => by cases h⟩

/-- THE STATEMENT. -/
theorem proved : Rows.BucketSaysSaid :=
  OpenClaim.holds_of_wide 3 Try.f3 rfl rfl rfl rfl rfl rfl rfl ⟨rfl, rfl, rfl, rfl, rfl⟩ rfl rfl rfl rfl rfl (by kernel_rfl) Try.func3 (by kernel_rfl)
    (of_decide_eq_true (by kernel_rfl)) (by unfold Func.isWrapper; first | (rw [if_pos (by decide +kernel)]; kernel_rfl) | (rw [if_neg (by decide +kernel)]; exact ⟨rfl, rfl⟩))
    (fun os started H enc _ => lifted os started H enc)
end Go.Proofs.Ytnomfkmdckmjeaa.bucketSays
