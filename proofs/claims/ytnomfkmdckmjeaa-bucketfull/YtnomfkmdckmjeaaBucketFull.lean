/-
  BucketFull: whatever number a source has, the call returns true: sixteen sources are let in at once, one more is not, and is once time has gone by.
-/
import Derived.Test.YtnomfkmdckmjeaaBucketTake
import Derived.Test.YtnomfkmdckmjeaaPlainBucketFull
import Derived.Test.YtnomfkmdckmjeaaFrame
namespace Go.Proofs.Ytnomfkmdckmjeaa.bucketFull
open Go.ChangeShapes Go.WideShapes Go.ChangeAt Go.RowKit
open bkt

set_option maxRecDepth 100000 in
set_option maxHeartbeats 3200000 in
theorem walk (n : Int) (hn : (Lit.int .u32 n).wf = true) (w : World) :
    Calls Try.prog 6 #[.int .u32 n] w fun e w' => e = .returned (.bool true) ∧ Below w.heap.size w w' := by
  have bf := u32_bd hn
  obtain ⟨f, rfl⟩ : ∃ f : Nat, n = (f : Int) := ⟨n.toNat, by omega⟩
  have hf : f < 4294967296 := by omega
  have f0 := New_any w
  obtain ⟨m, hm⟩ : ∃ m, w.heap.size = m := ⟨_, rfl⟩
  rw [hm] at f0 ⊢
  obtain ⟨b, hb⟩ : ∃ b, m + 1 = b := ⟨_, rfl⟩
  rw [hb] at f0
  have hmb : m ≤ b := by omega
  have two_le : ∀ k, two b m k → m ≤ k := fun k hk => by rcases hk with rfl | rfl <;> omega
  have g1 : ∀ i, i < 16 → ∀ W, Bm W b m ⟨0, fl f i⟩ → Calls Try.prog 8 #[.pointer (some ⟨b, 0, none⟩), .int .u32 (((f + i) % 4294967296 : Nat) : Int), .int .i64 0] W fun e w' => e = .returned (.int .i64 0) ∧ Bm w' b m ⟨0, fl f (i + 1)⟩ ∧ Chg (two b m) W w' := fun i hi W hB => by
    have := Take_any b m _ (fl_ok f i (by omega)) ((f + i) % 4294967296) (Nat.mod_lt _ (by decide)) 0 W hB
    rwa [(fl_take f i hi).1, (fl_take f i hi).2] at this
  have g2 : ∀ W, Bm W b m ⟨0, fl f 16⟩ → Calls Try.prog 8 #[.pointer (some ⟨b, 0, none⟩), .int .u32 (((f + 16) % 4294967296 : Nat) : Int), .int .i64 0] W fun e w' => e = .returned (.int .i64 9) ∧ Bm w' b m ⟨0, fl f 16⟩ ∧ Chg (two b m) W w' := fun W hB => by
    have := Take_any b m _ (fl_ok f 16 (by omega)) ((f + 16) % 4294967296) (Nat.mod_lt _ (by decide)) 0 W hB
    rwa [(fl_full f).1, (fl_full f).2] at this
  have g3 : ∀ W, Bm W b m ⟨0, fl f 16⟩ → Calls Try.prog 8 #[.pointer (some ⟨b, 0, none⟩), .int .u32 (f : Int), .int .i64 0] W fun e w' => e = .returned (.int .i64 0) ∧ Bm w' b m ⟨0, (f, 3) :: rs f⟩ ∧ Chg (two b m) W w' := fun W hB => by
    have := Take_any b m _ (fl_ok f 16 (by omega)) f hf 0 W hB
    rwa [(fl_one f hf).1, (fl_one f hf).2] at this
  have g4 : ∀ W, Bm W b m ⟨0, (f, 3) :: rs f⟩ → Calls Try.prog 8 #[.pointer (some ⟨b, 0, none⟩), .int .u32 (((f + 16) % 4294967296 : Nat) : Int), .int .i64 1] W fun e w' => e = .returned (.int .i64 0) ∧ Bm w' b m ⟨1, [(f, 4), ((f + 16) % 4294967296, 4)]⟩ ∧ Chg (two b m) W w' := fun W hB => by
    have := Take_any b m _ (rs_ok f hf) ((f + 16) % 4294967296) (Nat.mod_lt _ (by decide)) 1 W hB
    rwa [(rs_take f hf).1, (rs_take f hf).2] at this
  have g5 : ∀ W, Bm W b m ⟨1, [(f, 4), ((f + 16) % 4294967296, 4)]⟩ → Calls Try.prog 10 #[.pointer (some ⟨b, 0, none⟩), .int .u32 (((f + 16) % 4294967296 : Nat) : Int)] W fun e w' => e = .returned (.int .i64 4) ∧ w' = W := fun W hB => by
    have := Left_any b m _ (rs_ok2 f hf).keys ((f + 16) % 4294967296) (Nat.mod_lt _ (by decide)) W hB
    rwa [show left (St.mk 1 [(f, 4), ((f + 16) % 4294967296, 4)]).l ((f + 16) % 4294967296) = 4 from (rs_left f hf).1] at this
  have g6 : ∀ W, Bm W b m ⟨1, [(f, 4), ((f + 16) % 4294967296, 4)]⟩ → Calls Try.prog 10 #[.pointer (some ⟨b, 0, none⟩), .int .u32 (((f + 17) % 4294967296 : Nat) : Int)] W fun e w' => e = .returned (.int .i64 5) ∧ w' = W := fun W hB => by
    have := Left_any b m _ (rs_ok2 f hf).keys ((f + 17) % 4294967296) (Nat.mod_lt _ (by decide)) W hB
    rwa [show left (St.mk 1 [(f, 4), ((f + 16) % 4294967296, 4)]).l ((f + 17) % 4294967296) = 5 from (rs_left f hf).2] at this
  have e16 : IntKind.u32.wrap ((f : Int) + 16) = (((f + 16) % 4294967296 : Nat) : Int) := by rw [wrapU]; omega
  have e17 : IntKind.u32.wrap ((f : Int) + 17) = (((f + 17) % 4294967296 : Nat) : Int) := by rw [wrapU]; omega
  generalize (((f + 16) % 4294967296 : Nat) : Int) = x16 at *
  generalize (((f + 17) % 4294967296 : Nat) : Int) = x17 at *
  have hmw : m ≤ w.heap.size := by omega
  clear hm hn hb bf
  go_enter Try.func6, Try.ntmps6
  go_wp2_with (go_at_call 7; (with_reducible refine f0.mono ?_); rintro e w1 ⟨rfl, hB1, hX1⟩)
  go_loopw [9] (fun i wr => ∃ k : Nat, k ≤ 16 ∧ i = .int .u32 (k : Int) ∧ Bm wr b m ⟨0, fl f k⟩ ∧ Below m w wr) (fun i _ => 16 - (intOf i).toNat)
  case atStart => exact ⟨0, by omega, rfl, hB1, hX1⟩
  case round =>
    clear hB1 hX1
    obtain ⟨k, hk, rfl, hB, hX⟩ := hrel
    have hsz := Nat.le_trans hmw hX.size
    by_cases hlt : k < 16
    · have d0 : decide ((k : Int) < 16) = true := decide_eq_true (by omega)
      have g := g1 k hlt
      have ek : IntKind.u32.wrap ((f : Int) + (k : Int)) = (((f + k) % 4294967296 : Nat) : Int) := by rw [wrapU]; omega
      have e1 : IntKind.u32.wrap ((k : Int) + 1) = ((k + 1 : Nat) : Int) := by rw [wrapU]; omega
      generalize (((f + k) % 4294967296 : Nat) : Int) = xk at *
      clear g1 g2 g3 g4 g5 g6 e16 e17
      go_wp2_with (go_at_call 8; (with_reducible refine (g _ (by assumption)).mono ?_); rintro e w2 ⟨rfl, hB2, hC2⟩)
      go_roundw
      case rel => exact ⟨k + 1, by omega, by go_num, hB2, hX.trans (hC2.toBelow hsz two_le)⟩
      case measure => simp [intOf]; omega
    · obtain rfl : k = 16 := by omega
      have d0 : decide (((16 : Nat) : Int) < 16) = false := rfl
      clear g1
      go_wp2_with (first
        | (go_at_call 8; (with_reducible refine (g2 _ (by assumption)).mono ?_); rintro e w2 ⟨rfl, hB2, hC2⟩; clear hB)
        | (go_at_call 8; (with_reducible refine (g3 _ (by assumption)).mono ?_); rintro e w3 ⟨rfl, hB3, hC3⟩)
        | (go_at_call 8; (with_reducible refine (g4 _ (by assumption)).mono ?_); rintro e w4 ⟨rfl, hB4, hC4⟩)
        | (go_at_call 10; (with_reducible refine (g5 _ (by assumption)).mono ?_); rintro e w5 ⟨rfl, rfl⟩)
        | (go_at_call 10; (with_reducible refine (g6 _ (by assumption)).mono ?_); rintro e w6 ⟨rfl, rfl⟩))
      go_ret
      exact ⟨rfl, hX.trans (((hC2.trans hC3).trans hC4).toBelow hsz two_le)⟩

/-! ### The row's step -/
set_option maxRecDepth 100000 in
theorem lifted (os : Os) (started : os.Started) (H : Type) (enc : TypeId × Value → H) :
    ReturnsInHanded {} Try.checked os 6 .any (Rows.bucketFullSpec.pre6 enc Try.prog Try.f6 Rows.bucketFullRow.domain false) (Rows.bucketFullSpec.post enc Try.prog Try.f6 false true false false) := by
  refine returnsInHanded_of_change (C := Try.checked) own started (by kernel_rfl) Try.func6
    (ChangeSpec.witness6 (enc := enc) (C := Try.checked) false ⟨#[], #[.int .u32 0], []⟩ 8 (by kernel_rfl) (by kernel_rfl) (by kernel_rfl) (by kernel_rfl)) ?_
  intro W base args ds gs before hval0 hW _ _
  have hval : ∀ (j : Nat) t v, Try.f6.params[j]? = some t → args[j]? = some v → Value.okWide Try.prog W .any base t v := hval0
  have hW' := hW
  obtain ⟨p, q, hA0, hV, rfl, hfz, hnd⟩ := hW
  have hA : DataW.TrodAll enc Try.prog W 0 (fun _ => true) true Try.f6.params.toList args.toList ds p := hA0
  rw [Try.params6] at hA hval
  obtain ⟨v0, vs0, d0, ds0, p0, q0, hargs, rfl, rfl, h0, r0⟩ := trodAll_cons hA
  obtain ⟨rfl, rfl, rfl⟩ := trodAll_nil r0
  obtain rfl : args = #[v0] := by cases args; simp_all
  obtain ⟨rfl, rfl⟩ := trodVars_none hV
  obtain ⟨s0, rfl, rfl, rfl, m0⟩ := open_int Try.underlying30 (hval 0 30 v0 rfl rfl) h0
  clear hA0 hval0
  simp only [List.append_nil] at hW'
  refine (walk s0 m0 W).mono fun e W' ⟨he, hg⟩ => ?_
  subst he
  exact ⟨_, rfl, _, _, _, [], [], [], hW', trodAll_cons_mk (shut_bool Try.underlying4 _) trodAll_mk0, (trodAll_cons_mk (shut_int Try.underlying30 m0) trodAll_mk0), rfl, hg.frame _, fun h => by cases h⟩

/-- THE STATEMENT. -/
theorem proved : Rows.BucketFullSaid :=
  OpenClaim.holds_of_wide 6 Try.f6 rfl rfl rfl rfl rfl rfl rfl ⟨rfl, rfl, rfl, rfl, rfl⟩ rfl rfl rfl rfl rfl (by kernel_rfl) Try.func6 (by kernel_rfl)
    (of_decide_eq_true (by kernel_rfl)) (by unfold Func.isWrapper; first | (rw [if_pos (by decide +kernel)]; kernel_rfl) | (rw [if_neg (by decide +kernel)]; exact ⟨rfl, rfl⟩))
    (fun os started H enc _ => lifted os started H enc)
end Go.Proofs.Ytnomfkmdckmjeaa.bucketFull
