/-
  BucketBurst, where what it reads is of bulk at most 1048576: whatever number a source has, whatever it waits, the call returns true: it has five turns at once, and then one for each tick, and no more.
-/
import Derived.Test.YtnomfkmdckmjeaaBucketTake
import Derived.Test.YtnomfkmdckmjeaaPlainBucketBurst
import Derived.Test.YtnomfkmdckmjeaaListRow
import Derived.Test.YtnomfkmdckmjeaaKeepRest
import Derived.Test.YtnomfkmdckmjeaaFrame
import Derived.Test.YtnomfkmdckmjeaaBulk
import Derived.JoinedCond
namespace Go.Proofs.Ytnomfkmdckmjeaa.bucketBurst
open Go.ChangeShapes Go.WideShapes Go.ChangeAt Go.RowKit
open bkt

theorem i64_bd {n : Int} (h : (Lit.int .i64 n).wf = true) : -9223372036854775808 ≤ n ∧ n ≤ 9223372036854775807 := by
  simp [Lit.wf] at h
  have h0 : IntKind.i64.min = -9223372036854775808 := rfl
  have h1 : IntKind.i64.max = 9223372036854775807 := rfl
  omega
set_option maxRecDepth 100000 in
set_option maxHeartbeats 6400000 in
theorem walk (w : World) (v : Int) (hv : (Lit.int .u32 v).wf = true) (a : Option Addr) (n c : Nat) (zs : List Int) (hi : Ints w w.heap.size a n zs) (hn : n ≤ 1048576) (hz : ∀ z ∈ zs, (Lit.int .i64 z).wf = true) :
    Calls Try.prog 4 #[.int .u32 v, .slice a n c] w fun e w' => e = .returned (.bool true) ∧ Below w.heap.size w w' := by
  have bv := u32_bd hv
  obtain ⟨f, rfl⟩ : ∃ f : Nat, v = (f : Int) := ⟨v.toNat, by omega⟩
  have hf : f < 4294967296 := by omega
  have HI : Hid (Ints w w.heap.size a n zs) := hi
  have HZ : Hid (∀ z ∈ zs, (Lit.int .i64 z).wf = true) := hz
  have f0 := New_any w
  obtain ⟨m, hm⟩ : ∃ m, w.heap.size = m := ⟨_, rfl⟩
  have hmw : m ≤ w.heap.size := Nat.le_of_eq hm.symm
  rw [hm] at f0 HI ⊢
  obtain ⟨b, hb⟩ : ∃ b, m + 1 = b := ⟨_, rfl⟩
  rw [hb] at f0
  have two_le : ∀ k, two b m k → m ≤ k := fun k hk => by rcases hk with rfl | rfl <;> omega
  clear hm hb bv hi hz hv
  go_enter Try.func4, Try.ntmps4
  go_wp2_with (go_at_call 7; (with_reducible refine f0.mono ?_); rintro e w1 ⟨rfl, hB1, hX1⟩)
  clear f0
  go_loopw [16, 6, 7] (fun i t l wr => ∃ (k now x : Nat) (S : St), k ≤ n ∧ now ≤ 6 * k ∧ i = .int .i64 (k : Int) ∧ t = .int .i64 (now : Int) ∧ l = .int .i64 (x : Int) ∧ Bm wr b m S ∧ One f S now x ∧ Below m w wr) (fun i _ _ _ => n - (intOf i).toNat)
  case atStart => exact ⟨0, 0, 5, _, Nat.zero_le _, Nat.zero_le _, rfl, rfl, rfl, hB1, One.start f, hX1⟩
  case round =>
    clear hB1 hX1
    obtain ⟨k, now, x, S, hk, hnow, rfl, rfl, rfl, hB, hO, hX⟩ := hrel
    have k0 : (0 : Int) ≤ (k : Int) := by omega
    have k1 : (k : Int) ≤ 1048576 := by omega
    have hsz := Nat.le_trans hmw hX.size
    have hx5 := hO.le
    have hlen := HI.out.len
    have u0 : (0 : Int) ≤ (now : Int) := by omega
    have u1 : (now : Int) ≤ 6291456 := by omega
    by_cases hlt : k < n
    · have d0 : decide ((k : Int) < (n : Int)) = true := decide_eq_true (by omega)
      obtain ⟨b', o, hix, hbD, hc⟩ := (HI.out.below hX (Nat.le_refl _)).at c k hlt (by omega)
      have hzw := i64_bd (HZ.out _ (List.getElem_mem (l := zs) (n := k) (by omega)))
      generalize zs[k]'(by omega) = z at *
      have fR := rest_any z 7 (by decide) (by decide) hzw
      obtain ⟨r, hr⟩ : ∃ r, (z % ((7 : Nat) : Int)).toNat = r := ⟨_, rfl⟩
      have hr7 : r < 7 := by omega
      rw [hr] at fR
      have fR' : ∀ W, Calls Try.prog 12 #[.int .i64 z, .int .i64 7] W fun e w' => e = .returned (.int .i64 (r : Int)) ∧ w' = W := fR
      obtain ⟨t, ht⟩ : ∃ t, now + r = t := ⟨_, rfl⟩
      obtain ⟨he, hO2⟩ := hO.turn hf r (by omega)
      have f1 := Take_any b m S hO.ok f hf ((now + r : Nat) : Int)
      rw [he] at f1
      have f2 := Left_any b m (nxt S f ((now + r : Nat) : Int)) hO2.ok.keys f hf
      rw [hO2.x] at f2
      rw [ht] at f1 f2 hO2
      have HO : Hid (One f (nxt S f (t : Int)) t (min 5 (x + r) - 1)) := hO2
      have eN : (now : Int) + (r : Int) = (t : Int) := by omega
      have r0 : (0 : Int) ≤ (r : Int) := by omega
      have r1 : (r : Int) ≤ 6 := by omega
      have x0 : (0 : Int) ≤ (x : Int) := by omega
      have x1 : (x : Int) ≤ 5 := by omega
      obtain ⟨y, hy⟩ : ∃ y, min 5 (x + r) = y := ⟨_, rfl⟩
      rw [hy] at f1 f2 HO
      generalize nxt S f (t : Int) = S2 at *
      have ht2 : t ≤ 6 * (k + 1) := by omega
      clear fR he hO2 hO hzw hr ht hnow
      by_cases hy0 : y = 0
      · have ex : x = 0 := by omega
        have er : r = 0 := by omega
        subst hy0 ex er
        have et : t = now := by omega
        subst et
        have f1' : ∀ W, Bm W b m S → Calls Try.prog 8 #[.pointer (some ⟨b, 0, none⟩), .int .u32 (f : Int), .int .i64 (t : Int)] W fun e w' => e = .returned (.int .i64 15) ∧ Bm w' b m S2 ∧ Chg (two b m) W w' := f1
        have f2' : ∀ W, Bm W b m S2 → Calls Try.prog 10 #[.pointer (some ⟨b, 0, none⟩), .int .u32 (f : Int)] W fun e w' => e = .returned (.int .i64 0) ∧ w' = W := f2
        have fR2 : ∀ W, Calls Try.prog 12 #[.int .i64 z, .int .i64 7] W fun e w' => e = .returned (.int .i64 0) ∧ w' = W := fR'
        clear f1 f2 hy fR' eN r0 r1 hr7 x0 x1 hx5
        go_wp2_with (first
          | (go_at_call 12; (with_reducible refine (fR2 _).mono ?_); rintro e w4 ⟨rfl, hq⟩; have hq := hq.symm; subst hq)
          | (go_at_call 8; (with_reducible refine (f1' _ hB).mono ?_); rintro e w6 ⟨rfl, hB6, hC6⟩
             have hX6 := hX.trans (hC6.toBelow hsz two_le))
          | (go_at_call 10; (with_reducible refine (f2' _ hB6).mono ?_); rintro e w7 ⟨rfl, hq⟩; have hq := hq.symm; subst hq))
        go_roundw
        case rel => exact ⟨k + 1, t, 0, S2, by omega, ht2, by go_num, rfl, rfl, hB6, HO.out, hX6⟩
        case measure => simp [intOf]; omega
      · obtain ⟨l, hl⟩ : ∃ l, y = l + 1 := ⟨y - 1, by omega⟩
        subst hl
        rw [Nat.add_sub_cancel] at f2 HO
        have f1' : ∀ W, Bm W b m S → Calls Try.prog 8 #[.pointer (some ⟨b, 0, none⟩), .int .u32 (f : Int), .int .i64 (t : Int)] W fun e w' => e = .returned (.int .i64 0) ∧ Bm w' b m S2 ∧ Chg (two b m) W w' := by
          rw [if_neg (by omega)] at f1
          exact f1
        clear f1
        go_wp2_with (first
          | (go_at_call 12; (with_reducible refine (fR' _).mono ?_); rintro e w4 ⟨rfl, hq⟩; have hq := hq.symm; subst hq)
          | (go_at_call 8; (with_reducible refine (f1' _ hB).mono ?_); rintro e w6 ⟨rfl, hB6, hC6⟩
             have hX6 := hX.trans (hC6.toBelow hsz two_le))
          | (go_at_call 10; (with_reducible refine (f2 _ hB6).mono ?_); rintro e w7 ⟨rfl, hq⟩; have hq := hq.symm; subst hq))
        all_goals go_roundw
        all_goals first
          | exact ⟨k + 1, t, l, S2, by omega, ht2, by go_num, rfl, by go_num, hB6, HO.out, hX6⟩
          | (simp [intOf]; omega)
    · obtain rfl : k = n := by omega
      have d0 : decide ((k : Int) < (k : Int)) = false := decide_eq_false (by omega)
      have f1 := Take_any b m S hO.ok f hf ((now : Int) - 1)
      rw [hO.back.1, hO.back.2] at f1
      have f1' : ∀ W, Bm W b m S → Calls Try.prog 8 #[.pointer (some ⟨b, 0, none⟩), .int .u32 (f : Int), .int .i64 ((now : Int) - 1)] W fun e w' => e = .returned (.int .i64 1) ∧ Bm w' b m S ∧ Chg (two b m) W w' := f1
      clear f1 hO
      go_wp2_with (first
          | (go_at_call 8; (with_reducible refine (f1' _ hB).mono ?_); rintro e w6 ⟨rfl, hB6, hC6⟩))
      go_ret
      exact ⟨rfl, hX.trans (hC6.toBelow hsz two_le)⟩

/-! ### The row's step -/
set_option maxRecDepth 100000 in
theorem lifted (os : Os) (started : os.Started) (H : Type) (enc : TypeId × Value → H) (F : Stop.Interp) :
    ReturnsInHanded {} Try.checked os 4 .any ((Rows.OpenSpec.upto Rows.bucketBurstSpec).pre6 enc Try.prog Try.f4 Rows.bucketBurstUptoRow.domain false) (((Rows.OpenSpec.upto Rows.bucketBurstSpec).at F).post enc Try.prog Try.f4 false true false false) := by
  refine returnsInHanded_of_cond (C := Try.checked) (s := (Rows.OpenSpec.upto Rows.bucketBurstSpec)) (k := Rows.uptoSmall) rfl own started (by kernel_rfl) Try.func4
    (OpenSpec.witness (enc := enc) (C := Try.checked) (s := (Rows.OpenSpec.upto Rows.bucketBurstSpec)) (k := Rows.uptoSmall) rfl false ⟨#[], #[.int .u32 0, .slice none 0 0], []⟩ 8 (by kernel_rfl) (by kernel_rfl) (by kernel_rfl)
      (x := ([.lit (.int .u32 0), .nil], [], [])) (by kernel_rfl) rfl (by kernel_rfl)) ?_
  intro W base args ds gs before hval0 hW _ hk _
  have hval : ∀ (j : Nat) t v, Try.f4.params[j]? = some t → args[j]? = some v → Value.okWide Try.prog W .any base t v := hval0
  have hW' := hW
  obtain ⟨p, q, hA0, hV, rfl, hfz, hnd⟩ := hW
  have hA : DataW.TrodAll enc Try.prog W 0 (fun _ => true) true Try.f4.params.toList args.toList ds p := hA0
  rw [Try.params4] at hA hval
  obtain ⟨v0, vs0, d0, ds0, p0, q0, hargs, rfl, rfl, h0, r0⟩ := trodAll_cons hA
  obtain ⟨v1, vs1, d1, ds1, p1, q1, rfl, rfl, rfl, h1, r1⟩ := trodAll_cons r0
  obtain ⟨rfl, rfl, rfl⟩ := trodAll_nil r1
  obtain rfl : args = #[v0, v1] := by cases args; simp_all
  obtain ⟨rfl, rfl⟩ := trodVars_none hV
  obtain ⟨s0, rfl, rfl, rfl, m0⟩ := open_int Try.underlying30 (hval 0 30 v0 rfl rfl) h0
  obtain ⟨a1, n1, c1, rfl⟩ := okWide_slice Try.underlying27 (hval 1 27 v1 rfl rfl)
  have l1 : ∀ x ∈ p1, x.block < W.heap.size := fun x hx => by
    have := hW'.lt x (by simp [hx])
    simpa using this
  obtain ⟨z1, i1, b1, e1⟩ := list_open h1 l1
  have y1 : n1 ≤ 1048576 := by
    rcases e1 with ⟨_, e1⟩ | ⟨es, sp, e1, g1⟩
    · omega
    · rw [← g1]; exact bulk_slice (es := es) (sp := sp) hk (by simp [e1])
  clear hA0 hval0
  simp only [List.append_nil] at hW'
  refine (walk W s0 m0 a1 n1 c1 z1 i1 y1 b1).mono fun e W' ⟨he, hg⟩ => ?_
  subst he
  exact ⟨_, rfl, _, _, _, [], ([] ++ (p1 ++ [])), [], hW', trodAll_cons_mk (shut_bool Try.underlying4 _) trodAll_mk0, (trodAll_cons_mk (shut_int Try.underlying30 m0) (trodAll_cons_mk (list_shut h1 l1 hg) trodAll_mk0)), rfl, hg.frame _, fun h => by cases h⟩

/-- THE STATEMENT. -/
theorem proved : Rows.BucketBurstUptoSaid :=
  OpenClaim.holds_of_cond 4 Try.f4 rfl rfl rfl rfl rfl rfl rfl ⟨rfl, rfl, rfl, rfl, rfl⟩ rfl rfl rfl rfl rfl (by kernel_rfl) Try.func4 (by kernel_rfl)
    (of_decide_eq_true (by kernel_rfl)) (by unfold Func.isWrapper; first | (rw [if_pos (by decide +kernel)]; kernel_rfl) | (rw [if_neg (by decide +kernel)]; exact ⟨rfl, rfl⟩))
    (fun os started H enc _ F => lifted os started H enc F)
end Go.Proofs.Ytnomfkmdckmjeaa.bucketBurst
