/-
  THE WALK OF package aes's home.
-/
import Derived.Test.YtgfcbmajgaeadaaAesThere
namespace Go.Proofs.Ytgfcbmajgaeadaa.aes
open Go.RowKit
open Go.Proofs.Ytgfcbmajgaeadaa.gal

set_option maxRecDepth 100000 in
set_option maxHeartbeats 1600000 in
theorem home_any (E b : List Nat) (R : Nat) (hR : 2 ≤ R) (hR2 : R ≤ 1000) (hE : Ok E) (hb : b.length = 16) (ob : Ok b) (c kg kcap : Nat) (w : World) (hH : Held w c kg kcap (R + 1) E) :
    Calls Try.prog 26 #[.pointer (some ⟨c, 0, none⟩), .agg (by8 b).toArray] w fun e w' => e = .returned (.agg (by8 (dec E R b)).toArray) ∧ Below w.heap.size w w' := by
  have hA : Blk ((w.alloc (.cells (by8 b).toArray 62)).alloc (.cells (by8 zero16).toArray 62)) w.heap.size 62 (by8 b) := (Blk.new w 62 (by8 b) _ rfl).alloc _
  have hZ : Blk ((w.alloc (.cells (by8 b).toArray 62)).alloc (.cells (by8 zero16).toArray 62)) (w.heap.size + 1) 62 (by8 zero16) := by
    have h := Blk.new (w.alloc (.cells (by8 b).toArray 62)) 62 (by8 zero16) _ rfl
    rw [World.size_alloc] at h
    exact h
  have hX : Below w.heap.size w ((w.alloc (.cells (by8 b).toArray 62)).alloc (.cells (by8 zero16).toArray 62)) := ((Below.refl _ _).alloc (Nat.le_refl _) _).alloc (by simp) _
  have HH : Hid (Held w c kg kcap (R + 1) E) := hH
  have hc0 := hH.cell
  have hcl := hH.sub.1
  have hle := hH.le
  clear hH
  obtain ⟨M, hM⟩ : ∃ M, M = R + 1 := ⟨_, rfl⟩
  rw [← hM] at HH hc0 hle
  have m1 : (M : Int) - 1 = (R : Int) := by omega
  have HM : Hid (M = R + 1) := hM
  clear hM
  go_enter Try.func26, Try.ntmps26
  go_wp2_with fail
  obtain ⟨W0, hW0⟩ : ∃ W0, W0 = (w.alloc (.cells (by8 b).toArray 62)).alloc (.cells (by8 zero16).toArray 62) := ⟨_, rfl⟩
  have e0 : (w.alloc (.cells (by8 b).toArray 62)).alloc (.cells #[.int .u8 0, .int .u8 0, .int .u8 0, .int .u8 0, .int .u8 0, .int .u8 0, .int .u8 0, .int .u8 0, .int .u8 0, .int .u8 0, .int .u8 0, .int .u8 0, .int .u8 0, .int .u8 0, .int .u8 0, .int .u8 0] 62) = W0 := hW0.symm
  rw [e0]
  rw [← hW0] at hA hZ hX
  clear e0 hW0
  have hne := Up.some W0
  have ll := hA.lt
  have hH0 := HH.out.below hX
  have g4 := xored_any b (rk E R) hb (mk_length _ _) ob (rk_ok E R hE)
  have hS0 : decS E R b 0 = backN (movN 3 (xorN 16 b (rk E R))) := rfl
  have o1 := xorN_ok 16 b (rk E R) ob (rk_ok E R hE)
  have l1 : (xorN 16 b (rk E R)).length = 16 := mk_length _ _
  have hKl : (rk E R).length = 16 := mk_length _ _
  have hpk : ∀ y : Up W0, y.1.rangeAt kg (R * 16) (by8 (rk E R)) := fun y => by
    have := (hH0.below y.2).key R (by have := HM.out; omega)
    rwa [Nat.mul_comm 16 R] at this
  generalize xorN 16 b (rk E R) = A1 at *
  generalize rk E R = Kk at *
  have o2 := movN_ok 3 A1 o1
  have l2 : (movN 3 A1).length = 16 := mk_length _ _
  have g2 : ∀ W, Calls Try.prog 47 #[.agg (by8 A1).toArray, .int .i64 3] W fun e w' => e = .returned (.agg (by8 (movN 3 A1)).toArray) ∧ Below W.heap.size W w' := moved_any A1 l1 3 (by decide)
  generalize movN 3 A1 = A2 at *
  have g1 := fun W => read_any A2 l2 o2 gback c 256 W
  rw [show (mk 16 fun j => gback (A2.getD j 0)) = backN A2 from rfl, ← hS0] at g1
  have hDl : (decS E R b 0).length = 16 := mk_length _ _
  obtain ⟨S0, HS0⟩ : ∃ S, Hid (S = decS E R b 0) := ⟨_, rfl⟩
  rw [← HS0.out] at g1 hDl
  clear hS0
  have q1 : ∀ y : Up W0, y.1.rangeAt w.heap.size 0 (by8 b) := fun y => (hA.below y.2 ll).range 0 _ (by simp)
  have q3 : ∀ y : Up W0, y.1.cell? ⟨c, 768, none⟩ = some (.slice (some ⟨kg, 0, none⟩) M kcap) := fun y => (hH0.below y.2).cell
  have F1 : Hid (∀ y : Up W0, Calls Try.prog 46 #[.agg (by8 A2).toArray, .pointer (some ⟨c, 256, none⟩)] y.1 fun e w' => e = .returned (.agg (by8 S0).toArray) ∧ Below y.1.heap.size y.1 w') := fun y => g1 y.1 (hH0.below y.2).back
  have F2 : Hid (∀ y : Up W0, Calls Try.prog 47 #[.agg (by8 A1).toArray, .int .i64 3] y.1 fun e w' => e = .returned (.agg (by8 A2).toArray) ∧ Below y.1.heap.size y.1 w') := fun y => g2 y.1
  have F4 : Hid (∀ y : Up W0, Calls Try.prog 44 #[.agg (by8 b).toArray, .agg (by8 Kk).toArray] y.1 fun e w' => e = .returned (.agg (by8 A1).toArray) ∧ Below y.1.heap.size y.1 w') := fun y => g4 y.1
  have r0 : (0 : Int) ≤ (R : Int) := by omega
  have rz : (R : Int) < (M : Int) := by have := HM.out; omega
  clear g1 g2 g4 hH0
  refine wp_region_tail 15 (by kernel_rfl) (by kernel_rfl) ?_
  simp only [List.take_succ_cons, List.take_zero, List.drop_succ_cons, List.drop_zero]
  repeat (first
    | (refine wpQuiet_load rfl 62 (.tmp 3) rfl w.heap.size 0 rfl (by8 b) _ q1 Try.underlying62 rfl (by rw [by8_length, hb]; exact infoSQ) ?_; simp only [Act.put, List.setIfInBounds_toArray, List.set_cons_succ, List.set_cons_zero])
    | (refine wpQuiet_load rfl 62 (.tmp 19) rfl kg (R * 16) rfl (by8 Kk) _ hpk Try.underlying62 rfl (by rw [by8_length, hKl]; exact infoSQ) ?_; simp only [Act.put, List.setIfInBounds_toArray, List.set_cons_succ, List.set_cons_zero])
    | (go_big_quiet_step (first | (with_reducible exact calls_up (F1.out _)) | (with_reducible exact calls_up (F2.out _)) | (with_reducible exact calls_up (F4.out _)))))
  refine wpQuiet_nil ?_
  rintro w1 ⟨y1, rfl⟩
  have hA1 := hA.below y1.2 ll
  have hZ1 := hZ.below y1.2 hZ.lt
  have hX1 := hX.trans (y1.2.mono hX.size)
  clear q1 q3 F1 F2 F4 hA hZ hX hne hpk
  have e1 : (R : Int) - 1 = ((R - 1 : Nat) : Int) := by omega
  go_wp2_with (refine wpList_store_blk rfl 62 (.tmp 3) (.tmp 27) rfl w.heap.size (by8 S0) rfl rfl (by8 b) hA1 (by rw [by8_length, by8_length, hDl, hb]) (by8_one _) (by rw [by8_length, hb]; exact infoSQ) ?_; intro W1 hW1)
  go_loopw [6] (fun i wr => ∃ j : Nat, j ≤ R - 1 ∧ i = .int .i64 ((R - 1 - j : Nat) : Int) ∧ Blk wr w.heap.size 62 (by8 (decS E R b j)) ∧ Blk wr (w.heap.size + 1) 62 (by8 zero16) ∧ Below w.heap.size w wr) (fun i _ => (intOf i).toNat)
  case atStart => exact ⟨0, by omega, rfl, by rw [← HS0.out]; exact hW1.blk, hW1.other _ _ _ (by omega) hZ1, hW1.below _ _ (Nat.le_refl _) hX1⟩
  case round =>
    clear hA1 hZ1 hX1 hW1
    obtain ⟨j, hj, rfl, hA, hZ, hnx⟩ := hrel
    have hSk := decS_ok E b R j
    have hSl : (decS E R b j).length = 16 := by cases j <;> exact mk_length _ _
    have ll := hA.lt
    have lz := hZ.lt
    have hHr := HH.out.below hnx
    by_cases hlt : j < R - 1
    · have hS1 : decS E R b (j + 1) = backN (movN 3 (mixes (xorN 16 (decS E R b j) (rk E (R - 1 - j))) 3)) := rfl
      obtain ⟨i, hi⟩ : ∃ i, i = R - 1 - j := ⟨_, rfl⟩
      rw [← hi] at hS1
      rw [← hi]
      have d0 : decide ((i : Int) > 0) = true := by simp; omega
      have i0 : (0 : Int) ≤ (i : Int) := by omega
      have i2 : (0 : Int) < (i : Int) := by omega
      have iz : (i : Int) < (M : Int) := by have := HM.out; omega
      have hKl : (rk E i).length = 16 := mk_length _ _
      have hpk : ∀ y : Up wr, y.1.rangeAt kg (i * 16) (by8 (rk E i)) := fun y => by
        have := (hHr.below y.2).key i (by have := HM.out; omega)
        rwa [Nat.mul_comm 16 i] at this
      have g4 := xored_any (decS E R b j) (rk E i) hSl (mk_length _ _) hSk (rk_ok E i hE)
      have o0 := xorN_ok 16 (decS E R b j) (rk E i) hSk (rk_ok E i hE)
      have l0 : (xorN 16 (decS E R b j) (rk E i)).length = 16 := mk_length _ _
      generalize xorN 16 (decS E R b j) (rk E i) = A0 at *
      generalize rk E i = Kk at *
      have o1 := mixes_ok A0 o0 3
      have l1 := mixes_length A0 l0 3
      have g3 : ∀ W, Tbl W c 512 (gm 2) → Calls Try.prog 45 #[.pointer (some ⟨c, 0, none⟩), .agg (by8 A0).toArray, .int .i64 3] W fun e w' => e = .returned (.agg (by8 (mixes A0 3)).toArray) ∧ Below W.heap.size W w' := mixed_any A0 l0 o0 c 3 (by decide)
      generalize mixes A0 3 = A1 at *
      have o2 := movN_ok 3 A1 o1
      have l2 : (movN 3 A1).length = 16 := mk_length _ _
      have g2 : ∀ W, Calls Try.prog 47 #[.agg (by8 A1).toArray, .int .i64 3] W fun e w' => e = .returned (.agg (by8 (movN 3 A1)).toArray) ∧ Below W.heap.size W w' := moved_any A1 l1 3 (by decide)
      generalize movN 3 A1 = A2 at *
      have g1 := fun W => read_any A2 l2 o2 gback c 256 W
      rw [show (mk 16 fun j => gback (A2.getD j 0)) = backN A2 from rfl, ← hS1] at g1
      have hDl : (decS E R b (j + 1)).length = 16 := mk_length _ _
      obtain ⟨S', HS'⟩ : ∃ S', Hid (S' = decS E R b (j + 1)) := ⟨_, rfl⟩
      rw [← HS'.out] at g1 hDl
      clear hS1
      generalize decS E R b j = Sk at *
      have hne := Up.some wr
      have q1 : ∀ y : Up wr, y.1.rangeAt w.heap.size 0 (by8 Sk) := fun y => (hA.below y.2 ll).range 0 _ (by simp)
      have q3 : ∀ y : Up wr, y.1.cell? ⟨c, 768, none⟩ = some (.slice (some ⟨kg, 0, none⟩) M kcap) := fun y => (hHr.below y.2).cell
      have F1 : Hid (∀ y : Up wr, Calls Try.prog 46 #[.agg (by8 A2).toArray, .pointer (some ⟨c, 256, none⟩)] y.1 fun e w' => e = .returned (.agg (by8 S').toArray) ∧ Below y.1.heap.size y.1 w') := fun y => g1 y.1 (hHr.below y.2).back
      have F2 : Hid (∀ y : Up wr, Calls Try.prog 47 #[.agg (by8 A1).toArray, .int .i64 3] y.1 fun e w' => e = .returned (.agg (by8 A2).toArray) ∧ Below y.1.heap.size y.1 w') := fun y => g2 y.1
      have F3 : Hid (∀ y : Up wr, Calls Try.prog 45 #[.pointer (some ⟨c, 0, none⟩), .agg (by8 A0).toArray, .int .i64 3] y.1 fun e w' => e = .returned (.agg (by8 A1).toArray) ∧ Below y.1.heap.size y.1 w') := fun y => g3 y.1 (hHr.below y.2).twice
      have F4 : Hid (∀ y : Up wr, Calls Try.prog 44 #[.agg (by8 Sk).toArray, .agg (by8 Kk).toArray] y.1 fun e w' => e = .returned (.agg (by8 A0).toArray) ∧ Below y.1.heap.size y.1 w') := fun y => g4 y.1
      have HI : Hid (i = R - 1 - j) := hi
      clear g1 g2 g3 g4 hHr hi
      go_wp2_with fail
      refine wp_region_tail 19 (by kernel_rfl) (by kernel_rfl) ?_
      simp only [List.take_succ_cons, List.take_zero, List.drop_succ_cons, List.drop_zero]
      repeat (first
        | (refine wpQuiet_load rfl 62 (.tmp 3) rfl w.heap.size 0 rfl (by8 Sk) _ q1 Try.underlying62 rfl (by rw [by8_length, hSl]; exact infoSQ) ?_; simp only [Act.put, List.setIfInBounds_toArray, List.set_cons_succ, List.set_cons_zero])
        | (refine wpQuiet_load rfl 62 (.tmp 43) rfl kg (i * 16) rfl (by8 Kk) _ hpk Try.underlying62 rfl (by rw [by8_length, hKl]; exact infoSQ) ?_; simp only [Act.put, List.setIfInBounds_toArray, List.set_cons_succ, List.set_cons_zero])
        | (go_big_quiet_step (first | (with_reducible exact calls_up (F1.out _)) | (with_reducible exact calls_up (F2.out _)) | (with_reducible exact calls_up (F3.out _)) | (with_reducible exact calls_up (F4.out _)))))
      refine wpQuiet_nil ?_
      rintro w3 ⟨y3, rfl⟩
      have hA3 := hA.below y3.2 ll
      have hZ3 := hZ.below y3.2 lz
      have hX3 := hnx.trans (y3.2.mono hnx.size)
      clear q1 q3 F1 F2 F3 F4 hne hpk
      have e2 : (i : Int) - 1 = ((R - 1 - (j + 1) : Nat) : Int) := by have := HI.out; omega
      have HM2 : Hid (R - 1 - (j + 1) < i) := by show _ < _; have := HI.out; omega
      obtain ⟨i', HI'⟩ : ∃ q, Hid (q = R - 1 - (j + 1)) := ⟨_, rfl⟩
      rw [← HI'.out] at e2 HM2
      go_wp2_with (refine wpList_store_blk rfl 62 (.tmp 3) (.tmp 52) rfl w.heap.size (by8 S') rfl rfl (by8 Sk) hA3 (by rw [by8_length, by8_length, hDl, hSl]) (by8_one _) (by rw [by8_length, hSl]; exact infoSQ) ?_; intro W4 hW4)
      go_roundw
      case rel => exact ⟨j + 1, by omega, by rw [HI'.out], by rw [← HS'.out]; exact hW4.blk, hW4.other _ _ _ (by omega) hZ3, hW4.below _ _ (Nat.le_refl _) hX3⟩
      case measure => have := HM2.out; simp [intOf]; omega
    · obtain rfl : j = R - 1 := by omega
      have d0 : decide (((R - 1 - (R - 1) : Nat) : Int) > 0) = false := by rw [Nat.sub_self]; decide
      have hS1 : dec E R b = xorN 16 (decS E R b (R - 1)) (rk E 0) := rfl
      have g4 := xored_any (decS E R b (R - 1)) (rk E 0) hSl (mk_length _ _) hSk (rk_ok E 0 hE)
      rw [← hS1] at g4
      have hDl : (dec E R b).length = 16 := mk_length _ _
      have hKl : (rk E 0).length = 16 := mk_length _ _
      have hpk : ∀ y : Up wr, y.1.rangeAt kg 0 (by8 (rk E 0)) := fun y => (hHr.below y.2).key 0 (by have := HM.out; omega)
      have q3 : ∀ y : Up wr, y.1.cell? ⟨c, 768, none⟩ = some (.slice (some ⟨kg, 0, none⟩) M kcap) := fun y => (hHr.below y.2).cell
      generalize rk E 0 = Kk at *
      obtain ⟨S', HS'⟩ : ∃ S', Hid (S' = dec E R b) := ⟨_, rfl⟩
      rw [← HS'.out] at g4 hDl
      clear hS1
      generalize decS E R b (R - 1) = Sk at *
      have hne := Up.some wr
      have q1 : ∀ y : Up wr, y.1.rangeAt w.heap.size 0 (by8 Sk) := fun y => (hA.below y.2 ll).range 0 _ (by simp)
      have F4 : Hid (∀ y : Up wr, Calls Try.prog 44 #[.agg (by8 Sk).toArray, .agg (by8 Kk).toArray] y.1 fun e w' => e = .returned (.agg (by8 S').toArray) ∧ Below y.1.heap.size y.1 w') := fun y => g4 y.1
      have mz : (0 : Int) < (M : Int) := by have := HM.out; omega
      clear g4 hHr
      go_wp2_with fail
      refine wp_region_tail 8 (by kernel_rfl) (by kernel_rfl) ?_
      simp only [List.take_succ_cons, List.take_zero, List.drop_succ_cons, List.drop_zero]
      repeat (first
        | (refine wpQuiet_load rfl 62 (.tmp 3) rfl w.heap.size 0 rfl (by8 Sk) _ q1 Try.underlying62 rfl (by rw [by8_length, hSl]; exact infoSQ) ?_; simp only [Act.put, List.setIfInBounds_toArray, List.set_cons_succ, List.set_cons_zero])
        | (refine wpQuiet_load rfl 62 (.tmp 58) rfl kg 0 rfl (by8 Kk) _ hpk Try.underlying62 rfl (by rw [by8_length, hKl]; exact infoSQ) ?_; simp only [Act.put, List.setIfInBounds_toArray, List.set_cons_succ, List.set_cons_zero])
        | (go_big_quiet_step (with_reducible exact calls_up (F4.out _))))
      refine wpQuiet_nil ?_
      rintro w3 ⟨y3, rfl⟩
      have hZ3 := hZ.below y3.2 lz
      have hX3 := hnx.trans (y3.2.mono hnx.size)
      clear q1 q3 F4 hne hpk
      go_wp2_with (refine wpList_store_blk rfl 62 (.tmp 4) (.tmp 60) rfl (w.heap.size + 1) (by8 S') rfl rfl (by8 zero16) hZ3 (by rw [by8_length, hDl]; rfl) (by8_one _) infoSQ ?_; intro W4 hW4)
      exact bodyPost_ret (results_blk1 Try.results26 _ rfl hW4.blk _ Try.underlying62 rfl (by rw [by8_length, hDl]; exact infoSQ)) rfl ⟨by rw [HS'.out], hW4.below _ _ (by omega) hX3⟩
end Go.Proofs.Ytgfcbmajgaeadaa.aes
