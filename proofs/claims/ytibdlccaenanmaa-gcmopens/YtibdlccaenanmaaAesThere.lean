/-
  THE WALK OF package aes's there.
-/
import Derived.Test.YtibdlccaenanmaaAesCipher
import Derived.Test.YtibdlccaenanmaaAesMix
import Derived.Test.YtibdlccaenanmaaTail
namespace Go.Proofs.Ytibdlccaenanmaa.aes
open Go.RowKit
open Go.Proofs.Ytibdlccaenanmaa.gal

/-- A cipher's cells, in all worlds that have what w has. -/
structure Held (w : World) (c kg kcap M : Nat) (E : List Nat) : Prop where
  sub : Tbl w c 0 gsub
  back : Tbl w c 256 gback
  twice : Tbl w c 512 (gm 2)
  cell : w.cell? ⟨c, 768, none⟩ = some (.slice (some ⟨kg, 0, none⟩) M kcap)
  le : M ≤ kcap
  lt : kg < w.heap.size
  key : ∀ i, i < M → w.rangeAt kg (16 * i) (by8 (rk E i))
theorem Cipher.held {w : World} {c M : Nat} {E : List Nat} (h : Cipher w c M E) : ∃ kg kcap, Held w c kg kcap M E := by
  obtain ⟨kg, kcap, h1, h2, h3, h4⟩ := h.keys
  exact ⟨kg, kcap, h.sub, h.back, h.twice, h1, h2, h3, h4⟩
theorem Held.below {w w' : World} {c kg kcap M : Nat} {E : List Nat} (h : Held w c kg kcap M E) (hb : Below w.heap.size w w') : Held w' c kg kcap M E :=
  ⟨h.sub.below hb h.sub.1, h.back.below hb h.sub.1, h.twice.below hb h.sub.1, (hb.cell (p := ⟨c, 768, none⟩) h.sub.1).trans h.cell, h.le, Nat.lt_of_lt_of_le h.lt hb.size, fun i hi j v hv => (hb.cell (p := ⟨kg, 16 * i + j, none⟩) h.lt).trans (h.key i hi j v hv)⟩
theorem sl_keys (kg M kcap hi : Nat) (h1 : 1 ≤ hi) (h2 : hi ≤ kcap) (h3 : kcap ≠ 1) (w : World) : (Instr.sliceAt 93 (.slice (some ⟨kg, 0, none⟩) M kcap) (some (.int .i64 1)) (some (.int .i64 (hi : Int))) none).run Try.prog w = .ok (.slice (some ⟨kg, 16, none⟩) (hi - 1) (kcap - 1)) w := by
  obtain ⟨j0, hj, _, hj1, _⟩ := info_parts infoSQ3
  have e1 : (1 : Int) ≤ (hi : Int) := by omega
  simp [Instr.sliceAt, Instr.slice, run_underlying Try.underlying93, Instr.sliceBounds, Instr.sliceBound, asIntOf, sizeOf, typeInfo, hj, hj1, e1, h2, h3, Addr.add_mid]

set_option maxRecDepth 100000 in
set_option maxHeartbeats 1600000 in
theorem there_any (E b : List Nat) (R : Nat) (hR : 2 ≤ R) (hR2 : R ≤ 1000) (hE : Ok E) (hb : b.length = 16) (ob : Ok b) (c kg kcap : Nat) (w : World) (hH : Held w c kg kcap (R + 1) E) :
    Calls Try.prog 49 #[.pointer (some ⟨c, 0, none⟩), .agg (by8 b).toArray] w fun e w' => e = .returned (.agg (by8 (enc E R b)).toArray) ∧ Below w.heap.size w w' := by
  have hA : Blk ((w.alloc (.cells (by8 b).toArray 71)).alloc (.cells (by8 zero16).toArray 71)) w.heap.size 71 (by8 b) := (Blk.new w 71 (by8 b) _ rfl).alloc _
  have hZ : Blk ((w.alloc (.cells (by8 b).toArray 71)).alloc (.cells (by8 zero16).toArray 71)) (w.heap.size + 1) 71 (by8 zero16) := by
    have h := Blk.new (w.alloc (.cells (by8 b).toArray 71)) 71 (by8 zero16) _ rfl
    rw [World.size_alloc] at h
    exact h
  have hX : Below w.heap.size w ((w.alloc (.cells (by8 b).toArray 71)).alloc (.cells (by8 zero16).toArray 71)) := ((Below.refl _ _).alloc (Nat.le_refl _) _).alloc (by simp) _
  have HH : Hid (Held w c kg kcap (R + 1) E) := hH
  have hc0 := hH.cell
  have hcl := hH.sub.1
  have hle := hH.le
  clear hH
  obtain ⟨M, hM⟩ : ∃ M, M = R + 1 := ⟨_, rfl⟩
  rw [← hM] at HH hc0 hle
  have m1 : (M : Int) - 1 = (R : Int) := by omega
  have hsl := sl_keys kg M kcap R (by omega) (by omega) (by omega)
  have HM : Hid (M = R + 1) := hM
  clear hM
  go_enter Try.func49, Try.ntmps49
  go_wp2_with fail
  obtain ⟨W0, hW0⟩ : ∃ W0, W0 = (w.alloc (.cells (by8 b).toArray 71)).alloc (.cells (by8 zero16).toArray 71) := ⟨_, rfl⟩
  have e0 : (w.alloc (.cells (by8 b).toArray 71)).alloc (.cells #[.int .u8 0, .int .u8 0, .int .u8 0, .int .u8 0, .int .u8 0, .int .u8 0, .int .u8 0, .int .u8 0, .int .u8 0, .int .u8 0, .int .u8 0, .int .u8 0, .int .u8 0, .int .u8 0, .int .u8 0, .int .u8 0] 71) = W0 := hW0.symm
  rw [e0]
  rw [← hW0] at hA hZ hX
  clear e0 hW0
  have hne := Up.some W0
  have ll := hA.lt
  have hxo := xored_any b (rk E 0) hb (mk_length _ _) ob (rk_ok E 0 hE)
  have hD : (xorN 16 b (rk E 0)).length = 16 := mk_length _ _
  have hS0 : xorN 16 b (rk E 0) = encS E b 0 := rfl
  have hr0 : (rk E 0).length = 16 := mk_length _ _
  have q1 : ∀ y : Up W0, y.1.rangeAt w.heap.size 0 (by8 b) := fun y => (hA.below y.2 ll).range 0 _ (by simp)
  have q2 : ∀ y : Up W0, y.1.rangeAt kg 0 (by8 (rk E 0)) := fun y => ((HH.out.below hX).below y.2).key 0 (by have := HM.out; omega)
  have q3 : ∀ y : Up W0, y.1.cell? ⟨c, 768, none⟩ = some (.slice (some ⟨kg, 0, none⟩) M kcap) := fun y => ((HH.out.below hX).below y.2).cell
  have m0 : (0 : Int) < (M : Int) := by have := HM.out; omega
  rw [hS0] at hxo hD
  obtain ⟨S0, HS0⟩ : ∃ S, Hid (S = encS E b 0) := ⟨_, rfl⟩
  rw [← HS0.out] at hxo hD
  clear hS0
  generalize rk E 0 = K0 at *
  have F1 : Hid (∀ y : Up W0, Calls Try.prog 68 #[.agg (by8 b).toArray, .agg (by8 K0).toArray] y.1 fun e w' => e = .returned (.agg (by8 S0).toArray) ∧ Below y.1.heap.size y.1 w') := fun y => hxo y.1
  clear hxo
  refine wp_region_tail 8 (by kernel_rfl) (by kernel_rfl) ?_
  simp only [List.take_succ_cons, List.take_zero, List.drop_succ_cons, List.drop_zero]
  repeat (first
    | (refine wpQuiet_load rfl 71 (.tmp 3) rfl w.heap.size 0 rfl (by8 b) _ q1 Try.underlying71 rfl (by rw [by8_length, hb]; exact infoSQ) ?_; simp only [Act.put, List.setIfInBounds_toArray, List.set_cons_succ, List.set_cons_zero])
    | (refine wpQuiet_load rfl 71 (.tmp 19) rfl kg 0 rfl (by8 K0) _ q2 Try.underlying71 rfl (by rw [by8_length, hr0]; exact infoSQ) ?_; simp only [Act.put, List.setIfInBounds_toArray, List.set_cons_succ, List.set_cons_zero])
    | (go_big_quiet_step (with_reducible exact calls_up (F1.out _))))
  refine wpQuiet_nil ?_
  rintro w1 ⟨y1, rfl⟩
  have hA1 := hA.below y1.2 ll
  have hZ1 := hZ.below y1.2 hZ.lt
  have hX1 := hX.trans (y1.2.mono hX.size)
  clear q1 q2 q3 F1 hA hZ hX hne
  go_wp2_with (refine wpList_store_blk rfl 71 (.tmp 3) (.tmp 21) rfl w.heap.size (by8 S0) rfl rfl (by8 b) hA1 (by rw [by8_length, by8_length, hD, hb]) (by8_one _) (by rw [by8_length, hb]; exact infoSQ) ?_; intro W1 hW1; have hk1 := (HH.out.below (hW1.below _ _ (Nat.le_refl _) hX1)).cell)
  go_loopw [29] (fun i wr => ∃ k : Nat, k ≤ R - 1 ∧ i = .int .i64 k ∧ Blk wr w.heap.size 71 (by8 (encS E b k)) ∧ Blk wr (w.heap.size + 1) 71 (by8 zero16) ∧ Below w.heap.size w wr) (fun i _ => R - 1 - (intOf i).toNat)
  case atStart => exact ⟨0, by omega, rfl, by rw [← HS0.out]; exact hW1.blk, hW1.other _ _ _ (by omega) hZ1, hW1.below _ _ (Nat.le_refl _) hX1⟩
  case round =>
    clear hA1 hZ1 hX1 hW1 hk1
    obtain ⟨k, hk, rfl, hA, hZ, hnx⟩ := hrel
    have hSk := encS_ok E b hE ob k
    have hSl : (encS E b k).length = 16 := by cases k <;> exact mk_length _ _
    have ll := hA.lt
    have lz := hZ.lt
    have hHr := HH.out.below hnx
    by_cases hlt : k < R - 1
    · have d0 : decide ((k : Int) < ((R - 1 : Nat) : Int)) = true := by simp; omega
      have k0 : (0 : Int) ≤ (k : Int) := by omega
      have kz : (k : Int) < ((R - 1 : Nat) : Int) := by omega
      have hS1 : encS E b (k + 1) = xorN 16 (mixN (movN 1 (subN 16 (encS E b k)))) (rk E (k + 1)) := rfl
      have o1 := subN_ok 16 (encS E b k)
      have l1 : (subN 16 (encS E b k)).length = 16 := mk_length _ _
      have g1 := fun W => read_any (encS E b k) hSl hSk gsub c 0 W
      rw [show (mk 16 fun j => gsub ((encS E b k).getD j 0)) = subN 16 (encS E b k) from rfl] at g1
      generalize subN 16 (encS E b k) = A1 at *
      have o2 := movN_ok 1 A1 o1
      have l2 : (movN 1 A1).length = 16 := mk_length _ _
      have g2 : ∀ W, Calls Try.prog 71 #[.agg (by8 A1).toArray, .int .i64 1] W fun e w' => e = .returned (.agg (by8 (movN 1 A1)).toArray) ∧ Below W.heap.size W w' := moved_any A1 l1 1 (by decide)
      generalize movN 1 A1 = A2 at *
      have o3 := mixN_ok A2 o2
      have l3 : (mixN A2).length = 16 := mk_length _ _
      have g3 : ∀ W, Tbl W c 512 (gm 2) → Calls Try.prog 69 #[.pointer (some ⟨c, 0, none⟩), .agg (by8 A2).toArray, .int .i64 1] W fun e w' => e = .returned (.agg (by8 (mixN A2)).toArray) ∧ Below W.heap.size W w' := mixed_any A2 l2 o2 c 1 (by decide)
      generalize mixN A2 = A3 at *
      have g4 := xored_any A3 (rk E (k + 1)) l3 (mk_length _ _) o3 (rk_ok E (k + 1) hE)
      rw [← hS1] at g4
      have hDl : (encS E b (k + 1)).length = 16 := mk_length _ _
      have hKl : (rk E (k + 1)).length = 16 := mk_length _ _
      have hpk := hHr.key (k + 1) (by have := HM.out; omega)
      rw [show 16 * (k + 1) = 16 + k * 16 from by omega] at hpk
      generalize rk E (k + 1) = Kk at *
      obtain ⟨S', HS'⟩ : ∃ S', Hid (S' = encS E b (k + 1)) := ⟨_, rfl⟩
      rw [← HS'.out] at g4 hDl
      clear hS1
      generalize encS E b k = Sk at *
      have hNew := Blk.new wr 71 (by8 zero16) _ rfl
      go_wp2_with (first
        | (refine wpList_load_mid rfl 71 (.tmp 31) rfl kg (16 + k * 16) rfl (by8 Kk) _ hpk Try.underlying71 rfl (by rw [by8_length, hKl]; exact infoSQ) ?_)
        | (refine wpList_store_blk rfl 71 (.tmp 7) (.tmp 32) rfl wr.heap.size (by8 Kk) rfl rfl (by8 zero16) hNew (by rw [by8_length, hKl]; rfl) (by8_one _) infoSQ ?_; intro W2 hW2))
      have hA2 := hW2.other _ _ _ (by omega) (hA.alloc (.cells (by8 zero16).toArray 71))
      have hZ2 := hW2.other _ _ _ (by omega) (hZ.alloc (.cells (by8 zero16).toArray 71))
      have hX2 : Below w.heap.size w W2 := hW2.below _ _ (by omega) (hnx.alloc (by omega) _)
      have hH2 := HH.out.below hX2
      have ll2 := hA2.lt
      have lk2 := hW2.blk.lt
      have hne := Up.some W2
      have q1 : ∀ y : Up W2, y.1.rangeAt w.heap.size 0 (by8 Sk) := fun y => (hA2.below y.2 ll2).range 0 _ (by simp)
      have q2 : ∀ y : Up W2, y.1.rangeAt wr.heap.size 0 (by8 Kk) := fun y => (hW2.blk.below y.2 lk2).range 0 _ (by simp)
      have F1 : Hid (∀ y : Up W2, Calls Try.prog 70 #[.agg (by8 Sk).toArray, .pointer (some ⟨c, 0, none⟩)] y.1 fun e w' => e = .returned (.agg (by8 A1).toArray) ∧ Below y.1.heap.size y.1 w') := fun y => g1 y.1 (hH2.below y.2).sub
      have F2 : Hid (∀ y : Up W2, Calls Try.prog 71 #[.agg (by8 A1).toArray, .int .i64 1] y.1 fun e w' => e = .returned (.agg (by8 A2).toArray) ∧ Below y.1.heap.size y.1 w') := fun y => g2 y.1
      have F3 : Hid (∀ y : Up W2, Calls Try.prog 69 #[.pointer (some ⟨c, 0, none⟩), .agg (by8 A2).toArray, .int .i64 1] y.1 fun e w' => e = .returned (.agg (by8 A3).toArray) ∧ Below y.1.heap.size y.1 w') := fun y => g3 y.1 (hH2.below y.2).twice
      have F4 : Hid (∀ y : Up W2, Calls Try.prog 68 #[.agg (by8 A3).toArray, .agg (by8 Kk).toArray] y.1 fun e w' => e = .returned (.agg (by8 S').toArray) ∧ Below y.1.heap.size y.1 w') := fun y => g4 y.1
      clear g1 g2 g3 g4 hpk hNew hHr
      simp only [Act.put]
      refine wp_region_tail 13 (by kernel_rfl) (by kernel_rfl) ?_
      simp only [List.take_succ_cons, List.take_zero, List.drop_succ_cons, List.drop_zero]
      repeat (first
        | (refine wpQuiet_load rfl 71 (.tmp 3) rfl w.heap.size 0 rfl (by8 Sk) _ q1 Try.underlying71 rfl (by rw [by8_length, hSl]; exact infoSQ) ?_; simp only [Act.put, List.setIfInBounds_toArray, List.set_cons_succ, List.set_cons_zero])
        | (refine wpQuiet_load rfl 71 (.tmp 7) rfl wr.heap.size 0 rfl (by8 Kk) _ q2 Try.underlying71 rfl (by rw [by8_length, hKl]; exact infoSQ) ?_; simp only [Act.put, List.setIfInBounds_toArray, List.set_cons_succ, List.set_cons_zero])
        | (go_big_quiet_step (first | (with_reducible exact calls_up (F1.out _)) | (with_reducible exact calls_up (F2.out _)) | (with_reducible exact calls_up (F3.out _)) | (with_reducible exact calls_up (F4.out _)))))
      refine wpQuiet_nil ?_
      rintro w3 ⟨y3, rfl⟩
      have hA3 := hA2.below y3.2 ll2
      have hZ3 := hZ2.below y3.2 hZ2.lt
      have hX3 := hX2.trans (y3.2.mono hX2.size)
      clear q1 q2 F1 F2 F3 F4 hne hH2
      go_wp2_with (refine wpList_store_blk rfl 71 (.tmp 3) (.tmp 45) rfl w.heap.size (by8 S') rfl rfl (by8 Sk) hA3 (by rw [by8_length, by8_length, hDl, hSl]) (by8_one _) (by rw [by8_length, hSl]; exact infoSQ) ?_; intro W4 hW4)
      go_roundw
      case rel => exact ⟨k + 1, by omega, by go_num, by rw [← HS'.out]; exact hW4.blk, hW4.other _ _ _ (by omega) hZ3, hW4.below _ _ (Nat.le_refl _) hX3⟩
      case measure => simp [intOf]; omega
    · obtain rfl : k = R - 1 := by omega
      have d0 : decide (((R - 1 : Nat) : Int) < ((R - 1 : Nat) : Int)) = false := by simp
      have hS1 : enc E R b = xorN 16 (movN 1 (subN 16 (encS E b (R - 1)))) (rk E R) := rfl
      have o1 := subN_ok 16 (encS E b (R - 1))
      have l1 : (subN 16 (encS E b (R - 1))).length = 16 := mk_length _ _
      have g1 := fun W => read_any (encS E b (R - 1)) hSl hSk gsub c 0 W
      rw [show (mk 16 fun j => gsub ((encS E b (R - 1)).getD j 0)) = subN 16 (encS E b (R - 1)) from rfl] at g1
      generalize subN 16 (encS E b (R - 1)) = A1 at *
      have o2 := movN_ok 1 A1 o1
      have l2 : (movN 1 A1).length = 16 := mk_length _ _
      have g2 : ∀ W, Calls Try.prog 71 #[.agg (by8 A1).toArray, .int .i64 1] W fun e w' => e = .returned (.agg (by8 (movN 1 A1)).toArray) ∧ Below W.heap.size W w' := moved_any A1 l1 1 (by decide)
      generalize movN 1 A1 = A2 at *
      have g4 := xored_any A2 (rk E R) l2 (mk_length _ _) o2 (rk_ok E R hE)
      rw [← hS1] at g4
      have hDl : (enc E R b).length = 16 := mk_length _ _
      have hKl : (rk E R).length = 16 := mk_length _ _
      have hpk : ∀ y : Up wr, y.1.rangeAt kg (R * 16) (by8 (rk E R)) := fun y => by
        have := (hHr.below y.2).key R (by have := HM.out; omega)
        rwa [Nat.mul_comm 16 R] at this
      have q3 : ∀ y : Up wr, y.1.cell? ⟨c, 768, none⟩ = some (.slice (some ⟨kg, 0, none⟩) M kcap) := fun y => (hHr.below y.2).cell
      generalize rk E R = Kk at *
      obtain ⟨S', HS'⟩ : ∃ S', Hid (S' = enc E R b) := ⟨_, rfl⟩
      rw [← HS'.out] at g4 hDl
      clear hS1
      generalize encS E b (R - 1) = Sk at *
      have hne := Up.some wr
      have q1 : ∀ y : Up wr, y.1.rangeAt w.heap.size 0 (by8 Sk) := fun y => (hA.below y.2 ll).range 0 _ (by simp)
      have F1 : Hid (∀ y : Up wr, Calls Try.prog 70 #[.agg (by8 Sk).toArray, .pointer (some ⟨c, 0, none⟩)] y.1 fun e w' => e = .returned (.agg (by8 A1).toArray) ∧ Below y.1.heap.size y.1 w') := fun y => g1 y.1 (hHr.below y.2).sub
      have F2 : Hid (∀ y : Up wr, Calls Try.prog 71 #[.agg (by8 A1).toArray, .int .i64 1] y.1 fun e w' => e = .returned (.agg (by8 A2).toArray) ∧ Below y.1.heap.size y.1 w') := fun y => g2 y.1
      have F4 : Hid (∀ y : Up wr, Calls Try.prog 68 #[.agg (by8 A2).toArray, .agg (by8 Kk).toArray] y.1 fun e w' => e = .returned (.agg (by8 S').toArray) ∧ Below y.1.heap.size y.1 w') := fun y => g4 y.1
      have r0 : (0 : Int) ≤ (R : Int) := by omega
      have rz : (R : Int) < (M : Int) := by have := HM.out; omega
      clear g1 g2 g4 hHr
      go_wp2_with fail
      refine wp_region_tail 15 (by kernel_rfl) (by kernel_rfl) ?_
      simp only [List.take_succ_cons, List.take_zero, List.drop_succ_cons, List.drop_zero]
      repeat (first
        | (refine wpQuiet_load rfl 71 (.tmp 3) rfl w.heap.size 0 rfl (by8 Sk) _ q1 Try.underlying71 rfl (by rw [by8_length, hSl]; exact infoSQ) ?_; simp only [Act.put, List.setIfInBounds_toArray, List.set_cons_succ, List.set_cons_zero])
        | (refine wpQuiet_load rfl 71 (.tmp 59) rfl kg (R * 16) rfl (by8 Kk) _ hpk Try.underlying71 rfl (by rw [by8_length, hKl]; exact infoSQ) ?_; simp only [Act.put, List.setIfInBounds_toArray, List.set_cons_succ, List.set_cons_zero])
        | (go_big_quiet_step (first | (with_reducible exact calls_up (F1.out _)) | (with_reducible exact calls_up (F2.out _)) | (with_reducible exact calls_up (F4.out _)))))
      refine wpQuiet_nil ?_
      rintro w3 ⟨y3, rfl⟩
      have hZ3 := hZ.below y3.2 lz
      have hX3 := hnx.trans (y3.2.mono hnx.size)
      clear q1 q3 F1 F2 F4 hne hpk
      go_wp2_with (refine wpList_store_blk rfl 71 (.tmp 4) (.tmp 61) rfl (w.heap.size + 1) (by8 S') rfl rfl (by8 zero16) hZ3 (by rw [by8_length, hDl]; rfl) (by8_one _) infoSQ ?_; intro W4 hW4)
      exact bodyPost_ret (results_blk1 Try.results49 _ rfl hW4.blk _ Try.underlying71 rfl (by rw [by8_length, hDl]; exact infoSQ)) rfl ⟨by rw [HS'.out], hW4.below _ _ (by omega) hX3⟩
end Go.Proofs.Ytibdlccaenanmaa.aes
