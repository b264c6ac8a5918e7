/-
  THE WALKS OF package chacha's block and Block.
-/
import Derived.Test.YtmbckgfpkmnlnabDoorChaStirred
namespace Go.Proofs.YtmbckgfpkmnlnabDoor.cha
open Go.RowKit
open Go.Proofs.YtmbckgfpkmnlnabDoor.soft
open Go.Proofs.YtmbckgfpkmnlnabDoor.ghs (upl upl_length upl_all mkl mkl_length)

theorem upl_at (l : List Nat) (f : Nat → Nat) : ∀ k j, k ≤ j → (upl l f k).getD j 0 = l.getD j 0
  | 0, _, _ => rfl
  | k + 1, j, h => by
    rw [upl, List.getD_eq_getElem?_getD, List.getElem?_set_ne (by omega), ← List.getD_eq_getElem?_getD, upl_at l f k j (by omega)]
theorem infoU32 : (Tryd.prog.info? 28).map (fun i => (i.zero, i.size, i.bytes)) = some (some (.int .u32 0), 1, 4) := by kernel_rfl
theorem sl_arr (b : Nat) (w : World) : (Instr.sliceAt 80 (.pointer (some ⟨b, 0, none⟩)) none none none).run Tryd.prog w = .ok (.slice (some ⟨b, 0, none⟩) 16 16) w := by
  obtain ⟨j0, hj, _, hj1, _⟩ := info_parts infoU32
  simp [Instr.sliceAt, Instr.sureAddr, run_underlying Tryd.underlying80, Instr.sliceBounds, sizeOf, typeInfo, hj, Addr.add_mid]
theorem sl_four (b : Nat) (w : World) : (Instr.sliceAt 80 (.pointer (some ⟨b, 0, none⟩)) none (some (.int .i64 4)) none).run Tryd.prog w = .ok (.slice (some ⟨b, 0, none⟩) 4 16) w := by
  obtain ⟨j0, hj, _, hj1, _⟩ := info_parts infoU32
  simp [Instr.sliceAt, Instr.sureAddr, run_underlying Tryd.underlying80, Instr.sliceBounds, Instr.sliceBound, asIntOf, sizeOf, typeInfo, hj, Addr.add_mid]
theorem sl_last (b : Nat) (w : World) : (Instr.sliceAt 80 (.pointer (some ⟨b, 0, none⟩)) (some (.int .i64 12)) none none).run Tryd.prog w = .ok (.slice (some ⟨b, 12, none⟩) 4 4) w := by
  obtain ⟨j0, hj, _, hj1, _⟩ := info_parts infoU32
  simp [Instr.sliceAt, Instr.sureAddr, run_underlying Tryd.underlying80, Instr.sliceBounds, Instr.sliceBound, asIntOf, sizeOf, typeInfo, hj, hj1, Addr.add_mid]
set_option maxRecDepth 100000 in
set_option maxHeartbeats 4000000 in
theorem block_any (l : List Nat) (hl : l.length = 16) (ok : Ws l) (w : World) :
    Calls Tryd.prog 65 #[.agg (wd l).toArray] w fun e w' => e = .returned (.string (block l)) ∧ Below w.heap.size w w' := by
  have hS : Blk (w.alloc (.cells (wd l).toArray 80)) w.heap.size 80 (wd l) := Blk.new w 80 (wd l) _ rfl
  have hX : Below w.heap.size w (w.alloc (.cells (wd l).toArray 80)) := (Below.refl _ _).alloc (Nat.le_refl _) _
  have f0 := stirred_any l hl ok
  have HB : Hid (block l = told (mkl 16 fun i => ad ((stirred l).getD i 0) (l.getD i 0))) := rfl
  have hDl : (stirred l).length = 16 := by rw [stirred_length, hl]
  have hDo := stirred_ok ok
  rw [HB.out]
  clear HB
  generalize stirred l = D at *
  obtain ⟨F, HF⟩ : ∃ F : Nat → Nat, Hid (F = fun i => ad (D.getD i 0) (l.getD i 0)) := ⟨_, rfl⟩
  have lD : (wd D).length = 16 := by rw [wd_length, hDl]
  have l1 := wd_one D
  have ll : (wd l).length = 16 := by rw [wd_length, hl]
  have hs0 : w.heap.size < (w.alloc (.cells (wd l).toArray 80)).heap.size := by simp
  go_enter Tryd.func65, Tryd.ntmps65
  go_wp2_with (first
    | (refine wpList_load_blk rfl 80 (.tmp 1) rfl w.heap.size 0 rfl hS (wd l) (by simp) _ Tryd.underlying80 rfl (by rw [ll]; exact infoST) ?_)
    | (go_at_call 53; (with_reducible refine (f0 _).mono ?_); rintro e w1 ⟨rfl, hb1⟩; have hZ := Blk.new w1 80 (wd z16) _ rfl)
    | (refine wpList_store_blk rfl 80 (.tmp 3) (.tmp 6) rfl w1.heap.size (wd D) rfl rfl (wd z16) hZ (by rw [lD]; rfl) l1 infoST ?_; intro W hW))
  have hS1 := hS.below hb1 hs0
  have hX1 := hX.trans (hb1.mono (by omega))
  have hc0 : w.heap.size < w1.heap.size := hS1.lt
  have hS2 := hW.other _ _ _ (by omega) (hS1.alloc (.cells (wd z16).toArray 80))
  have hX2 := hW.below w.heap.size w (by omega) (hX1.alloc (by omega) (.cells (wd z16).toArray 80))
  have hA2 := hW.blk
  clear hS hX hS1 hX1 hZ hW hb1
  go_loopw [7] (fun i wr => ∃ k : Nat, k ≤ 16 ∧ i = .int .i64 k ∧ Blk wr w.heap.size 80 (wd l) ∧ Blk wr w1.heap.size 80 (wd (upl D F k)) ∧ Below w.heap.size w wr) (fun i _ => 16 - (intOf i).toNat)
  case atStart => exact ⟨0, by omega, rfl, hS2, hA2, hX2⟩
  case round =>
    clear hS2 hA2 hX2
    obtain ⟨k, hk, rfl, hS, hA, hnx⟩ := hrel
    by_cases hlt : k < 16
    · have d0 : decide ((k : Int) < 16) = true := by simp; omega
      have hL := upl_length D F k
      have q1 := hA.cell k _ (wd_get _ k (by omega))
      rw [upl_at D F k k (Nat.le_refl _)] at q1
      have q2 := hS.cell k _ (wd_get _ k (by omega))
      have z1 := hA.frozen k
      have s1 := add32 (D.getD k 0) (l.getD k 0)
      have HU : Hid (upl D F (k + 1) = (upl D F k).set k (ad (D.getD k 0) (l.getD k 0))) := by rw [HF.out]; rfl
      generalize ad (D.getD k 0) (l.getD k 0) = z at *
      generalize D.getD k 0 = x at *
      generalize l.getD k 0 = y at *
      generalize upl D F k = L at *
      have k0 : (0 : Int) ≤ (k : Int) := by omega
      have kz : (k : Int) < 16 := by omega
      go_wp2_with fail
      go_region
      go_wp2
      go_roundw
      case rel => exact ⟨k + 1, by omega, by go_num, hS.other (by simp; omega) _, by rw [HU.out, ← wd_set]; exact hA.set k _, (hnx.setCell (by simp; omega) _).drew⟩
      case measure => simp [intOf]; omega
    · obtain rfl : k = 16 := by omega
      have d0 : decide (((16 : Nat) : Int) < 16) = false := by decide
      rw [upl_all D F 16 hDl] at hA
      have hME : mkl 16 F = mkl 16 fun i => ad (D.getD i 0) (l.getD i 0) := by rw [HF.out]
      have hMl : (mkl 16 F).length = 16 := mkl_length _ _
      have hMo : Ws (mkl 16 F) := by rw [HF.out]; exact Ws.mkl _ _ fun _ _ => ad_lt _ _
      have sl := sl_arr w1.heap.size
      have f1 : ∀ W, Below wr.heap.size wr W → _ := fun W hW => told_any w1.heap.size 0 16 16 (mkl 16 F) hMl hMo (by decide) (by decide) W (Nat.lt_of_lt_of_le hA.lt hW.size) fun j hj => by rw [Nat.zero_add]; exact (hA.below hW hA.lt).cell j _ (wd_get _ j (by omega))
      have f2 := f1 wr (Below.refl _ _)
      clear f1
      have HM : Hid (told (mkl 16 fun i => ad (D.getD i 0) (l.getD i 0)) = told (mkl 16 F)) := by show _ = _; rw [hME]
      clear hME
      generalize mkl 16 F = M at *
      go_wp2_with (go_at_call 54; (with_reducible refine f2.mono ?_); rintro e w3 ⟨rfl, hb3⟩)
      go_ret
      exact ⟨by rw [HM.out]; rfl, hnx.trans (hb3.mono hnx.size)⟩
end Go.Proofs.YtmbckgfpkmnlnabDoor.cha
