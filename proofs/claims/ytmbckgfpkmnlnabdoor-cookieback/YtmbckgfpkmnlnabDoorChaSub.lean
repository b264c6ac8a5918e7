/-
  THE WALK OF package chacha's Sub.
-/
import Derived.Test.YtmbckgfpkmnlnabDoorChaFace
namespace Go.Proofs.YtmbckgfpkmnlnabDoor.cha
open Go.RowKit
open Go.Proofs.YtmbckgfpkmnlnabDoor.soft

theorem Sub_bad (key nonce : ByteArray) (h : key.size ≠ 32 ∨ nonce.size ≠ 16) (w : World) :
    Calls Tryd.prog 44 #[.string key, .string nonce] w fun e w' => e = .returned (.tuple #[.string ⟨#[]⟩, .int .i64 1]) ∧ Below w.heap.size w w' := by
  by_cases h1 : key.size = 32
  · have t1 : ((key.size : Int) != 32) = false := by rw [bne_eq_false_iff_eq]; omega
    have t2 : ((nonce.size : Int) != 16) = true := by rw [bne_iff_ne]; omega
    clear h h1
    go_enter Tryd.func44, Tryd.ntmps44
    go_wp2_with fail
    go_ret2
    exact ⟨rfl, Below.refl _ _⟩
  · have t1 : ((key.size : Int) != 32) = true := by rw [bne_iff_ne]; omega
    clear h h1
    go_enter Tryd.func44, Tryd.ntmps44
    go_wp2_with fail
    go_ret2
    exact ⟨rfl, Below.refl _ _⟩
set_option maxRecDepth 100000 in
set_option maxHeartbeats 1600000 in
theorem Sub_good (key nonce : ByteArray) (h1 : key.size = 32) (h2 : nonce.size = 16) (w : World) :
    Calls Tryd.prog 44 #[.string key, .string nonce] w fun e w' => e = .returned (.tuple #[.string (sub key nonce), .int .i64 0]) ∧ Below w.heap.size w w' := by
  have t1 : ((key.size : Int) != 32) = false := by rw [bne_eq_false_iff_eq]; omega
  have t2 : ((nonce.size : Int) != 16) = false := by rw [bne_eq_false_iff_eq]; omega
  have f1 := begun_any key nonce h1 h2
  have f2 := stirred_any (beg (key ++ nonce)) (beg_length _) (beg_ok _)
  have HB : Hid (sub key nonce = told ((stirred (beg (key ++ nonce))).take 4) ++ told ((stirred (beg (key ++ nonce))).drop 12)) := by
    show _ = _
    unfold sub told
    rw [bs4_append, tx_app]
  have hDl : (stirred (beg (key ++ nonce))).length = 16 := by rw [stirred_length, beg_length]
  have hDo := stirred_ok (beg_ok (key ++ nonce))
  rw [HB.out]
  clear HB
  generalize stirred (beg (key ++ nonce)) = D at *
  generalize beg (key ++ nonce) = L at *
  have lD : (wd D).length = 16 := by rw [wd_length, hDl]
  have l1 := wd_one D
  have s1 : (told (D.take 4)).size = 16 := by rw [told_size, List.length_take]; omega
  have s2 : (told (D.drop 12)).size = 16 := by rw [told_size, List.length_drop]; omega
  obtain ⟨T1, H1⟩ : ∃ T, Hid (T = told (D.take 4)) := ⟨_, rfl⟩
  obtain ⟨T2, H2⟩ : ∃ T, Hid (T = told (D.drop 12)) := ⟨_, rfl⟩
  rw [← H1.out] at s1 ⊢
  rw [← H2.out] at s2 ⊢
  clear h1 h2
  go_enter Tryd.func44, Tryd.ntmps44
  go_wp2_with (first
    | (go_at_call 52; (with_reducible refine (f1 _).mono ?_); rintro e w1 ⟨rfl, hb1⟩)
    | (go_at_call 53; (with_reducible refine (f2 _).mono ?_); rintro e w2 ⟨rfl, hb2⟩; have hZ := Blk.new w2 80 (wd z16) _ rfl)
    | (refine wpList_store_blk rfl 80 (.tmp 6) (.tmp 18) rfl w2.heap.size (wd D) rfl rfl (wd z16) hZ (by rw [lD]; rfl) l1 infoST ?_; intro W hW))
  have hX2 := hb1.trans (hb2.mono hb1.size)
  have hX3 := hW.below w.heap.size w hX2.size (hX2.alloc hX2.size (.cells (wd z16).toArray 80))
  have hA := hW.blk
  have la := hA.lt
  clear hZ hW hb1 hb2
  have a1 := sl_four w2.heap.size
  have a2 := sl_last w2.heap.size
  have F1 : Hid (∀ y : Up W, Calls Tryd.prog 54 #[.slice (some ⟨w2.heap.size, 0, none⟩) 4 16] y.1 fun e w' => e = .returned (.string T1) ∧ Below y.1.heap.size y.1 w') := fun y => by
    rw [H1.out]
    exact told_any w2.heap.size 0 16 4 (D.take 4) (by rw [List.length_take]; omega) (hDo.take 4) (by decide) (by decide) y.1 (Nat.lt_of_lt_of_le la y.2.size) fun j hj => by
      rw [Nat.zero_add, List.getD_eq_getElem?_getD, List.getElem?_take, if_pos hj, ← List.getD_eq_getElem?_getD]
      exact (hA.below y.2 la).cell j _ (wd_get _ j (by omega))
  have F2 : Hid (∀ y : Up W, Calls Tryd.prog 54 #[.slice (some ⟨w2.heap.size, 12, none⟩) 4 4] y.1 fun e w' => e = .returned (.string T2) ∧ Below y.1.heap.size y.1 w') := fun y => by
    rw [H2.out]
    exact told_any w2.heap.size 12 4 4 (D.drop 12) (by rw [List.length_drop]; omega) (hDo.drop 12) (by decide) (by decide) y.1 (Nat.lt_of_lt_of_le la y.2.size) fun j hj => by
      rw [List.getD_eq_getElem?_getD, List.getElem?_drop, ← List.getD_eq_getElem?_getD]
      exact (hA.below y.2 la).cell (12 + j) _ (wd_get _ (12 + j) (by omega))
  have hne := Up.some W
  simp only [Act.put]
  refine wp_region_up (by kernel_rfl) (by kernel_rfl) ?_
  repeat (go_big_quiet_step (first | (with_reducible exact calls_up (F1.out _)) | (with_reducible exact calls_up (F2.out _))))
  refine wpQuiet_nil ?_
  rintro w4 ⟨y4, rfl⟩
  go_wp2_with fail
  go_ret2
  exact ⟨rfl, hX3.trans (y4.2.mono hX3.size)⟩
end Go.Proofs.YtmbckgfpkmnlnabDoor.cha
