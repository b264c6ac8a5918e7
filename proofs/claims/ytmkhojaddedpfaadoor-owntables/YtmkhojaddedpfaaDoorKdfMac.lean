/-
  THE WALK OF package kdf's mac, over whatever digest.
-/
import Derived.Test.YtmkhojaddedpfaaDoorKdfPad
import Derived.Test.YtmkhojaddedpfaaDoorBundle2
namespace Go.Proofs.YtmkhojaddedpfaaDoor.kdf
open Go.RowKit

set_option maxRecDepth 100000 in
set_option maxHeartbeats 1600000 in
theorem mac_any (F : FuncId) (D : ByteArray → ByteArray) (he : Goes F) (hD : ∀ s, (D s).size = 32) (key s : ByteArray) (hk : key.size < 576460752303423488) (hs : s.size < 500000000000000000) (w : World) (hF : Does F D w) :
    Calls Tryd.prog 16 #[.func (.func F) #[] #[], .string key, .string s] w fun e w' => e = .returned (.string (macT D key s)) ∧ Below w.heap.size w w' := by
  have f1 := block_any F D he hD key hk w hF
  have f2 : ∀ W, _ := fun W => xored_any (kk (kb D key)) (kk_length _) (kk_lt _) 92 (by decide) W
  have f3 : ∀ W, _ := fun W => xored_any (kk (kb D key)) (kk_length _) (kk_lt _) 54 (by decide) W
  have z1 : (pad D key 92).size = 64 := pad_size _ _ _
  have z2 : (pad D key 54).size = 64 := pad_size _ _ _
  change ∀ W, Calls Tryd.prog 24 #[.agg (by8 (kk (kb D key))).toArray, .int .u8 92] W fun e w' => e = .returned (.string (pad D key 92)) ∧ Below W.heap.size W w' at f2
  change ∀ W, Calls Tryd.prog 24 #[.agg (by8 (kk (kb D key))).toArray, .int .u8 54] W fun e w' => e = .returned (.string (pad D key 54)) ∧ Below W.heap.size W w' at f3
  have f4 : ∀ W, Below w.heap.size w W → _ := fun W h => hF (pad D key 54 ++ s) W (by rw [ByteArray.size_append]; omega) h
  have z3 := hD (pad D key 54 ++ s)
  obtain ⟨R, HR⟩ : ∃ R, Hid (R = macT D key s) := ⟨_, rfl⟩
  have f5 : ∀ W, Below w.heap.size w W → Calls Tryd.prog F #[.string (pad D key 92 ++ D (pad D key 54 ++ s))] W fun e w' => e = .returned (.string R) ∧ Below W.heap.size W w' := fun W h => by
    rw [HR.out]
    exact hF _ W (by rw [ByteArray.size_append]; omega) h
  rw [← HR.out]
  unfold Goes at he
  obtain ⟨C, HC⟩ : ∃ C, C = by8 (kk (kb D key)) := ⟨_, rfl⟩
  have lC : C.length = 64 := by rw [HC, by8_length, kk_length]
  have oC : C.toArray.all (·.oneCell') = true := by rw [HC]; exact by8_one _
  rw [← HC] at f1 f2 f3
  generalize D (pad D key 54 ++ s) = Y at *
  generalize pad D key 92 = A at *
  generalize pad D key 54 = B at *
  obtain ⟨i0, hi, hz0, hz1, hz2⟩ := info_parts infoBLz
  obtain ⟨Z, hZ⟩ : ∃ Z, Z = by8 z64 := ⟨_, rfl⟩
  have lZ : Z.length = 64 := by rw [hZ]; rfl
  rw [← hZ] at hz0
  clear hF hD HR HC hZ
  go_enter Tryd.func16, Tryd.ntmps16
  go_wp2_with (first
    | (go_at_call 23; (with_reducible refine f1.mono ?_); rintro e w1 ⟨rfl, hb1⟩; have hN := Blk.new w1 65 Z _ rfl)
    | (refine wpList_alloc_blk rfl 65 rfl Z i0 hi _ hz0 rfl ?_)
    | (refine wpList_store_blk rfl 65 (.tmp 7) (.tmp 10) rfl w1.heap.size C rfl rfl Z hN (by rw [lC, lZ]) oC (by rw [lZ]; exact infoBL) ?_; intro W5 hW5))
  have hB5 := hW5.blk
  have hX5 : Below w.heap.size w W5 := hW5.below _ _ hb1.size (hb1.alloc hb1.size _)
  have hne := Up.some W5
  have R1 : ∀ v : Up W5, v.1.rangeAt w1.heap.size 0 C := fun v => (hB5.below v.2 hB5.lt).range 0 _ (by simp)
  have F2 : Hid (∀ y : Up W5, Calls Tryd.prog 24 #[.agg C.toArray, .int .u8 92] y.1 fun e w' => e = .returned (.string A) ∧ Below y.1.heap.size y.1 w') := fun y => f2 y.1
  have F3 : Hid (∀ y : Up W5, Calls Tryd.prog 24 #[.agg C.toArray, .int .u8 54] y.1 fun e w' => e = .returned (.string B) ∧ Below y.1.heap.size y.1 w') := fun y => f3 y.1
  have F4 : Hid (∀ y : Up W5, Calls Tryd.prog F #[.string (B ++ s)] y.1 fun e w' => e = .returned (.string Y) ∧ Below y.1.heap.size y.1 w') := fun y => f4 y.1 (hX5.trans (y.2.mono hX5.size))
  have F5 : Hid (∀ y : Up W5, Calls Tryd.prog F #[.string (A ++ Y)] y.1 fun e w' => e = .returned (.string R) ∧ Below y.1.heap.size y.1 w') := fun y => f5 y.1 (hX5.trans (y.2.mono hX5.size))
  clear f1 f2 f3 f4 f5 hW5 hb1 hB5 hz0
  simp only [Act.put, List.setIfInBounds_toArray, List.set_cons_succ, List.set_cons_zero]
  refine wp_region_up (by kernel_rfl) (by kernel_rfl) ?_
  repeat (first
    | (refine wpQuiet_load rfl 65 (.tmp 7) rfl w1.heap.size 0 rfl C _ R1 Tryd.underlying65 rfl (by rw [lC]; exact infoBL) ?_; simp only [Act.put, List.setIfInBounds_toArray, List.set_cons_succ, List.set_cons_zero])
    | go_big_quiet_step (first | (with_reducible exact calls_up (F2.out _)) | (with_reducible exact calls_up (F3.out _)) | (with_reducible exact calls_up (F4.out _)) | (with_reducible exact calls_up (F5.out _))))
  refine wpQuiet_nil ?_
  rintro w6 ⟨y6, rfl⟩
  clear F2 F3 F4 F5 R1 hne
  go_wp2_with fail
  go_ret
  exact ⟨rfl, hX5.trans (y6.2.mono hX5.size)⟩
end Go.Proofs.YtmkhojaddedpfaaDoor.kdf
