/-
  THE WALK OF package curve's climbed.
-/
import Derived.Test.YtdpokjhoedhadaaDoorCurveIs
import Derived.PlainAid
namespace Go.Proofs.YtdpokjhoedhadaaDoor.crv
open Go.RowKit
open Go.Proofs.YtdpokjhoedhadaaDoor.num Go.Proofs.YtdpokjhoedhadaaDoor.edw

def oneT : ByteArray := (⟨#[1, 0, 0, 0, 0, 0, 0, 0, 0, 0, 0, 0, 0, 0, 0, 0, 0, 0, 0, 0, 0, 0, 0, 0, 0, 0, 0, 0, 0, 0, 0, 0]⟩ : ByteArray)
def zeroT : ByteArray := (⟨#[0, 0, 0, 0, 0, 0, 0, 0, 0, 0, 0, 0, 0, 0, 0, 0, 0, 0, 0, 0, 0, 0, 0, 0, 0, 0, 0, 0, 0, 0, 0, 0]⟩ : ByteArray)
theorem is_one : Is oneT 1 := ⟨by decide, by decide +kernel⟩
theorem is_zero : Is zeroT 0 := ⟨by decide, by decide +kernel⟩
theorem mask8 (x : Int) (h0 : 0 ≤ x) (h1 : x < 256) : bits .and .u8 x 1 = x % 2 := bits_mask .u8 8 (by decide) wraps_u8 1 (by decide) x h0 h1
theorem st_start {t : ByteArray} {x : K} (h : Is t x) (n : ByteArray) : St (lad x (kb n 0)) oneT zeroT t oneT := ⟨is_one, is_zero, h, is_one⟩
/-- What climbed answers, of rungs. -/
theorem climb_end {s : (K × K) × (K × K)} {lx lz hx hz : ByteArray} (h : St s lx lz hx hz) : tM lx (tI lz) = kt (s.1.1 * kinv s.1.2) := tM_kt h.lx (is_tI h.lz)

set_option maxRecDepth 100000 in
set_option maxHeartbeats 1600000 in
theorem climbed_any (n t : ByteArray) (x : K) (hn : n.size = 32) (ht : Is t x) (w : World) (hT : Tabs w) :
    Calls Tryd.prog 18 #[.string n, .string t] w fun e w' => e = .returned (.string (kt (mlt (kb n 255) x))) ∧ Below w.heap.size w w' := by
  have hS := st_start ht n
  have hu1 : Hid (oneT = (⟨#[1, 0, 0, 0, 0, 0, 0, 0, 0, 0, 0, 0, 0, 0, 0, 0, 0, 0, 0, 0, 0, 0, 0, 0, 0, 0, 0, 0, 0, 0, 0, 0]⟩ : ByteArray)) := rfl
  have hu0 : Hid (zeroT = (⟨#[0, 0, 0, 0, 0, 0, 0, 0, 0, 0, 0, 0, 0, 0, 0, 0, 0, 0, 0, 0, 0, 0, 0, 0, 0, 0, 0, 0, 0, 0, 0, 0]⟩ : ByteArray)) := rfl
  go_enter Tryd.func18, Tryd.ntmps18
  go_wp2_with fail
  go_loopw [7] (fun i wr => ∃ (j : Nat) (lx lz hx hz : ByteArray), j ≤ 255 ∧ i = .int .i64 (254 - (j : Int)) ∧ Blk wr w.heap.size 47 [.string lx, .string lz] ∧ Blk wr (w.heap.size + 1) 47 [.string hx, .string hz] ∧ Below w.heap.size w wr ∧ St (lad x (kb n j)) lx lz hx hz) (fun i _ => (intOf i + 1).toNat)
  case atStart =>
    refine ⟨0, oneT, zeroT, t, oneT, by omega, rfl, (Blk.new w 47 [.string oneT, .string zeroT] _ rfl).alloc _, ?_, ((Below.refl _ _).alloc (Nat.le_refl _) _).alloc (by simp) _, hS⟩
    have h := Blk.new (w.alloc (.cells #[.string oneT, .string zeroT] 47)) 47 [.string t, .string oneT] _ rfl
    rw [World.size_alloc] at h
    exact h
  case round =>
    obtain ⟨j, lx, lz, hx, hz, hj, rfl, bl, bh, hnx, hs⟩ := hrel
    have HT : Hid (Is t x) := ht
    have HTT : Hid (Tabs w) := hT
    have ll := bl.lt
    have lh := bh.lt
    have sz := hnx.size
    clear ht hS hT hu1 hu0
    by_cases hlt : j < 255
    · obtain ⟨k, hk⟩ : ∃ k, 254 - j = k := ⟨_, rfl⟩
      rw [show 254 - (j : Int) = (k : Int) from by omega]
      have q0 : (k : Int).tdiv 8 = ((k / 8 : Nat) : Int) := by rw [Int.tdiv_eq_ediv_of_nonneg (by omega)]; omega
      have q1 : (k : Int).tmod 8 = ((k % 8 : Nat) : Int) := by rw [Int.tmod_eq_emod_of_nonneg (by omega)]; omega
      have hgb := PlainAid.get_bt n
      have i0 : k / 8 < n.size := by omega
      have j0 : ((k / 8 : Nat) : Int) < (n.size : Int) := by omega
      have b0 := PlainAid.bt_nonneg n (k / 8)
      have b1 := PlainAid.bt_le n (k / 8)
      have hbits : ∀ v : Bool, decide (PlainAid.bt n (k / 8) / 2 ^ (k % 8) % 2 = 1) = v → bitAt n k = v := fun v h => h
      have r0 : k % 8 < 8 := by omega
      generalize k / 8 = m at *
      generalize k % 8 = r at *
      have hmk := mask8 (PlainAid.bt n m / 2 ^ r) (Int.ediv_nonneg b0 (Int.le_of_lt (Int.pow_pos (by decide)))) (Int.lt_of_le_of_lt (Int.ediv_le_self _ b0) (by omega))
      by_cases hbit : PlainAid.bt n m / 2 ^ r % 2 = 1
      · have HK : Hid (lad x (kb n (j + 1)) = up x (lad x (kb n j)) true) := by
          show lad x (kb n (j + 1)) = _
          rw [kb_succ, lad_snoc, hk, hbits true (decide_eq_true hbit)]
        have hmk2 : bits .and .u8 (PlainAid.bt n m / 2 ^ r) 1 = 1 := by rw [hmk]; exact hbit
        have hc := fun W hW => step_any hx hz lx lz t hs.hx.1 hs.hz.1 hs.lx.1 hs.lz.1 HT.out.1 W (HTT.out.below hW)
        clear hbit hmk hbits
        go_wp2_with (first | (refine wpList_load_blk rfl 47 (.tmp 6) rfl (w.heap.size + 1) 0 rfl bh [.string hx, .string hz] rfl _ Tryd.underlying47 rfl infoPT ?_) | (refine wpList_load_blk rfl 47 (.tmp 5) rfl w.heap.size 0 rfl bl [.string lx, .string lz] rfl _ Tryd.underlying47 rfl infoPT ?_) | (go_at_call 31; refine (hc _ hnx).mono ?_; rintro e w5 ⟨rfl, hb5⟩) | (refine wpList_store_blk rfl 47 (.tmp 6) (.tmp 29) rfl (w.heap.size + 1) _ rfl rfl [.string hx, .string hz] (bh.below hb5 lh) rfl (one2 _ _) infoPT ?_; intro W5 hW5; have bl5 := hW5.other _ _ _ (by omega) (bl.below hb5 ll)) | (refine wpList_store_blk rfl 47 (.tmp 5) (.tmp 30) rfl w.heap.size _ rfl rfl [.string lx, .string lz] bl5 rfl (one2 _ _) infoPT ?_; intro W6 hW6))
        go_roundw
        case rel => exact ⟨j + 1, _, _, _, _, by omega, by go_num, hW6.blk, hW6.other _ _ _ (by omega) hW5.blk, hW6.below _ _ (by omega) (hW5.below _ _ (by omega) (hnx.trans (hb5.mono sz))), by rw [HK.out]; exact hs.up1 HT.out⟩
        case measure => simp [intOf] <;> omega
      · have HK : Hid (lad x (kb n (j + 1)) = up x (lad x (kb n j)) false) := by
          show lad x (kb n (j + 1)) = _
          rw [kb_succ, lad_snoc, hk, hbits false (decide_eq_false hbit)]
        have hmk2 : bits .and .u8 (PlainAid.bt n m / 2 ^ r) 1 = 0 := by rw [hmk]; omega
        have hc := fun W hW => step_any lx lz hx hz t hs.lx.1 hs.lz.1 hs.hx.1 hs.hz.1 HT.out.1 W (HTT.out.below hW)
        clear hbit hmk hbits
        go_wp2_with (first | (refine wpList_load_blk rfl 47 (.tmp 5) rfl w.heap.size 0 rfl bl [.string lx, .string lz] rfl _ Tryd.underlying47 rfl infoPT ?_) | (refine wpList_load_blk rfl 47 (.tmp 6) rfl (w.heap.size + 1) 0 rfl bh [.string hx, .string hz] rfl _ Tryd.underlying47 rfl infoPT ?_) | (go_at_call 31; refine (hc _ hnx).mono ?_; rintro e w5 ⟨rfl, hb5⟩) | (refine wpList_store_blk rfl 47 (.tmp 5) (.tmp 36) rfl w.heap.size _ rfl rfl [.string lx, .string lz] (bl.below hb5 ll) rfl (one2 _ _) infoPT ?_; intro W5 hW5; have bh5 := hW5.other _ _ _ (by omega) (bh.below hb5 lh)) | (refine wpList_store_blk rfl 47 (.tmp 6) (.tmp 37) rfl (w.heap.size + 1) _ rfl rfl [.string hx, .string hz] bh5 rfl (one2 _ _) infoPT ?_; intro W6 hW6))
        go_roundw
        case rel => exact ⟨j + 1, _, _, _, _, by omega, by go_num, hW6.other _ _ _ (by omega) hW5.blk, hW6.blk, hW6.below _ _ (by omega) (hW5.below _ _ (by omega) (hnx.trans (hb5.mono sz))), by rw [HK.out]; exact hs.up0 HT.out⟩
        case measure => simp [intOf] <;> omega
    · obtain rfl : j = 255 := by omega
      rw [show (254 : Int) - ((255 : Nat) : Int) = -1 from rfl]
      have HE : Hid (tM lx (tI lz) = kt (mlt (kb n 255) x)) := climb_end hs
      have z1 := hs.lx.1
      have z2 := hs.lz.1
      have HN : Hid (n.size = 32) := hn
      clear hs hj hlt hn
      go_wp2_with fail
      rename World => wr
      have c1 : ∀ y : Up wr, y.1.cell? ⟨w.heap.size, 0, none⟩ = some (.string lx) := fun y => (bl.below y.2 ll).cell 0 _ rfl
      have c2 : ∀ y : Up wr, y.1.cell? ⟨w.heap.size, 1, none⟩ = some (.string lz) := fun y => (bl.below y.2 ll).cell 1 _ rfl
      have F1 : Hid (∀ y : Up wr, Calls Tryd.prog 33 #[.string lz] y.1 fun e w' => e = .returned (.string (tI lz)) ∧ Below y.1.heap.size y.1 w') := fun y => inverse_any lz z2 y.1 ((HTT.out.below hnx).below y.2)
      have F2 : Hid (∀ y : Up wr, Calls Tryd.prog 32 #[.string lx, .string (tI lz)] y.1 fun e w' => e = .returned (.string (tM lx (tI lz))) ∧ Below y.1.heap.size y.1 w') := fun y => times_any lx (tI lz) z1 (tI_size _) y.1
      have hne := Up.some wr
      refine wp_region_up (by kernel_rfl) (by kernel_rfl) ?_
      repeat (go_big_quiet_step (first | (with_reducible exact calls_up (F1.out _)) | (with_reducible exact calls_up (F2.out _))))
      refine wpQuiet_nil ?_
      rintro w1 ⟨y1, rfl⟩
      go_wp2_with fail
      go_ret
      exact ⟨by rw [HE.out]; rfl, hnx.trans (y1.2.mono sz)⟩
end Go.Proofs.YtdpokjhoedhadaaDoor.crv
