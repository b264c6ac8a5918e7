/-
  THE WALK OF package chacha's begun.
-/
import Derived.Test.YtmbckgfpkmnlnabDoorChaTold
namespace Go.Proofs.YtmbckgfpkmnlnabDoor.cha
open Go.RowKit
open Go.Proofs.YtmbckgfpkmnlnabDoor.ghs (tb tb_lt)

def z16 : List Nat := [0, 0, 0, 0, 0, 0, 0, 0, 0, 0, 0, 0, 0, 0, 0, 0]
def sg0 : List Nat := [1634760805, 857760878, 2036477234, 1797285236, 0, 0, 0, 0, 0, 0, 0, 0, 0, 0, 0, 0]
/-- What the loop leaves. -/
def bgn (s : ByteArray) : Nat → List Nat
  | 0 => sg0
  | k + 1 => (bgn s k).set (4 + k) (num (tb s) k)
theorem bgn_length (s : ByteArray) : ∀ k, (bgn s k).length = 16
  | 0 => rfl
  | k + 1 => by rw [bgn, List.length_set, bgn_length s k]
theorem bgn_all (s : ByteArray) : bgn s 12 = beg s := by rfl
theorem infoST : (Tryd.prog.info? 80).map (·.size) = some 16 := by kernel_rfl
theorem tb_extract (s : ByteArray) (lo j : Nat) (h : lo + j < s.size) : tb (s.extract lo s.size) j = tb s (lo + j) := by
  unfold tb nb
  rw [ByteArray.data_extract, Array.toList_extract, List.getD_eq_getElem?_getD, List.getD_eq_getElem?_getD, List.getElem?_map, List.getElem?_map]
  simp [List.extract, List.getElem?_take, List.getElem?_drop]
  have h2 : j < s.size - lo := by omega
  rw [if_pos h2]
theorem num_extract (s : ByteArray) (k : Nat) (h : 4 * k + 4 ≤ s.size) : num (tb (s.extract (4 * k) s.size)) 0 = num (tb s) k :=
  num_congr fun j hj => by rw [Nat.mul_zero, Nat.zero_add]; exact tb_extract s _ _ (by omega)

set_option maxRecDepth 100000 in
set_option maxHeartbeats 1600000 in
theorem begun_any (key behind : ByteArray) (hk1 : key.size = 32) (hk2 : behind.size = 16) (w : World) :
    Calls Tryd.prog 52 #[.string key, .string behind] w fun e w' => e = .returned (.agg (wd (beg (key ++ behind))).toArray) ∧ Below w.heap.size w w' := by
  have hk : (key ++ behind).size = 48 := by rw [ByteArray.size_append]; omega
  obtain ⟨t, ht⟩ : ∃ t, key ++ behind = t := ⟨_, rfl⟩
  rw [ht] at hk ⊢
  have hZ : Blk ((w.alloc (.cells (wd z16).toArray 80)).alloc (.cells (wd z16).toArray 80)) w.heap.size 80 (wd z16) := (Blk.new w 80 (wd z16) _ rfl).alloc _
  have hA : Blk ((w.alloc (.cells (wd z16).toArray 80)).alloc (.cells (wd z16).toArray 80)) (w.heap.size + 1) 80 (wd z16) := by
    have h := Blk.new (w.alloc (.cells (wd z16).toArray 80)) 80 (wd z16) _ rfl
    rw [World.size_alloc] at h
    exact h
  have hX : Below w.heap.size w ((w.alloc (.cells (wd z16).toArray 80)).alloc (.cells (wd z16).toArray 80)) := ((Below.refl _ _).alloc (Nat.le_refl _) _).alloc (by simp) _
  have hz : (t.size : Int) = 48 := by omega
  go_enter Tryd.func52, Tryd.ntmps52
  go_wp2_with (refine wpList_store_blk rfl 80 (.tmp 5) (.tmp 8) rfl (w.heap.size + 1) (wd sg0) rfl rfl (wd z16) hA rfl (wd_one _) infoST ?_; intro W hW)
  have hZ1 := hW.other _ _ _ (by omega) hZ
  have hX1 := hW.below w.heap.size w (by omega) hX
  have hA1 := hW.blk
  clear hA hZ hX hW
  go_loopw [15] (fun i wr => ∃ k : Nat, k ≤ 12 ∧ i = .int .i64 k ∧ Blk wr w.heap.size 80 (wd z16) ∧ Blk wr (w.heap.size + 1) 80 (wd (bgn t k)) ∧ Below w.heap.size w wr) (fun i _ => 12 - (intOf i).toNat)
  case atStart => exact ⟨0, by omega, rfl, hZ1, hA1, hX1⟩
  case round =>
    clear hZ1 hA1 hX1
    obtain ⟨k, hk12, rfl, hZ, hA, hnx⟩ := hrel
    by_cases hlt : k < 12
    · have d0 : decide ((k : Int) < 12) = true := by simp; omega
      obtain ⟨q, hq⟩ : ∃ q, q = 4 * k := ⟨_, rfl⟩
      have e1 : 4 * (k : Int) = (q : Int) := by omega
      obtain ⟨r, hr⟩ : ∃ r, r = 4 + k := ⟨_, rfl⟩
      have e2 : 4 + (k : Int) = (r : Int) := by omega
      have hsl := cv.sl_from t q (by omega)
      have hne := num_extract t k (by omega)
      rw [← hq] at hne
      have hsz : (t.extract q t.size).size = t.size - q := by rw [ByteArray.size_extract]; omega
      have f1 := number_any (t.extract q t.size) (by omega)
      rw [hne] at f1
      clear hne hsz
      have hl := bgn_length t k
      have HU : Hid (bgn t (k + 1) = (bgn t k).set r (num (tb t) k)) := by rw [hr]; rfl
      have c1 := hA.cell r _ (wd_get _ r (by omega))
      have z1 := hA.frozen r
      generalize num (tb t) k = x at *
      generalize t.extract q t.size = T at *
      generalize bgn t k = L at *
      generalize L.getD r 0 = o at *
      have q0 : (0 : Int) ≤ (q : Int) := by omega
      have r0 : (0 : Int) ≤ (r : Int) := by omega
      have rz : (r : Int) < 16 := by omega
      clear hq hr
      go_wp2_with (go_at_call 62; (with_reducible refine (f1 _).mono ?_); rintro e w2 ⟨rfl, hb2⟩; have c2 := (hA.below hb2 hA.lt).cell r _ (wd_get _ r (by omega)); have z2 := (hA.below hb2 hA.lt).frozen r)
      go_roundw
      case rel => exact ⟨k + 1, by omega, by go_num, (hZ.below hb2 hZ.lt).other (by simp) _, by rw [HU.out, ← wd_set]; exact (hA.below hb2 hA.lt).set r _, (hnx.trans (hb2.mono hnx.size)).setCell (by simp) _⟩
      case measure => simp [intOf]; omega
    · obtain rfl : k = 12 := by omega
      have d0 : decide (((12 : Nat) : Int) < 12) = false := by decide
      rw [bgn_all] at hA
      have lq : (wd (beg t)).length = 16 := by rw [wd_length, beg_length]
      have l1 := wd_one (beg t)
      obtain ⟨R, HR⟩ : ∃ R, Hid (R = wd (beg t)) := ⟨_, rfl⟩
      rw [← HR.out] at hA lq l1
      go_wp2_with (first | (refine wpList_load_blk rfl 80 (.tmp 5) rfl (w.heap.size + 1) 0 rfl hA R (by simp) _ Tryd.underlying80 rfl (by rw [lq]; exact infoST) ?_) | (refine wpList_store_blk rfl 80 (.tmp 4) (.tmp 27) rfl w.heap.size R rfl rfl (wd z16) hZ (by rw [lq]; rfl) l1 infoST ?_; intro W hW))
      exact bodyPost_ret (results_blk1 Tryd.results52 _ rfl hW.blk _ Tryd.underlying80 rfl (by rw [lq]; exact infoST)) rfl ⟨by rw [HR.out], hW.below _ _ (by omega) hnx⟩
end Go.Proofs.YtmbckgfpkmnlnabDoor.cha
