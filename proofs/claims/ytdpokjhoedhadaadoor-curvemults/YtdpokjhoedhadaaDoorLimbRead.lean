/-
  THE WALK OF package elem's numbers: read.
-/
import Derived.Test.YtdpokjhoedhadaaDoorLimbPower
import Derived.Lib.EndianBits
namespace Go.Proofs.YtdpokjhoedhadaaDoor.limb
open Go.RowKit
open Go.Proofs.YtdpokjhoedhadaaDoor.num (P N nB nB_bd mem_getD bt_list N_bd)

theorem nB_snoc (l : List UInt8) (b : UInt8) : nB (l ++ [b]) = nB l + (b.toNat : Int) * 256 ^ l.length := by
  induction l with
  | nil => simp [nB]
  | cons a l ih =>
    simp only [List.cons_append, nB, ih, List.length_cons, Int.pow_succ]
    rw [Int.mul_add, ← Int.mul_assoc ((b.toNat : Int)), Int.mul_comm _ (256 : Int)]
    omega
theorem nB_take (s : ByteArray) (i : Nat) (h : i < s.size) : nB (s.data.toList.take (i + 1)) = nB (s.data.toList.take i) + PlainAid.bt s i * 256 ^ i := by
  have hl : i < s.data.toList.length := by rw [Array.length_toList]; exact h
  rw [List.take_succ_eq_append_getElem hl, nB_snoc, List.length_take, Nat.min_eq_left (by omega), bt_list s i h]
theorem read_step (s : ByteArray) (q r : Nat) (hs : s.size = 32) (hq : q < 8) (hr : r < 4) :
    (dg 8 (nB (s.data.toList.take (4 * q + r)))).set q (bits .or .u32 ((dg 8 (nB (s.data.toList.take (4 * q + r)))).getD q 0) (PlainAid.bt s (4 * q + r) * 2 ^ (r * 8) % 4294967296)) = dg 8 (nB (s.data.toList.take (4 * q + r + 1))) := by
  have hv := nB_bd (s.data.toList.take (4 * q + r))
  have hll : s.data.toList.length = 32 := by rw [Array.length_toList]; exact hs
  rw [List.length_take, Nat.min_eq_left (by omega)] at hv
  rw [nB_take s _ (by omega), dg_get 8 _ q hq]
  have b0 := PlainAid.bt_nonneg s (4 * q + r)
  have b1 := PlainAid.bt_le s (4 * q + r)
  generalize PlainAid.bt s (4 * q + r) = b at *
  generalize nB (s.data.toList.take (4 * q + r)) = v at *
  have e1 : (256 : Int) ^ (4 * q + r) = 256 ^ r * 4294967296 ^ q := by rw [Int.pow_add, Int.pow_mul, Int.mul_comm, show (256 : Int) ^ 4 = 4294967296 from by decide]
  have hXp : (0 : Int) < 4294967296 ^ q := Int.pow_pos (by decide)
  have hx : v / 4294967296 ^ q < 256 ^ r := by
    refine Int.ediv_lt_of_lt_mul hXp ?_
    rw [← e1]; exact hv.2
  have hx0 : 0 ≤ v / 4294967296 ^ q := Int.ediv_nonneg hv.1 (Int.le_of_lt hXp)
  have hr8 : (256 : Int) ^ r = 2 ^ (r * 8) := by rw [Nat.mul_comm, Int.pow_mul]; rfl
  have hgd := dg_get 8 v q hq
  have key : ∀ y : Int, v / 4294967296 ^ q % 4294967296 = y → 0 ≤ y → y < 256 ^ r → bits .or .u32 y (b * 2 ^ (r * 8) % 4294967296) = y + b * 256 ^ r := by
    intro y _ y0 y1
    rw [hr8] at y1 ⊢
    have hc : r = 0 ∨ r = 1 ∨ r = 2 ∨ r = 3 := by omega
    rcases hc with rfl | rfl | rfl | rfl
    · have e : b * 2 ^ (0 * 8) % 4294967296 = b * 2 ^ (0 * 8) := by simp; omega
      rw [e]
      exact bits_join_low .u32 32 (by decide) wraps_u32 0 y _ y0 (by simpa using y1) (by simp at y1; omega) (by simp; omega) (by rw [Int.pow_zero]; exact Int.emod_one _) (by simp; omega)
    · have e : b * 2 ^ (1 * 8) % 4294967296 = b * 2 ^ (1 * 8) := by simp; omega
      rw [e]
      exact bits_join_low .u32 32 (by decide) wraps_u32 8 y _ y0 (by simpa using y1) (by simp at y1; omega) (by simp; omega) (by simp) (by simp; omega)
    · have e : b * 2 ^ (2 * 8) % 4294967296 = b * 2 ^ (2 * 8) := by simp; omega
      rw [e]
      exact bits_join_low .u32 32 (by decide) wraps_u32 16 y _ y0 (by simpa using y1) (by simp at y1; omega) (by simp; omega) (by simp) (by simp; omega)
    · have e : b * 2 ^ (3 * 8) % 4294967296 = b * 2 ^ (3 * 8) := by simp; omega
      rw [e]
      exact bits_join_low .u32 32 (by decide) wraps_u32 24 y _ y0 (by simpa using y1) (by simp at y1; omega) (by simp; omega) (by simp) (by simp; omega)
  have hlt256 : (256 : Int) ^ r ≤ 16777216 := by
    have hc : r = 0 ∨ r = 1 ∨ r = 2 ∨ r = 3 := by omega
    rcases hc with rfl | rfl | rfl | rfl <;> decide
  have hsm : v / 4294967296 ^ q % 4294967296 = v / 4294967296 ^ q := Int.emod_eq_of_lt hx0 (by omega)
  have h256 : (0 : Int) < 256 ^ r := Int.pow_pos (by decide)
  rw [key _ rfl (by rw [hsm]; exact hx0) (by rw [hsm]; exact hx)]
  have hbr : b * 256 ^ r ≤ 255 * 256 ^ r := Int.mul_le_mul_of_nonneg_right b1 (Int.le_of_lt h256)
  have hbr0 : 0 ≤ b * 256 ^ r := Int.mul_nonneg b0 (Int.le_of_lt h256)
  have hA := val_add_at (dg 8 v) q (b * 256 ^ r) (by rw [dg_length]; exact hq)
  rw [hgd] at hA
  have hq32 : v < 115792089237316195423570985008687907853269984665640564039457584007913129639936 := by
    have h1 : (256 : Int) ^ (4 * q + r) ≤ 256 ^ 32 := by
      have := Nat.pow_le_pow_right (show 256 > 0 by decide) (show 4 * q + r ≤ 32 by omega)
      have h3 : ((256 ^ (4 * q + r) : Nat) : Int) ≤ ((256 ^ 32 : Nat) : Int) := Int.ofNat_le.2 this
      rw [Int.natCast_pow, Int.natCast_pow] at h3
      exact h3
    have h2 : (256 : Int) ^ 32 = 115792089237316195423570985008687907853269984665640564039457584007913129639936 := by decide
    omega
  rw [val_dg8 v hv.1 hq32, Int.mul_assoc, ← e1] at hA
  have hD := dg_val ((dg 8 v).set q (v / 4294967296 ^ q % 4294967296 + b * 256 ^ r)) (ok_set (dg_ok 8 v) q _ (by rw [hsm]; omega) (by rw [hsm]; omega))
  rw [List.length_set, dg_length, hA] at hD
  exact hD.symm

set_option maxRecDepth 100000 in
set_option maxHeartbeats 1600000 in
theorem read_any (s : ByteArray) (hs : s.size = 32) (w : World) :
    Calls Tryd.prog 57 #[.string s] w fun e w' => e = .returned (.agg (ints (dg 8 (N s % P)))) ∧ Below w.heap.size w w' := by
  go_enter Tryd.func57, Tryd.ntmps57
  go_wp2
  go_loopw [5] (fun v wr => ∃ i : Nat, i ≤ 32 ∧ v = .int .i64 i ∧ Arr wr w.heap.size 59 zeros ∧ Arr wr (w.heap.size + 1) 59 (dg 8 (nB (s.data.toList.take i))) ∧ Below w.heap.size w wr) (fun v _ => 32 - (intOf v).toNat)
  case atStart =>
    refine ⟨0, by omega, rfl, (Arr.new w 59 zeros).alloc _, ?_, ((Below.refl _ _).alloc (Nat.le_refl _) _).alloc (by simp) _⟩
    have h := Arr.new (w.alloc (.cells (ints zeros) 59)) 59 zeros
    rw [World.size_alloc] at h
    exact h
  case round =>
    obtain ⟨i, hi, rfl, hZ, hA, hnx⟩ := hrel
    by_cases hlt : i < 32
    · obtain ⟨q, r, rfl, hr⟩ : ∃ q r, i = 4 * q + r ∧ r < 4 := ⟨i / 4, i % 4, by omega, by omega⟩
      have hq : q < 8 := by omega
      have hb := PlainAid.get_bt s
      have j0 : 4 * q + r < s.size := by omega
      have j1 : (4 * (q : Int) + r) < (s.size : Int) := by omega
      have b0 := PlainAid.bt_nonneg s (4 * q + r)
      have b1 := PlainAid.bt_le s (4 * q + r)
      have q0 : (4 * (q : Int) + r).tdiv 4 = q := by rw [Int.tdiv_eq_ediv_of_nonneg (by omega)]; omega
      have q1 : (4 * (q : Int) + r).tmod 4 = r := by rw [Int.tmod_eq_emod_of_nonneg (by omega)]; omega
      have hl := dg_length 8 (nB (s.data.toList.take (4 * q + r)))
      have HS : Hid _ := read_step s q r hs hq hr
      generalize dg 8 (nB (s.data.toList.take (4 * q + r))) = D at *
      have hc := hA.cell q (by omega)
      have hf := hA.frozen q
      generalize D.getD q 0 = x at *
      have q2 : (q : Int) < 8 := by omega
      have q3 : (0 : Int) ≤ (q : Int) := by omega
      have r2 : (r : Int) < 4 := by omega
      have r3 : (0 : Int) ≤ (r : Int) := by omega
      go_wp2
      go_region
      all_goals
        go_wp2
        go_roundw
        case rel => exact ⟨4 * q + r + 1, by omega, by go_num, (hZ.other (by simp) _).drew, by rw [← HS.out]; exact (hA.set q _).drew, (hnx.setCell (by simp) _).drew⟩
        case measure => simp [intOf]; omega
    · obtain rfl : i = 32 := by omega
      have hll : s.data.toList.length = 32 := by rw [Array.length_toList]; exact hs
      rw [List.take_of_length_le (by omega)] at hA
      have hNb := N_bd s hs
      have hlow := lowered_any (N s) hNb.1 hNb.2
      have hA2 : Arr wr (w.heap.size + 1) 59 (dg 8 (N s)) := hA
      clear hA
      have hd8 := dg_length 8 (N s)
      have hdr := dg_length 8 (N s % P)
      obtain ⟨D, hD⟩ : ∃ D, dg 8 (N s) = D := ⟨_, rfl⟩
      rw [hD] at hA2 hlow hd8
      obtain ⟨R, hR⟩ : ∃ R, dg 8 (N s % P) = R := ⟨_, rfl⟩
      rw [hR] at hlow hdr
      have HR : Hid (dg 8 (N s % P) = R) := hR
      clear hR hD hNb
      have sz := hnx.size
      have hzl := hZ.lt
      go_wp2_with (first | (refine wpList_load_arr rfl 59 (.tmp 3) rfl (w.heap.size + 1) rfl D _ hA2 Tryd.underlying59 rfl (by rw [hd8]; exact infoNR) ?_) | (go_at_call 70; refine (hlow _).mono ?_; rintro e w5 ⟨rfl, hb5⟩) | (refine wpList_store_arr rfl 59 (.tmp 2) (.tmp 24) rfl w.heap.size R rfl rfl zeros (hZ.below hb5 hzl) (by rw [hdr]; rfl) infoNR ?_; intro W5 hW5))
      exact bodyPost_ret (results_arr Tryd.results57 _ rfl hW5.arr _ Tryd.underlying59 rfl (by rw [hdr]; exact infoNR)) rfl ⟨by rw [HR.out], hW5.below _ _ (by omega) (hnx.trans (hb5.mono sz))⟩
end Go.Proofs.YtdpokjhoedhadaaDoor.limb
