/-
  THE WALK OF the document's own number of a text: longOf.
-/
import Derived.Test.YtjcgodojbpfooaaRefLong
namespace Go.Proofs.Ytjcgodojbpfooaa.lon
open Go.RowKit
open Go.Proofs.Ytjcgodojbpfooaa.u64
open Go.Proofs.Ytjcgodojbpfooaa.pol
open Go.Proofs.Ytjcgodojbpfooaa.ghs (tb tb_lt bt_nb)

set_option maxRecDepth 100000 in
set_option maxHeartbeats 1600000 in
theorem longOf_any (s : ByteArray) (hs : s.size ≤ 17) (hn : N s < 67108864 ^ 5) (w : World) :
    Calls Try.prog 61 #[.string s] w fun e w' => e = .returned (.agg (wu (dg 8192 10 (N s))).toArray) ∧ Below w.heap.size w w' := by
  have hZ0 : Arr ((w.alloc (.cells (wu z10).toArray 63)).alloc (.cells (wu z10).toArray 63)) w.heap.size 63 z10 := (Arr.new w 63 z10).alloc _
  have hA0 : Arr ((w.alloc (.cells (wu z10).toArray 63)).alloc (.cells (wu z10).toArray 63)) (w.heap.size + 1) 63 z10 := by
    have h := Arr.new (w.alloc (.cells (wu z10).toArray 63)) 63 z10
    rw [World.size_alloc] at h
    exact h
  have hX0 : Below w.heap.size w ((w.alloc (.cells (wu z10).toArray 63)).alloc (.cells (wu z10).toArray 63)) := ((Below.refl _ _).alloc (Nat.le_refl _) _).alloc (by simp) _
  have hA1 : Arr ((w.alloc (.cells (wu z10).toArray 63)).alloc (.cells (wu z10).toArray 63)) (w.heap.size + 1) 63 (dg 8192 10 (N s % 2 ^ 0)) := by
    rw [show N s % 2 ^ 0 = 0 from Nat.mod_one _]
    exact hA0
  obtain ⟨e8, he8⟩ : ∃ e8, e8 = 8 * s.size := ⟨_, rfl⟩
  have hsb : (s.size : Int) ≤ 17 := by omega
  have b8 : e8 ≤ 136 := by omega
  clear hA0
  go_enter Try.func61, Try.ntmps61
  go_wp2
  go_loopw [8] (fun i wr => ∃ k : Nat, k ≤ e8 ∧ i = .int .i64 k ∧ Arr wr (w.heap.size + 1) 63 (dg 8192 10 (N s % 2 ^ k)) ∧ Arr wr w.heap.size 63 z10 ∧ Below w.heap.size w wr) (fun i _ => e8 - (intOf i).toNat)
  case atStart => exact ⟨0, by omega, rfl, hA1, hZ0, hX0⟩
  case round =>
    clear hZ0 hA1 hX0
    obtain ⟨k, hk, rfl, hA, hZ, hnx⟩ := hrel
    by_cases hlt : k < e8
    · have hd : (k : Int) < 8 * (s.size : Int) := by omega
      have hkb : k / 8 < s.size := by omega
      have hgb := PlainAid.get_bt s
      have eb := bt_nb s (k / 8) hkb
      have lx := tb_lt s (k / 8)
      have hbt := tb_bit s k (by omega)
      have hms := mod_succ (N s) k
      have ht2 : N s / 2 ^ k % 2 < 2 := Nat.mod_lt _ (by decide)
      have hbig : N s / 2 ^ k % 2 = 1 → k < 130 := fun h => by
        refine Nat.lt_of_not_le fun h2 => ?_
        have h3 : 2 ^ 130 ≤ 2 ^ k := Nat.pow_le_pow_right (by decide) h2
        have h4 : N s / 2 ^ k = 0 := Nat.div_eq_of_lt (Nat.lt_of_lt_of_le hn (Nat.le_trans (by decide) h3))
        rw [h4] at h
        exact absurd h (by decide)
      obtain ⟨j, hj⟩ : ∃ j, j = k / 8 := ⟨_, rfl⟩
      obtain ⟨q, hq⟩ : ∃ q, q = k % 8 := ⟨_, rfl⟩
      rw [← hj] at hbt lx eb hkb
      rw [← hq] at hbt
      generalize tb s j = x at *
      obtain ⟨d, hdx⟩ : ∃ d, d = x / 2 ^ q := ⟨_, rfl⟩
      rw [← hdx] at hbt
      have v0 : (x : Int) / 2 ^ q = (d : Int) := by rw [hdx]; simp
      have q1 : (k : Int).tdiv 8 = (j : Int) := by rw [Int.tdiv_eq_ediv_of_nonneg (by omega)]; omega
      have q2 : (k : Int).tmod 8 = (q : Int) := by rw [Int.tmod_eq_emod_of_nonneg (by omega)]; omega
      have k0 : (0 : Int) ≤ (k : Int) := by omega
      have kb : (k : Int) ≤ 136 := by omega
      have j0 : (0 : Int) ≤ (j : Int) := by omega
      have j1 : (j : Int) < (s.size : Int) := by omega
      have p0 : (0 : Int) ≤ (q : Int) := by omega
      have p1 : (q : Int) ≤ 8 := by omega
      have p2 : (q : Int) < 8 := by omega
      have jn : j < s.size := hkb
      have HK : Hid (k < e8 ∧ e8 = 8 * s.size ∧ s.size ≤ 17) := ⟨hlt, he8, hs⟩
      have dz : (d : Int) % 2 = ((N s / 2 ^ k % 2 : Nat) : Int) := by rw [← hbt]; omega
      by_cases ht : N s / 2 ^ k % 2 = 1
      · have h130 := hbig ht
        obtain ⟨ho, hst⟩ := bit_dg 13 10 (N s) k (by decide) (by omega)
        rw [ht] at hst dz
        have hd10 := dg_length 8192 10 (N s % 2 ^ k)
        have hc := hA.cell (k / 13) (by rw [hd10]; omega)
        have hf := hA.frozen (k / 13)
        obtain ⟨i, hi⟩ : ∃ i, i = k / 13 := ⟨_, rfl⟩
        obtain ⟨r, hr⟩ : ∃ r, r = k % 13 := ⟨_, rfl⟩
        rw [show (2 : Nat) ^ 13 = 8192 from rfl, ← hi, ← hr] at ho hst
        rw [← hi] at hc hf
        generalize (dg 8192 10 (N s % 2 ^ k)).getD i 0 = old at *
        have hpw : 2 ^ r ≤ 2 ^ 12 := Nat.pow_le_pow_right (by decide) (by omega)
        obtain ⟨y, hy⟩ : ∃ y, y = 1 * 2 ^ r := ⟨_, rfl⟩
        obtain ⟨z, hz⟩ : ∃ z, z = old + y := ⟨_, rfl⟩
        rw [← hy, ← hz] at hst
        have hyb : y ≤ 4096 := by rw [hy]; omega
        have v1 : IntKind.u64.wrap ((2 : Int) ^ r) = (y : Int) := by
          have e : (2 : Int) ^ r = (y : Int) := by rw [hy]; simp
          rw [e]; exact wrap64u y (by omega)
        have v2 : bits .or .u64 (old : Int) (y : Int) = (z : Int) := by
          rw [or64 old y (by omega) (by omega), hy, or_add old 1 r ho, ← hy, hz]
        have q3 : (k : Int).tdiv 13 = (i : Int) := by rw [Int.tdiv_eq_ediv_of_nonneg (by omega)]; omega
        have q4 : (k : Int).tmod 13 = (r : Int) := by rw [Int.tmod_eq_emod_of_nonneg (by omega)]; omega
        have i0 : (0 : Int) ≤ (i : Int) := by omega
        have i1 : (i : Int) < 10 := by omega
        have r0 : (0 : Int) ≤ (r : Int) := by omega
        have r1 : (r : Int) ≤ 64 := by omega
        have HS : Hid (dg 8192 10 (N s % 2 ^ (k + 1)) = (dg 8192 10 (N s % 2 ^ k)).set i z) := hst
        clear hst ho hpw hy hz hyb hi hr hd10 hbig ht ht2 hms hbt hdx hj hq hlt hs hn he8 h130 hkb
        go_wp2
        go_region
        all_goals
          go_wp2
          go_roundw
          case rel => exact ⟨k + 1, HK.out.1, by go_num, by rw [HS.out]; exact (hA.set i _).drew, (hZ.other (by simp) _).drew, (hnx.setCell (by simp) _).drew⟩
          case measure => have := HK.out; simp [intOf]; omega
      · have ht0 : N s / 2 ^ k % 2 = 0 := by omega
        rw [ht0] at hms dz
        have HS : Hid (N s % 2 ^ (k + 1) = N s % 2 ^ k) := by show _ = _; omega
        clear hbig ht ht0 ht2 hms hbt hdx hj hq hlt hs hn he8 hkb
        go_wp2
        go_roundw
        case rel => exact ⟨k + 1, HK.out.1, by go_num, by rw [HS.out]; exact hA, hZ, hnx⟩
        case measure => have := HK.out; simp [intOf]; omega
    · obtain rfl : k = e8 := by omega
      have hN := N_lt s
      have e : N s % 2 ^ k = N s := by
        rw [he8]
        refine Nat.mod_eq_of_lt ?_
        rw [Nat.pow_mul]
        exact hN
      rw [e] at hA
      have hd := dg_length 8192 10 (N s)
      obtain ⟨D, hD⟩ : ∃ D, dg 8192 10 (N s) = D := ⟨_, rfl⟩
      rw [hD] at hA hd
      have HD : Hid (dg 8192 10 (N s) = D) := hD
      have dl : ¬ (k : Int) < 8 * (s.size : Int) := by omega
      clear e hN hn hD hs he8
      go_wp2_with (first | (refine wpList_load_arr rfl 63 (.tmp 3) rfl (w.heap.size + 1) rfl hA _ Try.underlying63 rfl (by rw [hd]; exact infoLG) ?_) | (refine wpList_store_arr rfl 63 (.tmp 2) (.tmp 30) rfl w.heap.size D rfl rfl hZ (by rw [hd]; rfl) infoLG ?_; intro W hW))
      exact bodyPost_ret (results_arr Try.results61 _ rfl hW.arr _ Try.underlying63 rfl (by rw [hd]; exact infoLG)) rfl ⟨by rw [HD.out], hW.below _ _ (by omega) hnx⟩
end Go.Proofs.Ytjcgodojbpfooaa.lon
