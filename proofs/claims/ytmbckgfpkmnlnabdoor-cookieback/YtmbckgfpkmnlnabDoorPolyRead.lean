/-
  THE WALKS OF package poly's numbers: read, text.
-/
import Derived.Test.YtmbckgfpkmnlnabDoorPolyCarry
import Derived.Test.YtmbckgfpkmnlnabDoorPlainPoly
import Derived.Test.YtmbckgfpkmnlnabDoorConv
import Derived.Test.YtmbckgfpkmnlnabDoorBundle4
namespace Go.Proofs.YtmbckgfpkmnlnabDoor.pol
open Go.RowKit
open Go.Proofs.YtmbckgfpkmnlnabDoor.u64
open Go.Proofs.YtmbckgfpkmnlnabDoor.soft
open Go.Proofs.YtmbckgfpkmnlnabDoor.ghs (tb tb_lt bt_nb)

/-- How far read has come: k bytes. -/
structure Rd (s : ByteArray) (L : List Nat) (k : Nat) : Prop where
  length : L.length = 5
  value : val 67108864 L = val 256 ((nb s).take k)
  bound : ∀ j, L.getD j 0 < 2 ^ (8 * k - 26 * j)
  small : ∀ a ∈ L, a ≤ 17179869184
theorem rd_start (s : ByteArray) : Rd s z5 0 := by
  refine ⟨rfl, by simp [val, z5], fun j => ?_, by decide⟩
  have : z5.getD j 0 = 0 := by
    rw [show z5 = List.replicate 5 0 from rfl, List.getD_eq_getElem?_getD, List.getElem?_replicate]
    split <;> rfl
  rw [this]
  exact Nat.pow_pos (by decide)
theorem getD_set5 (L : List Nat) (j i x : Nat) (h : j < L.length) : (L.set j x).getD i 0 = if j = i then x else L.getD i 0 := by
  rw [List.getD_eq_getElem?_getD, List.getElem?_set, List.getD_eq_getElem?_getD]
  by_cases c : j = i
  · subst c; simp [h]
  · simp [c]
theorem rd_step {s : ByteArray} {L : List Nat} {k : Nat} (h : Rd s L k) (hk : k < s.size) (h17 : k < 17) :
    8 * k / 26 < 5 ∧ L.getD (8 * k / 26) 0 < 2 ^ (8 * k % 26) ∧ tb s k * 2 ^ (8 * k % 26) ≤ 8556380160 ∧ Rd s (L.set (8 * k / 26) (L.getD (8 * k / 26) 0 + tb s k * 2 ^ (8 * k % 26))) (k + 1) := by
  have hj : 8 * k / 26 < 5 := by omega
  have hr : 8 * k % 26 < 26 := Nat.mod_lt _ (by decide)
  have hx := tb_lt s k
  have ho := h.bound (8 * k / 26)
  rw [show 8 * k - 26 * (8 * k / 26) = 8 * k % 26 from by omega] at ho
  have hp : 2 ^ (8 * k % 26) ≤ 2 ^ 25 := Nat.pow_le_pow_right (by decide) (by omega)
  have hm : tb s k * 2 ^ (8 * k % 26) ≤ 255 * 2 ^ 25 := Nat.mul_le_mul (by omega) hp
  refine ⟨hj, ho, hm, ⟨by rw [List.length_set]; exact h.length, ?_, fun i => ?_, set_le h.small _ _ (by omega)⟩⟩
  · rw [val_add_at _ _ _ _ (by rw [h.length]; exact hj), h.value, val_take_succ _ _ _ (by rw [nb_length]; exact hk)]
    have e : tb s k * 2 ^ (8 * k % 26) * 67108864 ^ (8 * k / 26) = (nb s).getD k 0 * 256 ^ k := by
      show tb s k * 2 ^ (8 * k % 26) * (2 ^ 26) ^ (8 * k / 26) = tb s k * (2 ^ 8) ^ k
      rw [Nat.mul_assoc, ← Nat.pow_mul, ← Nat.pow_add, ← Nat.pow_mul, Nat.add_comm, Nat.div_add_mod]
    rw [e]
  · rw [getD_set5 _ _ _ _ (by rw [h.length]; exact hj)]
    by_cases c : 8 * k / 26 = i
    · rw [if_pos c, ← c, show 8 * (k + 1) - 26 * (8 * k / 26) = 8 * k % 26 + 8 from by omega, Nat.pow_add]
      have : tb s k * 2 ^ (8 * k % 26) ≤ 255 * 2 ^ (8 * k % 26) := Nat.mul_le_mul_right _ (by omega)
      omega
    · rw [if_neg c]
      exact Nat.lt_of_lt_of_le (h.bound i) (Nat.pow_le_pow_right (by decide) (by omega))
theorem rd_end {s : ByteArray} {L : List Nat} (h : Rd s L s.size) : val 67108864 L = N s := by
  rw [h.value, List.take_of_length_le (by rw [nb_length]; exact Nat.le_refl _)]
  rfl

set_option maxRecDepth 100000 in
set_option maxHeartbeats 800000 in
theorem read_any (s : ByteArray) (hs : s.size ≤ 17) (w : World) :
    Calls Tryd.prog 66 #[.string s] w fun e w' => e = .returned (.agg (wu (dg 67108864 5 (N s))).toArray) ∧ Below w.heap.size w w' := by
  have hZ0 : Arr ((w.alloc (.cells (wu z5).toArray 97)).alloc (.cells (wu z5).toArray 97)) w.heap.size 97 z5 := (Arr.new w 97 z5).alloc _
  have hA0 : Arr ((w.alloc (.cells (wu z5).toArray 97)).alloc (.cells (wu z5).toArray 97)) (w.heap.size + 1) 97 z5 := by
    have h := Arr.new (w.alloc (.cells (wu z5).toArray 97)) 97 z5
    rw [World.size_alloc] at h
    exact h
  have hX0 : Below w.heap.size w ((w.alloc (.cells (wu z5).toArray 97)).alloc (.cells (wu z5).toArray 97)) := ((Below.refl _ _).alloc (Nat.le_refl _) _).alloc (by simp) _
  go_enter Tryd.func66, Tryd.ntmps66
  go_wp2
  go_loopw [8] (fun i wr => ∃ (k : Nat) (L : List Nat), k ≤ s.size ∧ i = .int .i64 k ∧ Rd s L k ∧ Arr wr (w.heap.size + 1) 97 L ∧ Arr wr w.heap.size 97 z5 ∧ Below w.heap.size w wr) (fun i _ => s.size - (intOf i).toNat)
  case atStart => exact ⟨0, z5, by omega, rfl, rd_start s, hA0, hZ0, hX0⟩
  case round =>
    clear hZ0 hA0 hX0
    obtain ⟨k, L, hk, rfl, hR, hA, hZ, hnx⟩ := hrel
    by_cases hlt : k < s.size
    · have hd : decide ((k : Int) < (s.size : Int)) = true := by simp; omega
      obtain ⟨hj, ho, hm, hS⟩ := rd_step hR hlt (by omega)
      have hgb := PlainAid.get_bt s
      have eb := bt_nb s k hlt
      have lx := tb_lt s k
      have hc := hA.cell (8 * k / 26) (by rw [hR.length]; exact hj)
      have hf := hA.frozen (8 * k / 26)
      have hor := or_add (L.getD (8 * k / 26) 0) (tb s k) (8 * k % 26) ho
      have hob := hR.small _ (mem_getD L (8 * k / 26) (by rw [hR.length]; exact hj))
      have o0 := or64 (L.getD (8 * k / 26) 0) (tb s k * 2 ^ (8 * k % 26)) (by omega) (by omega)
      rw [hor] at o0
      generalize tb s k = x at *
      obtain ⟨r, hr⟩ : ∃ r, r = 8 * k % 26 := ⟨_, rfl⟩
      obtain ⟨j, hje⟩ : ∃ j, j = 8 * k / 26 := ⟨_, rfl⟩
      rw [← hr, ← hje] at o0 hS
      rw [← hr] at hm
      rw [← hje] at hc hf hj
      generalize L.getD j 0 = old at *
      obtain ⟨y, hy⟩ : ∃ y, y = x * 2 ^ r := ⟨_, rfl⟩
      obtain ⟨z, hz⟩ : ∃ z, z = old + y := ⟨_, rfl⟩
      rw [← hy, ← hz] at o0 hS
      rw [← hy] at hm
      have HS : Hid _ := hS
      have kz : (k : Int) < (s.size : Int) := by omega
      have k0 : (0 : Int) ≤ (k : Int) := by omega
      have q0 : IntKind.i64.wrap (8 * (k : Int)) = 8 * (k : Int) := IntWalk.i64_in _ ⟨by omega, by omega⟩
      have q1 : (8 * (k : Int)).tdiv 26 = (j : Int) := by rw [Int.tdiv_eq_ediv_of_nonneg (by omega)]; omega
      have q2 : (8 * (k : Int)).tmod 26 = (r : Int) := by rw [Int.tmod_eq_emod_of_nonneg (by omega)]; omega
      have j0 : (0 : Int) ≤ (j : Int) := by omega
      have j1 : (j : Int) < 5 := by omega
      have r0 : (0 : Int) ≤ (r : Int) := by omega
      have r1 : (r : Int) < 64 := by omega
      have v1 : IntKind.u64.wrap ((x : Int) * 2 ^ r) = (y : Int) := by
        have e : (x : Int) * 2 ^ r = (y : Int) := by rw [hy]; simp
        rw [e]; exact wrap64u y (by omega)
      have HL : Hid (s.size ≤ 17) := hs
      have sz := hnx.size
      have hal := hA.lt
      have HK : Hid (k < s.size) := hlt
      have kb : (k : Int) ≤ 17 := by omega
      clear hS hr hje hy hz hor ho hR hob hs
      go_wp2
      go_region
      all_goals
        go_wp2
        go_roundw
        case rel => exact ⟨k + 1, _, HK.out, by go_num, HS.out, (hA.set j _).drew, (hZ.other (by simp) _).drew, (hnx.setCell (by simp) _).drew⟩
        case measure => have := HK.out; simp [intOf]; omega
    · obtain rfl : k = s.size := by omega
      have hcr := carried_any L hR.length (fun a ha => by have := hR.small a ha; omega)
      rw [rd_end hR] at hcr
      have hl := hR.length
      have hd := dg_length 67108864 5 (N s)
      have sz := hnx.size
      have hzl := hZ.lt
      have hal := hA.lt
      obtain ⟨D, hD⟩ : ∃ D, dg 67108864 5 (N s) = D := ⟨_, rfl⟩
      rw [hD] at hcr hd
      have HD : Hid (dg 67108864 5 (N s) = D) := hD
      obtain ⟨c, hc⟩ : ∃ c, N s / 67108864 ^ 5 = c := ⟨_, rfl⟩
      rw [hc] at hcr
      have HL : Hid (s.size ≤ 17) := hs
      clear hD hc hR hs
      go_wp2_with (first | (refine wpList_load_arr rfl 97 (.tmp 3) rfl (w.heap.size + 1) rfl hA _ Tryd.underlying97 rfl (by rw [hl]; exact infoNR) ?_) | (go_at_call 76; (with_reducible refine (hcr _).mono ?_); rintro e w5 ⟨rfl, hb5⟩) | (refine wpList_store_arr rfl 97 (.tmp 3) (.tmp 30) rfl (w.heap.size + 1) D rfl rfl (hA.below hb5 hal) (by rw [hd, hl]) (by rw [hl]; exact infoNR) ?_; intro W5 hW5) | (refine wpList_load_arr rfl 97 (.tmp 3) rfl (w.heap.size + 1) rfl hW5.arr _ Tryd.underlying97 rfl (by rw [hd]; exact infoNR) ?_) | (refine wpList_store_arr rfl 97 (.tmp 2) (.tmp 32) rfl w.heap.size D rfl rfl (hW5.other _ _ _ (by omega) (hZ.below hb5 hzl)) (by rw [hd]; rfl) infoNR ?_; intro W6 hW6))
      exact bodyPost_ret (results_arr Tryd.results66 _ rfl hW6.arr _ Tryd.underlying97 rfl (by rw [hd]; exact infoNR)) rfl ⟨by rw [HD.out], hW6.below _ _ (by omega) (hW5.below _ _ (by omega) (hnx.trans (hb5.mono sz)))⟩

theorem or_8 (a b : Nat) (ha : a < 256) (hb : b < 256) : bits .or .u8 (a : Int) (b : Int) = ((a ||| b : Nat) : Int) := by
  have hx : a ||| b < 2 ^ 8 := Nat.or_lt_two_pow (by omega) (by omega)
  show IntKind.u8.wrap ((BitVec.ofInt 8 (a : Int) ||| BitVec.ofInt 8 (b : Int)).toNat : Int) = _
  rw [BitVec.toNat_or, BitVec.ofInt_natCast, BitVec.ofInt_natCast, BitVec.toNat_ofNat, BitVec.toNat_ofNat, Nat.mod_eq_of_lt (by omega : a < 2 ^ 8), Nat.mod_eq_of_lt (by omega : b < 2 ^ 8)]
  simp [IntKind.wrap, IntKind.bits, IntKind.signed]
  omega
def z16 : List Nat := [0, 0, 0, 0, 0, 0, 0, 0, 0, 0, 0, 0, 0, 0, 0, 0]
theorem by8_set (l : List Nat) (j n : Nat) : (by8 l).set j (.int .u8 (n : Int)) = by8 (l.set j n) := by simp [by8, List.map_set]

set_option maxRecDepth 100000 in
set_option maxHeartbeats 1600000 in
theorem text_any (l : List Nat) (hl : l.length = 5) (hs : ∀ a ∈ l, a ≤ 4611686018427387904) (w : World) :
    Calls Tryd.prog 70 #[.agg (wu l).toArray] w fun e w' => e = .returned (.string (T 16 (val 67108864 l))) ∧ Below w.heap.size w w' := by
  have hcr := carried_any l hl hs
  have hd := dg_length 67108864 5 (val 67108864 l)
  obtain ⟨v, hv⟩ : ∃ v, val 67108864 l = v := ⟨_, rfl⟩
  rw [hv] at hcr hd ⊢
  obtain ⟨c, hc⟩ : ∃ c, v / 67108864 ^ 5 = c := ⟨_, rfl⟩
  rw [hc] at hcr
  have hL0 : Arr (w.alloc (.cells (wu l).toArray 97)) w.heap.size 97 l := Arr.new w 97 l
  have hX0 : Below w.heap.size w (w.alloc (.cells (wu l).toArray 97)) := (Below.refl _ _).alloc (Nat.le_refl _) _
  have hs0 : (w.alloc (.cells (wu l).toArray 97)).heap.size = w.heap.size + 1 := by simp
  obtain ⟨D, hD⟩ : ∃ D, dg 67108864 5 v = D := ⟨_, rfl⟩
  rw [hD] at hcr hd
  have HD : Hid (dg 67108864 5 v = D) := hD
  clear hc hv hD hs
  go_enter Tryd.func70, Tryd.ntmps70
  go_wp2_with (first | (refine wpList_load_arr rfl 97 (.tmp 1) rfl w.heap.size rfl hL0 _ Tryd.underlying97 rfl (by rw [hl]; exact infoNR) ?_) | (go_at_call 76; (with_reducible refine (hcr _).mono ?_); rintro e w5 ⟨rfl, hb5⟩) | (refine wpList_store_arr rfl 97 (.tmp 1) (.tmp 8) rfl w.heap.size D rfl rfl (hL0.below hb5 (by omega)) (by rw [hd, hl]) (by rw [hl]; exact infoNR) ?_; intro W5 hW5))
  have hA1 := hW5.arr.alloc (.cells (by8 z16).toArray 101)
  have hs5 : W5.heap.size = w5.heap.size := hW5.size
  have hb5s := hb5.size
  rw [hs0] at hb5s
  have hG0 := Blk.new W5 101 (by8 z16) _ rfl
  have hX1 := (hW5.below _ _ (Nat.le_refl _) (hX0.trans (hb5.mono (by omega)))).alloc (show w.heap.size ≤ W5.heap.size by omega) (.cells (by8 z16).toArray 101)
  obtain ⟨g, hg⟩ : ∃ g, g = W5.heap.size := ⟨_, rfl⟩
  rw [← hg] at hG0
  have gw : w.heap.size < g := by omega
  have HG : Hid (W5.heap.size = g) := hg.symm
  clear hW5 hb5 hs5 hb5s hX0 hL0 hs0 hg hcr
  have hz : by8 z16 = by8 (dg 256 16 (v % 2 ^ 0)) := by
    rw [show v % 2 ^ 0 = 0 from Nat.mod_one v]
    rfl
  have hG1 : Blk (W5.alloc (.cells (by8 z16).toArray 101)) g 101 (by8 (dg 256 16 (v % 2 ^ 0))) := by rw [← hz]; exact hG0
  clear hz hG0
  go_loopw [10] (fun i wr => ∃ k : Nat, k ≤ 128 ∧ i = .int .i64 k ∧ Blk wr g 101 (by8 (dg 256 16 (v % 2 ^ k))) ∧ Arr wr w.heap.size 97 D ∧ Below w.heap.size w wr) (fun i _ => 128 - (intOf i).toNat)
  case atStart => exact ⟨0, by omega, rfl, hG1, hA1, hX1⟩
  case round =>
    clear hG1 hA1 hX1
    obtain ⟨k, hk, rfl, hG, hA, hnx⟩ := hrel
    rw [HG.out]
    by_cases hlt : k < 128
    · have hd8 := dg_length 256 16 (v % 2 ^ k)
      obtain ⟨ho, hst⟩ := bit_dg 8 16 v k (by decide) (by omega)
      have hbt := bit_at 26 5 v k (by decide) (by omega)
      rw [show dg (2 ^ 26) 5 v = D from HD.out] at hbt
      have hoc : (dg 256 16 (v % 2 ^ k)).getD (k / 8) 0 < 256 := by
        rw [dg_get _ _ _ _ (by omega)]; exact Nat.mod_lt _ (by decide)
      have ht2 : v / 2 ^ k % 2 < 2 := Nat.mod_lt _ (by decide)
      have hc1 := hG.cell (k / 8) _ (by8_get _ (k / 8) (by rw [hd8]; omega))
      have hf1 := hG.frozen (k / 8)
      have hc2 := hA.cell (k / 26) (by rw [hd]; omega)
      have hxb : D.getD (k / 26) 0 < 67108864 := by
        rw [← HD.out, dg_get _ _ _ _ (by omega)]; exact Nat.mod_lt _ (by decide)
      obtain ⟨t, ht⟩ : ∃ t, t = v / 2 ^ k % 2 := ⟨_, rfl⟩
      rw [← ht] at hst hbt ht2
      have hg8 : (by8 ((dg 256 16 (v % 2 ^ k)).set (k / 8) ((dg 256 16 (v % 2 ^ k)).getD (k / 8) 0 + t * 2 ^ (k % 8)))) = by8 (dg 256 16 (v % 2 ^ (k + 1))) := congrArg by8 hst.symm
      rw [← by8_set] at hg8
      have HS : Hid _ := hg8
      generalize (dg 256 16 (v % 2 ^ k)).getD (k / 8) 0 = old at *
      obtain ⟨Y, hY⟩ : ∃ Y, by8 (dg 256 16 (v % 2 ^ k)) = Y := ⟨_, rfl⟩
      rw [hY] at hG HS
      generalize D.getD (k / 26) 0 = x at *
      obtain ⟨j, hj⟩ : ∃ j, j = k / 8 := ⟨_, rfl⟩
      obtain ⟨q, hq⟩ : ∃ q, q = k % 8 := ⟨_, rfl⟩
      obtain ⟨i, hi⟩ : ∃ i, i = k / 26 := ⟨_, rfl⟩
      obtain ⟨r, hr⟩ : ∃ r, r = k % 26 := ⟨_, rfl⟩
      rw [← hj, ← hq] at HS
      rw [← hj] at hc1 hf1
      rw [← hi] at hc2
      rw [← hr] at hbt
      rw [← hq] at ho
      obtain ⟨d, hd2⟩ : ∃ d, d = x / 2 ^ r := ⟨_, rfl⟩
      rw [← hd2] at hbt
      have hdx : d < 67108864 := by rw [hd2]; exact Nat.lt_of_le_of_lt (Nat.div_le_self _ _) hxb
      obtain ⟨y, hy⟩ : ∃ y, y = t * 2 ^ q := ⟨_, rfl⟩
      have hq2 : 2 ^ q ≤ 2 ^ 7 := Nat.pow_le_pow_right (by decide) (by omega)
      have hyb : y ≤ 2 ^ 7 := by rw [hy]; rcases (by omega : t = 0 ∨ t = 1) with e | e <;> rw [e] <;> omega
      obtain ⟨z, hz⟩ : ∃ z, z = old + y := ⟨_, rfl⟩
      rw [← hy, ← hz] at HS
      have v0 : (x : Int) / 2 ^ r = (d : Int) := by rw [hd2]; simp
      have v1 : bits .and .u64 (d : Int) 1 = (t : Int) := by rw [← hbt]; exact mask64 d 1 (by omega) (by decide)
      have v2 : IntKind.u8.wrap ((t : Int) * 2 ^ q) = (y : Int) := by
        have e : (t : Int) * 2 ^ q = (y : Int) := by rw [hy]; simp
        rw [e, cv.wrap_8]; omega
      have v3 : bits .or .u8 (old : Int) (y : Int) = (z : Int) := by
        rw [or_8 old y hoc (by omega), hy, or_add old t q ho, ← hy, hz]
      have v4 : IntKind.u8.wrap (t : Int) = (t : Int) := by rw [cv.wrap_8]; omega
      have q1 : (k : Int).tdiv 8 = (j : Int) := by rw [Int.tdiv_eq_ediv_of_nonneg (by omega)]; omega
      have q2 : (k : Int).tmod 8 = (q : Int) := by rw [Int.tmod_eq_emod_of_nonneg (by omega)]; omega
      have q3 : (k : Int).tdiv 26 = (i : Int) := by rw [Int.tdiv_eq_ediv_of_nonneg (by omega)]; omega
      have q4 : (k : Int).tmod 26 = (r : Int) := by rw [Int.tmod_eq_emod_of_nonneg (by omega)]; omega
      have k0 : (0 : Int) ≤ (k : Int) := by omega
      have kz : (k : Int) < 128 := by omega
      have j0 : (0 : Int) ≤ (j : Int) := by omega
      have j1 : (j : Int) < 16 := by omega
      have i0 : (0 : Int) ≤ (i : Int) := by omega
      have i1 : (i : Int) < 5 := by omega
      have r0 : (0 : Int) ≤ (r : Int) := by omega
      have r1 : (r : Int) ≤ 64 := by omega
      have p0 : (0 : Int) ≤ (q : Int) := by omega
      have p1 : (q : Int) ≤ 8 := by omega
      have n1 : w.heap.size ≠ g := by omega
      have HL : Hid (l.length = 5 ∧ D.length = 5 ∧ k < 128) := ⟨hl, hd, hlt⟩
      clear hd8 ho hst hbt hoc ht2 hxb ht hg8 hY hj hq hi hr hd2 hdx hy hq2 hyb hz hl hd
      go_wp2
      go_region
      all_goals
        go_wp2
        go_roundw
        case rel => exact ⟨k + 1, HL.out.2.2, by go_num, by rw [← HS.out]; exact (show Blk _ _ _ _ from hG.set j _), (hA.other (by simp; omega) _).drew, (hnx.setCell (by simp; omega) _).drew⟩
        case measure => have := HL.out.2.2; simp [intOf]; omega
    · obtain rfl : k = 128 := by omega
      have e16 : T 16 v = tx (dg 256 16 (v % 2 ^ 128)) := (T_mod 16 v 16 (Nat.le_refl _)).symm
      have hcv := cv.conv_blk hG (dg_length 256 16 _) (T_ok 16 _) 16
      rw [← e16] at hcv
      have HT : Hid (∃ X, X = T 16 v) := ⟨_, rfl⟩
      obtain ⟨X, hX⟩ := HT
      rw [← hX] at hcv
      generalize by8 (dg 256 16 (v % 2 ^ 128)) = Y at *
      have HX : Hid (X = T 16 v) := hX
      clear e16 hX
      go_wp2
      go_ret
      exact ⟨by rw [HX.out]; rfl, hnx⟩
end Go.Proofs.YtmbckgfpkmnlnabDoor.pol
