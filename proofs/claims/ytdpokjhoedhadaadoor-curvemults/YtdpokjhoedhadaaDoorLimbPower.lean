/-
  THE WALK OF package elem's numbers: power.
-/
import Derived.Test.YtdpokjhoedhadaaDoorLimbTimes
namespace Go.Proofs.YtdpokjhoedhadaaDoor.limb
open Go.RowKit
open Go.Proofs.YtdpokjhoedhadaaDoor.num (P N nB nB_bd mem_getD emod_mul)

theorem dg_get (n : Nat) (v : Int) (k : Nat) (hk : k < n) : (dg n v).getD k 0 = v / 4294967296 ^ k % 4294967296 := by
  induction n generalizing v k with
  | zero => omega
  | succ n ih =>
    cases k with
    | zero => simp [dg]
    | succ k =>
      simp only [dg, List.getD_cons_succ]
      rw [ih _ _ (by omega), Int.pow_succ, Int.mul_comm (4294967296 ^ k), Int.ediv_ediv_of_nonneg (by decide)]
/-- The bit t of e. -/
theorem limb_bit (e a i : Nat) (ha : a < 8) (hi : i < 32) : (dg 8 (e : Int)).getD a 0 / 2 ^ i % 2 = ((e / 2 ^ (32 * a + i) % 2 : Nat) : Int) := by
  rw [dg_get 8 e a ha]
  have e1 : (e : Int) / 4294967296 ^ a % 4294967296 = ((e / 2 ^ (32 * a) % 2 ^ 32 : Nat) : Int) := by
    rw [Nat.pow_mul]
    simp
  rw [e1]
  have e2 : (e / 2 ^ (32 * a) % 2 ^ 32) / 2 ^ i % 2 = e / 2 ^ (32 * a + i) % 2 := by
    have h := Nat.testBit_mod_two_pow (e / 2 ^ (32 * a)) 32 i
    rw [Nat.testBit_eq_decide_div_mod_eq, Nat.testBit_eq_decide_div_mod_eq, Nat.div_div_eq_div_mul, ← Nat.pow_add] at h
    simp only [hi, decide_true, Bool.true_and, decide_eq_decide] at h
    have h1 := Nat.mod_lt (e / 2 ^ (32 * a) % 2 ^ 32 / 2 ^ i) (show 2 > 0 by decide)
    have h2 := Nat.mod_lt (e / 2 ^ (32 * a + i)) (show 2 > 0 by decide)
    omega
  rw [← e2]
  simp
/-- The power that the lowest t bits say. -/
def pw (u : Int) (e t : Nat) : Int := u ^ (e % 2 ^ t) % P
theorem pw_bd (u : Int) (e t : Nat) : 0 ≤ pw u e t ∧ pw u e t < 115792089237316195423570985008687907853269984665640564039457584007913129639936 := by
  have hP : P = 57896044618658097711785492504343953926634992332820282019728792003956564819949 := rfl
  have h0 : 0 ≤ pw u e t := Int.emod_nonneg _ (by rw [hP]; decide)
  have h1 : pw u e t < P := Int.emod_lt_of_pos _ (by rw [hP]; decide)
  omega
theorem pw_zero (u : Int) (e : Nat) : pw u e 0 = 1 := by
  unfold pw
  rw [Nat.pow_zero, Nat.mod_one, Int.pow_zero]
  decide
theorem pw_step (u y : Int) (e t : Nat) (hy : y % P = u ^ (2 ^ t) % P) : pw u e (t + 1) = if e / 2 ^ t % 2 = 1 then (pw u e t * y) % P else pw u e t := by
  have hm : e % 2 ^ (t + 1) = e % 2 ^ t + 2 ^ t * (e / 2 ^ t % 2) := by rw [Nat.pow_succ, Nat.mod_mul]
  unfold pw
  rw [hm]
  split
  · rename_i h
    rw [h, Nat.mul_one, Int.pow_add]
    exact (emod_mul _ _ _ _ _ (by rw [Int.emod_emod_of_dvd _ (Int.dvd_refl _)]) hy).symm
  · rename_i h
    rw [show e / 2 ^ t % 2 = 0 from by omega, Nat.mul_zero, Nat.add_zero]
theorem sq_step (u y : Int) (t : Nat) (hy : y % P = u ^ (2 ^ t) % P) : (y * y) % P % P = u ^ (2 ^ (t + 1)) % P := by
  rw [Int.emod_emod_of_dvd _ (Int.dvd_refl _), emod_mul y _ y _ P hy hy, ← Int.pow_add, Nat.pow_succ, Nat.mul_two]
theorem pw_end (u : Int) (e : Nat) (h : e < 2 ^ 256) : pw u e 256 = u ^ e % P := by
  unfold pw
  rw [Nat.mod_eq_of_lt h]
theorem mod_bd (x : Int) : 0 ≤ x % P ∧ x % P < 115792089237316195423570985008687907853269984665640564039457584007913129639936 := by
  have hP : P = 57896044618658097711785492504343953926634992332820282019728792003956564819949 := rfl
  have h0 : 0 ≤ x % P := Int.emod_nonneg _ (by rw [hP]; decide)
  have h1 : x % P < P := Int.emod_lt_of_pos _ (by rw [hP]; decide)
  omega
def oneL : List Int := [1, 0, 0, 0, 0, 0, 0, 0]
theorem oneL_eq : oneL = dg 8 1 := by decide
theorem mask1 (x : Int) (h0 : 0 ≤ x) (h1 : x < 4294967296) : bits .and .u32 x 1 = x % 2 := bits_mask .u32 32 (by decide) wraps_u32 1 (by decide) x h0 h1

set_option maxRecDepth 100000 in
set_option maxHeartbeats 1600000 in
theorem power_any (u : Int) (u0 : 0 ≤ u) (u1 : u < 115792089237316195423570985008687907853269984665640564039457584007913129639936) (e : Nat) (he : e < 2 ^ 256) (w : World) :
    Calls Tryd.prog 64 #[.agg (ints (dg 8 u)), .agg (ints (dg 8 (e : Int)))] w fun x w' => x = .returned (.agg (ints (dg 8 (u ^ e % P)))) ∧ Below w.heap.size w w' := by
  have hml := dg_length 8 (e : Int)
  have hul := dg_length 8 u
  have hbit := limb_bit e
  have hmk := ok_get (dg_ok 8 (e : Int))
  obtain ⟨m, hm⟩ : ∃ m, dg 8 (e : Int) = m := ⟨_, rfl⟩
  rw [hm] at hml hbit hmk
  rw [hm]
  obtain ⟨D, hD⟩ : ∃ D, dg 8 u = D := ⟨_, rfl⟩
  rw [hD] at hul
  rw [hD]
  have HD : Hid (dg 8 u = D) := hD
  clear hm hD
  have hN : Arr (((w.alloc (.cells (ints D) 59)).alloc (.cells (ints m) 59)).alloc (.cells (ints zeros) 59)) w.heap.size 59 D := ((Arr.new w 59 D).alloc _).alloc _
  have hM : Arr (((w.alloc (.cells (ints D) 59)).alloc (.cells (ints m) 59)).alloc (.cells (ints zeros) 59)) (w.heap.size + 1) 59 m := by
    have h := Arr.new (w.alloc (.cells (ints D) 59)) 59 m
    rw [World.size_alloc] at h
    exact h.alloc _
  have hZ : Arr (((w.alloc (.cells (ints D) 59)).alloc (.cells (ints m) 59)).alloc (.cells (ints zeros) 59)) (w.heap.size + 1 + 1) 59 zeros := by
    have h := Arr.new ((w.alloc (.cells (ints D) 59)).alloc (.cells (ints m) 59)) 59 zeros
    rw [World.size_alloc, World.size_alloc] at h
    exact h
  have hX : Below w.heap.size w (((w.alloc (.cells (ints D) 59)).alloc (.cells (ints m) 59)).alloc (.cells (ints zeros) 59)) := (((Below.refl _ _).alloc (Nat.le_refl _) _).alloc (by simp) _).alloc (by simp; omega) _
  have hXs : (((w.alloc (.cells (ints D) 59)).alloc (.cells (ints m) 59)).alloc (.cells (ints zeros) 59)).heap.size = w.heap.size + 1 + 1 + 1 := by simp
  have hO := Arr.new (((w.alloc (.cells (ints D) 59)).alloc (.cells (ints m) 59)).alloc (.cells (ints zeros) 59)) 59 zeros
  rw [hXs] at hO
  go_enter Tryd.func64, Tryd.ntmps64
  go_wp2_with (first | (refine wpList_store_arr rfl 59 (.tmp 5) (.tmp 9) rfl (w.heap.size + 1 + 1 + 1) oneL rfl rfl zeros hO rfl infoNR ?_; intro W4 hW4) | (refine wpList_load_arr rfl 59 (.tmp 3) rfl (w.heap.size + 1) rfl m _ (hW4.other _ _ _ (by omega) (hM.alloc _)) Tryd.underlying59 rfl (by rw [hml]; exact infoNR) ?_))
  go_loopw [11] (fun i wr => ∃ (a : Nat) (Y : Int), a ≤ 8 ∧ i = .int .i64 a ∧ 0 ≤ Y ∧ Y < 115792089237316195423570985008687907853269984665640564039457584007913129639936 ∧ Y % P = u ^ (2 ^ (32 * a)) % P ∧ Arr wr w.heap.size 59 (dg 8 Y) ∧ Arr wr (w.heap.size + 1 + 1) 59 zeros ∧ Arr wr (w.heap.size + 1 + 1 + 1) 59 (dg 8 (pw u e (32 * a))) ∧ Below w.heap.size w wr) (fun i _ => 8 - (intOf i).toNat)
  case atStart =>
    refine ⟨0, u, by omega, rfl, u0, u1, by rw [Nat.mul_zero, Nat.pow_zero, Int.pow_succ, Int.pow_zero, Int.one_mul], ?_, hW4.other _ _ _ (by omega) (hZ.alloc _), ?_, hW4.below _ _ (by omega) (hX.alloc (by rw [hXs]; omega) _)⟩
    · rw [HD.out]; exact hW4.other _ _ _ (by omega) (hN.alloc _)
    · rw [Nat.mul_zero, pw_zero, ← oneL_eq]; exact hW4.arr
  case round =>
    clear hN hM hZ hX hXs hO hW4
    obtain ⟨a, Y, ha8, rfl, hY0, hY1, hY2, hN, hZ, hO, hnx⟩ := hrel
    by_cases hlt : a < 8
    · have hd : decide ((a : Int) < 8) = true := by simp; omega
      have hix := idx m hml a hlt
      have bx := hmk a
      obtain ⟨bx0, bx1⟩ := bx
      have hbt := fun i hi => hbit a i hlt hi
      clear hbit hmk
      obtain ⟨x, hx⟩ : ∃ x, m.getD a 0 = x := ⟨_, rfl⟩
      rw [hx] at hix bx0 bx1 hbt
      clear hx
      go_wp2
      go_loopw [14] (fun v wq => ∃ (i : Nat) (Y : Int), i ≤ 32 ∧ v = .int .i64 i ∧ 0 ≤ Y ∧ Y < 115792089237316195423570985008687907853269984665640564039457584007913129639936 ∧ Y % P = u ^ (2 ^ (32 * a + i)) % P ∧ Arr wq w.heap.size 59 (dg 8 Y) ∧ Arr wq (w.heap.size + 1 + 1) 59 zeros ∧ Arr wq (w.heap.size + 1 + 1 + 1) 59 (dg 8 (pw u e (32 * a + i))) ∧ Below w.heap.size w wq) (fun v _ => 32 - (intOf v).toNat)
      case atStart => exact ⟨0, Y, by omega, rfl, hY0, hY1, hY2, hN, hZ, hO, hnx⟩
      case round =>
        clear hN hZ hO hnx hY0 hY1 hY2 Y
        obtain ⟨i, Y, hi32, rfl, hY0, hY1, hY2, hN, hZ, hO, hnx⟩ := hrel
        by_cases hk2 : i < 32
        · have hb := hbt i hk2
          clear hbt
          have hp := pw_step u Y e (32 * a + i) hY2
          have hq := sq_step u Y (32 * a + i) hY2
          have hpb := pw_bd u e (32 * a + i)
          have ht := times_any (pw u e (32 * a + i)) Y hpb.1 hpb.2 hY0 hY1
          have hs := times_any Y Y hY0 hY1 hY0 hY1
          have hx2 : 0 ≤ x / 2 ^ i ∧ x / 2 ^ i < 4294967296 := ⟨Int.ediv_nonneg bx0 (Int.le_of_lt (Int.pow_pos (by decide))), Int.lt_of_le_of_lt (Int.ediv_le_self _ bx0) bx1⟩
          have hmk1 := mask1 _ hx2.1 hx2.2
          rw [hb] at hmk1
          have hYb := mod_bd (Y * Y)
          have hnl := dg_length 8 Y
          have hol := dg_length 8 (pw u e (32 * a + i))
          have hnl2 := dg_length 8 (Y * Y % P)
          have hol2 := dg_length 8 (pw u e (32 * a + i) * Y % P)
          have HQ : Hid (0 ≤ Y * Y % P ∧ Y * Y % P < 115792089237316195423570985008687907853269984665640564039457584007913129639936 ∧ Y * Y % P % P = u ^ (2 ^ (32 * a + i + 1)) % P) := ⟨hYb.1, hYb.2, hq⟩
          have HP : Hid _ := hp
          clear hq hpb hYb hY0 hY1 hY2 hb hx2 hp
          obtain ⟨n1, hn1⟩ : ∃ n1, dg 8 Y = n1 := ⟨_, rfl⟩
          rw [hn1] at ht hs hnl hN
          obtain ⟨o1, ho1⟩ : ∃ o1, dg 8 (pw u e (32 * a + i)) = o1 := ⟨_, rfl⟩
          rw [ho1] at ht hol hO
          obtain ⟨n2, hn2⟩ : ∃ n2, dg 8 (Y * Y % P) = n2 := ⟨_, rfl⟩
          rw [hn2] at hs hnl2
          obtain ⟨o2, ho2⟩ : ∃ o2, dg 8 (pw u e (32 * a + i) * Y % P) = o2 := ⟨_, rfl⟩
          rw [ho2] at ht hol2
          have HE : Hid (dg 8 (pw u e (32 * a + i)) = o1 ∧ dg 8 (Y * Y % P) = n2 ∧ dg 8 (pw u e (32 * a + i) * Y % P) = o2) := ⟨ho1, hn2, ho2⟩
          clear hn1 ho1 hn2 ho2
          have sz := hnx.size
          have hzl := hZ.lt
          have hol3 := hO.lt
          have hnl3 := hN.lt
          by_cases hbit1 : e / 2 ^ (32 * a + i) % 2 = 1
          · rw [hbit1] at hmk1
            have HP2 : Hid (pw u e (32 * a + i + 1) = pw u e (32 * a + i) * Y % P) := HP.out.trans (if_pos hbit1)
            clear HP hbit1
            have hmk2 : bits .and .u32 (x / 2 ^ i) 1 = 1 := hmk1
            clear hmk1
            go_wp2_with (first | (refine wpList_load_arr rfl 59 (.tmp 5) rfl (w.heap.size + 1 + 1 + 1) rfl o1 _ hO Tryd.underlying59 rfl (by rw [hol]; exact infoNR) ?_) | (refine wpList_load_arr rfl 59 (.tmp 2) rfl w.heap.size rfl n1 _ hN Tryd.underlying59 rfl (by rw [hnl]; exact infoNR) ?_))
            refine (ht _).mono ?_
            rintro _ w5 ⟨rfl, hb5⟩
            go_wp2_with (first | (refine wpList_store_arr rfl 59 (.tmp 5) (.tmp 24) rfl (w.heap.size + 1 + 1 + 1) o2 rfl rfl o1 (hO.below hb5 hol3) (by rw [hol2, hol]) (by rw [hol]; exact infoNR) ?_; intro W5 hW5; have hN5 := hW5.other _ _ _ (by omega) (hN.below hb5 hnl3)) | (refine wpList_load_arr rfl 59 (.tmp 2) rfl w.heap.size rfl n1 _ hN5 Tryd.underlying59 rfl (by rw [hnl]; exact infoNR) ?_))
            have hZ5 := hW5.other _ _ _ (by omega) (hZ.below hb5 hzl)
            have hX5 := hW5.below _ _ (by omega) (hnx.trans (hb5.mono sz))
            have sz5 := hX5.size
            have l1 := hN5.lt
            have l2 := hZ5.lt
            have l3 := hW5.arr.lt
            refine (hs _).mono ?_
            rintro _ w6 ⟨rfl, hb6⟩
            go_wp2_with (refine wpList_store_arr rfl 59 (.tmp 2) (.tmp 27) rfl w.heap.size n2 rfl rfl n1 (hN5.below hb6 l1) (by rw [hnl2, hnl]) (by rw [hnl]; exact infoNR) ?_; intro W6 hW6)
            go_roundw
            case rel => exact ⟨i + 1, Y * Y % P, by omega, by go_num, HQ.out.1, HQ.out.2.1, HQ.out.2.2, by rw [HE.out.2.1]; exact hW6.arr, hW6.other _ _ _ (by omega) (hZ5.below hb6 l2), by rw [← Nat.add_assoc, HP2.out, HE.out.2.2]; exact hW6.other _ _ _ (by omega) (hW5.arr.below hb6 l3), hW6.below _ _ (by omega) (hX5.trans (hb6.mono sz5))⟩
            case measure => simp [intOf]; omega
          · have hb0 : e / 2 ^ (32 * a + i) % 2 = 0 := by omega
            rw [hb0] at hmk1
            have HP2 : Hid (pw u e (32 * a + i + 1) = pw u e (32 * a + i)) := HP.out.trans (if_neg hbit1)
            clear HP hbit1 hb0
            have hmk2 : bits .and .u32 (x / 2 ^ i) 1 = 0 := hmk1
            clear hmk1
            go_wp2_with (refine wpList_load_arr rfl 59 (.tmp 2) rfl w.heap.size rfl n1 _ hN Tryd.underlying59 rfl (by rw [hnl]; exact infoNR) ?_)
            refine (hs _).mono ?_
            rintro _ w6 ⟨rfl, hb6⟩
            go_wp2_with (refine wpList_store_arr rfl 59 (.tmp 2) (.tmp 27) rfl w.heap.size n2 rfl rfl n1 (hN.below hb6 hnl3) (by rw [hnl2, hnl]) (by rw [hnl]; exact infoNR) ?_; intro W6 hW6)
            go_roundw
            case rel => exact ⟨i + 1, Y * Y % P, by omega, by go_num, HQ.out.1, HQ.out.2.1, HQ.out.2.2, by rw [HE.out.2.1]; exact hW6.arr, hW6.other _ _ _ (by omega) (hZ.below hb6 hzl), by rw [← Nat.add_assoc, HP2.out, HE.out.1]; exact hW6.other _ _ _ (by omega) (hO.below hb6 hol3), hW6.below _ _ (by omega) (hnx.trans (hb6.mono sz))⟩
            case measure => simp [intOf]; omega
        · obtain rfl : i = 32 := by omega
          go_wp2
          go_roundw
          case rel => exact ⟨a + 1, Y, by omega, by go_num, hY0, hY1, hY2, hN, hZ, hO, hnx⟩
          case measure => simp [intOf]; omega
    · obtain rfl : a = 8 := by omega
      have hpe := pw_end u e he
      rw [show 32 * 8 = 256 from rfl, hpe] at hO
      have hol := dg_length 8 (u ^ e % P)
      obtain ⟨R, hR⟩ : ∃ R, dg 8 (u ^ e % P) = R := ⟨_, rfl⟩
      rw [hR] at hO hol
      have HR : Hid (dg 8 (u ^ e % P) = R) := hR
      clear hR hpe hY2
      go_wp2_with (first | (refine wpList_load_arr rfl 59 (.tmp 5) rfl (w.heap.size + 1 + 1 + 1) rfl R _ hO Tryd.underlying59 rfl (by rw [hol]; exact infoNR) ?_) | (refine wpList_store_arr rfl 59 (.tmp 4) (.tmp 30) rfl (w.heap.size + 1 + 1) R rfl rfl zeros hZ (by rw [hol]; rfl) infoNR ?_; intro W5 hW5))
      exact bodyPost_ret (results_arr Tryd.results64 _ rfl hW5.arr _ Tryd.underlying59 rfl (by rw [hol]; exact infoNR)) rfl ⟨by rw [HR.out], hW5.below _ _ (by omega) hnx⟩
end Go.Proofs.YtdpokjhoedhadaaDoor.limb
