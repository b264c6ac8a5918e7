/-
  THE WALK OF package ghash's times.
-/
import Derived.Test.YtibdlccaenanmaaGhashBlock
namespace Go.Proofs.Ytibdlccaenanmaa.ghs
open Go.RowKit

/-- The numbers of a block. -/
def half (a p : Nat) : Nat := if p = 0 then fr a else bk a
theorem half_lt {a : Nat} (h : a < 2 ^ 128) (p : Nat) : half a p < 2 ^ 64 := by
  unfold half; split
  · exact fr_lt h
  · exact bk_lt a
def nn (h q : Nat) : Nat := h * 2 ^ q % 18446744073709551616
theorem nn_succ (h q : Nat) : nn h (q + 1) = nn h q * 2 % 18446744073709551616 := by
  unfold nn
  rw [Nat.pow_succ, ← Nat.mul_assoc]
  generalize h * 2 ^ q = x
  omega
theorem nn_bit (a p q : Nat) (hp : p < 2) (hq : q < 64) : nn (half a p) q / 9223372036854775808 = a / 2 ^ (127 - (64 * p + q)) % 2 := by
  have e1 : ∀ h, nn h q / 9223372036854775808 = h / 2 ^ (63 - q) % 2 := fun h => by
    unfold nn
    rw [show 18446744073709551616 = 9223372036854775808 * 2 from rfl, Nat.mod_mul_right_div_self]
    have e : 9223372036854775808 = 2 ^ (63 - q) * 2 ^ q := by rw [← Nat.pow_add, show 63 - q + q = 63 from by omega]
    rw [e, Nat.mul_div_mul_right _ _ (Nat.two_pow_pos q)]
  rw [e1]
  rcases (by omega : p = 0 ∨ p = 1) with rfl | rfl
  · show a / 2 ^ 64 / 2 ^ (63 - q) % 2 = _
    rw [Nat.div_div_eq_div_mul, ← Nat.pow_add, show 64 + (63 - q) = 127 - (64 * 0 + q) from by omega]
  · show a % 2 ^ 64 / 2 ^ (63 - q) % 2 = _
    rw [show 127 - (64 * 1 + q) = 63 - q from by omega]
    have e : 2 ^ 64 = 2 ^ (63 - q) * 2 ^ (q + 1) := by rw [← Nat.pow_add, show 63 - q + (q + 1) = 64 from by omega]
    rw [e, Nat.mod_mul_right_div_self]
    exact Nat.mod_mod_of_dvd _ ⟨2 ^ q, by rw [Nat.pow_succ, Nat.mul_comm]⟩
theorem infoU : (Try.prog.info? 60).map (fun i => (i.zero, i.size, i.bytes)) = some (some (.int .u64 0), 1, 8) := by kernel_rfl
theorem idx2 (a p : Nat) (hp : p < 2) (w : World) : (Instr.index 113 (.agg #[.int .u64 (fr a), .int .u64 (bk a)]) (.int .i64 (p : Int))).run Try.prog w = .ok (.int .u64 (half a p)) w := by
  obtain ⟨j0, hj, _, hj1, _⟩ := info_parts infoU
  rcases (by omega : p = 0 ∨ p = 1) with rfl | rfl
  · simp [Instr.index, asIntOf, run_underlying Try.underlying113, part, isAgg, run_underlying Try.underlying60, sizeOf, typeInfo, hj, hj1, half]
  · simp [Instr.index, asIntOf, run_underlying Try.underlying113, part, isAgg, run_underlying Try.underlying60, sizeOf, typeInfo, hj, hj1, half]

theorem blc_one (a : Nat) : (blc a).toArray.all (·.oneCell') = true := two_one _ _
set_option maxRecDepth 100000 in
set_option maxHeartbeats 1600000 in
theorem times_any (a b : Nat) (ha : a < 2 ^ 128) (hb : b < 2 ^ 128) (w : World) :
    Calls Try.prog 74 #[.agg (blc a).toArray, .agg (blc b).toArray] w fun e w' => e = .returned (.agg (blc (gm a b)).toArray) ∧ Below w.heap.size w w' := by
  have hA : Blk ((((w.alloc (.cells (blc a).toArray 77)).alloc (.cells (blc b).toArray 77)).alloc (.cells #[.int .u64 0, .int .u64 0] 77)).alloc (.cells #[.int .u64 0, .int .u64 0] 77)) w.heap.size 77 (blc a) := (((Blk.new w 77 (blc a) _ rfl).alloc _).alloc _).alloc _
  have hB : Blk ((((w.alloc (.cells (blc a).toArray 77)).alloc (.cells (blc b).toArray 77)).alloc (.cells #[.int .u64 0, .int .u64 0] 77)).alloc (.cells #[.int .u64 0, .int .u64 0] 77)) (w.heap.size + 1) 77 (blc b) := by
    have h := Blk.new (w.alloc (.cells (blc a).toArray 77)) 77 (blc b) _ rfl
    rw [World.size_alloc] at h
    exact (h.alloc _).alloc _
  have hZ : Blk ((((w.alloc (.cells (blc a).toArray 77)).alloc (.cells (blc b).toArray 77)).alloc (.cells #[.int .u64 0, .int .u64 0] 77)).alloc (.cells #[.int .u64 0, .int .u64 0] 77)) (w.heap.size + 1 + 1) 77 zc := by
    have h := Blk.new ((w.alloc (.cells (blc a).toArray 77)).alloc (.cells (blc b).toArray 77)) 77 zc _ rfl
    rw [World.size_alloc, World.size_alloc] at h
    exact h.alloc _
  have hP : Blk ((((w.alloc (.cells (blc a).toArray 77)).alloc (.cells (blc b).toArray 77)).alloc (.cells #[.int .u64 0, .int .u64 0] 77)).alloc (.cells #[.int .u64 0, .int .u64 0] 77)) (w.heap.size + 1 + 1 + 1) 77 (blc 0) := by
    have h := Blk.new (((w.alloc (.cells (blc a).toArray 77)).alloc (.cells (blc b).toArray 77)).alloc (.cells #[.int .u64 0, .int .u64 0] 77)) 77 (blc 0) #[.int .u64 0, .int .u64 0] rfl
    rw [World.size_alloc, World.size_alloc, World.size_alloc] at h
    exact h
  have hX : Below w.heap.size w ((((w.alloc (.cells (blc a).toArray 77)).alloc (.cells (blc b).toArray 77)).alloc (.cells #[.int .u64 0, .int .u64 0] 77)).alloc (.cells #[.int .u64 0, .int .u64 0] 77)) := ((((Below.refl _ _).alloc (Nat.le_refl _) _).alloc (by simp) _).alloc (by simp; omega) _).alloc (by simp; omega) _
  have hc0 := hA.cell 0 _ rfl
  have hc1 := hA.cell 1 _ rfl
  go_enter Try.func74, Try.ntmps74
  go_wp2_with fail
  clear hc0 hc1
  go_loopw [13] (fun i wr => ∃ p : Nat, p ≤ 2 ∧ i = .int .i64 p ∧ Blk wr (w.heap.size + 1 + 1 + 1) 77 (blc (acc a b (64 * p))) ∧ Blk wr (w.heap.size + 1) 77 (blc (xts b (64 * p))) ∧ Blk wr (w.heap.size + 1 + 1) 77 zc ∧ Below w.heap.size w wr) (fun i _ => 2 - (intOf i).toNat)
  case atStart => exact ⟨0, by omega, rfl, hP, hB, hZ, hX⟩
  case round =>
    clear hA hB hZ hP hX
    obtain ⟨p, hp, rfl, hP, hB, hZ, hnx⟩ := hrel
    by_cases hlt : p < 2
    · have d0 : decide ((p : Int) < 2) = true := by simp; omega
      have hix := idx2 a p hlt
      have hh := half_lt ha p
      have HN : Hid (∀ q, q < 64 → nn (half a p) q / 9223372036854775808 = a / 2 ^ (127 - (64 * p + q)) % 2) := fun q hq => nn_bit a p q hlt hq
      have n0 : Hid (half a p = nn (half a p) 0) := by show half a p = nn (half a p) 0; unfold nn; omega
      generalize half a p = h at *
      generalize fr a = a1 at *
      generalize bk a = a2 at *
      go_wp2_with fail
      go_loopw [7, 16] (fun n i wq => ∃ q : Nat, q ≤ 64 ∧ i = .int .i64 q ∧ n = .int .u64 (nn h q) ∧ Blk wq (w.heap.size + 1 + 1 + 1) 77 (blc (acc a b (64 * p + q))) ∧ Blk wq (w.heap.size + 1) 77 (blc (xts b (64 * p + q))) ∧ Blk wq (w.heap.size + 1 + 1) 77 zc ∧ Below w.heap.size w wq) (fun _ i _ => 64 - (intOf i).toNat)
      case atStart => exact ⟨0, by omega, rfl, by rw [← n0.out], hP, hB, hZ, hnx⟩
      case round =>
        clear hP hB hZ hnx n0
        obtain ⟨q, hq, rfl, rfl, hP, hB, hZ, hnx⟩ := hrel
        by_cases hq64 : q < 64
        · have d1 : decide ((q : Int) < 64) = true := by simp; omega
          have hu := HN.out q hq64
          have hs := nn_succ h q
          obtain ⟨K, hK⟩ : ∃ K, K = 64 * p + q := ⟨_, rfl⟩
          have HK : Hid (64 * p + (q + 1) = K + 1) := by show 64 * p + (q + 1) = K + 1; omega
          rw [← hK] at hP hB hu
          have lP := acc_lt a hb K
          have lB := xts_lt hb K
          have HP : Hid (acc a b (K + 1) = acc a b K ^^^ xts b K * (a / 2 ^ (127 - K) % 2)) := rfl
          have HB : Hid (xts b (K + 1) = xt (xts b K)) := rfl
          obtain ⟨u, hue⟩ : ∃ u, u = a / 2 ^ (127 - K) % 2 := ⟨_, rfl⟩
          have lu : u < 2 := by rw [hue]; exact Nat.mod_lt _ (by decide)
          rw [← hue] at HP hu
          obtain ⟨n', hn'⟩ : ∃ n', n' = nn h (q + 1) := ⟨_, rfl⟩
          rw [← hn'] at hs
          have ln : nn h q < 18446744073709551616 := Nat.mod_lt _ (by decide)
          generalize acc a b K = P at *
          generalize xts b K = B at *
          generalize nn h q = n at *
          have g1 := only_any B u lB lu
          have lO := bit_mul_lt lB lu
          generalize B * u = O at *
          have g2 := plus_any P O lP lO
          generalize P ^^^ O = P' at *
          have g3 := timesX_any B lB
          generalize xt B = B' at *
          have e1 : (n : Int) / 9223372036854775808 = (u : Int) := by omega
          have e2 : IntKind.u64.wrap ((n : Int) * 2) = (n' : Int) := by rw [wrap_u]; omega
          clear hK hue hs ln hu lP lB lO
          have HN' : Hid (n' = nn h (q + 1)) := hn'
          clear hn'
          have hne := Up.some wr
          have l1 := hP.lt
          have l2 := hB.lt
          have l3 := hZ.lt
          have q1 : ∀ y : Up wr, y.1.rangeAt (w.heap.size + 1 + 1 + 1) 0 (blc P) := fun y => (hP.below y.2 l1).range 0 _ (by simp)
          have q2 : ∀ y : Up wr, y.1.rangeAt (w.heap.size + 1) 0 (blc B) := fun y => (hB.below y.2 l2).range 0 _ (by simp)
          have F1 : Hid (∀ y : Up wr, Calls Try.prog 86 #[.agg (blc B).toArray, .int .u64 u] y.1 fun e w' => e = .returned (.agg (blc O).toArray) ∧ Below y.1.heap.size y.1 w') := fun y => g1 y.1
          have F2 : Hid (∀ y : Up wr, Calls Try.prog 73 #[.agg (blc P).toArray, .agg (blc O).toArray] y.1 fun e w' => e = .returned (.agg (blc P').toArray) ∧ Below y.1.heap.size y.1 w') := fun y => g2 y.1
          clear g1 g2
          go_wp2_with fail
          refine wp_region_tail 6 (by kernel_rfl) (by kernel_rfl) ?_
          simp only [List.take_succ_cons, List.take_zero, List.drop_succ_cons, List.drop_zero]
          repeat (first
            | (refine wpQuiet_load rfl 77 (.tmp 5) rfl (w.heap.size + 1 + 1 + 1) 0 rfl (blc P) _ q1 Try.underlying77 rfl infoBL ?_; simp only [Act.put, List.setIfInBounds_toArray, List.set_cons_succ, List.set_cons_zero])
            | (refine wpQuiet_load rfl 77 (.tmp 3) rfl (w.heap.size + 1) 0 rfl (blc B) _ q2 Try.underlying77 rfl infoBL ?_; simp only [Act.put, List.setIfInBounds_toArray, List.set_cons_succ, List.set_cons_zero])
            | (go_big_quiet_step (with_reducible (first | exact calls_up (F1.out _) | exact calls_up (F2.out _)))))
          refine wpQuiet_nil ?_
          rintro w1 ⟨y1, rfl⟩
          have hP1 := hP.below y1.2 l1
          have hB1 := hB.below y1.2 l2
          have hZ1 := hZ.below y1.2 l3
          have hX1 := hnx.trans (y1.2.mono hnx.size)
          clear q1 q2 F1 F2 hP hB hZ hnx hne
          refine wpList_store_blk rfl 77 (.tmp 5) (.tmp 23) rfl (w.heap.size + 1 + 1 + 1) (blc P') rfl rfl (blc P) hP1 rfl (blc_one _) infoBL ?_
          intro W1 hW1
          have hB2 := hW1.other _ _ _ (by omega) hB1
          have hZ2 := hW1.other _ _ _ (by omega) hZ1
          have hX2 := hW1.below w.heap.size w (by omega) hX1
          have hP2 := hW1.blk
          clear hB1 hZ1 hX1 hP1 hW1
          have l1 := hP2.lt
          have l2 := hB2.lt
          have l3 := hZ2.lt
          go_wp2_with (first
            | (refine wpList_load_blk rfl 77 (.tmp 3) rfl (w.heap.size + 1) 0 rfl hB2 (blc B) (by simp) _ Try.underlying77 rfl infoBL ?_)
            | (go_at_call 87; refine (g3 _).mono ?_; rintro e w5 ⟨rfl, hb5⟩; have hP5 := hP2.below hb5 l1; have hB5 := hB2.below hb5 l2; have hZ5 := hZ2.below hb5 l3; have hX5 := hX2.trans (hb5.mono hX2.size))
            | (refine wpList_store_blk rfl 77 (.tmp 3) (.tmp 25) rfl (w.heap.size + 1) (blc B') rfl rfl (blc B) hB5 rfl (blc_one _) infoBL ?_; intro W6 hW6))
          go_roundw
          case rel => exact ⟨q + 1, by omega, by go_num, by rw [HN'.out], by rw [HK.out, HP.out]; exact hW6.other _ _ _ (by omega) hP5, by rw [HK.out, HB.out]; exact hW6.blk, hW6.other _ _ _ (by omega) hZ5, hW6.below _ _ (by omega) hX5⟩
          case measure => simp [intOf]; omega
        · obtain rfl : q = 64 := by omega
          have d1 : decide (((64 : Nat) : Int) < 64) = false := by decide
          rw [show 64 * p + 64 = 64 * (p + 1) from by omega] at hP hB
          generalize nn h 64 = n at *
          go_wp2_with fail
          go_roundw
          case rel => exact ⟨p + 1, by omega, by go_num, hP, hB, hZ, hnx⟩
          case measure => simp [intOf]; omega
    · obtain rfl : p = 2 := by omega
      have d0 : decide (((2 : Nat) : Int) < 2) = false := by decide
      have hG : acc a b (64 * 2) = gm a b := rfl
      rw [hG] at hP
      clear hG
      obtain ⟨D, HD⟩ : ∃ D, Hid (D = gm a b) := ⟨_, rfl⟩
      rw [← HD.out] at hP
      go_wp2_with (first
        | (refine wpList_load_blk rfl 77 (.tmp 5) rfl (w.heap.size + 1 + 1 + 1) 0 rfl hP (blc D) (by simp) _ Try.underlying77 rfl infoBL ?_)
        | (refine wpList_store_blk rfl 77 (.tmp 4) (.tmp 30) rfl (w.heap.size + 1 + 1) (blc D) rfl rfl zc hZ rfl (blc_one _) infoBL ?_; intro W hW))
      exact bodyPost_ret (results_blk1 Try.results74 _ rfl hW.blk _ Try.underlying77 rfl infoBL) rfl ⟨by rw [HD.out], hW.below _ _ (by omega) hnx⟩
end Go.Proofs.Ytibdlccaenanmaa.ghs
