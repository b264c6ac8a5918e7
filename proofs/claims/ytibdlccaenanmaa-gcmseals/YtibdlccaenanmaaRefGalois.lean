/-
  THE WALKS OF the document's own answers of package galois.
-/
import Derived.Test.YtibdlccaenanmaaPlainGalois
import Derived.BigQuiet
import Derived.WalkSmall
import Derived.Test.YtibdlccaenanmaaProg
namespace Go.Proofs.Ytibdlccaenanmaa.gal
open Go.RowKit

set_option maxHeartbeats 800000 in
theorem mul_any (a b : Nat) (ha : a < 256) (hb : b < 256) (w : World) :
    Calls Try.prog 56 #[.int .u8 a, .int .u8 b] w fun e w' => e = .returned (.int .u8 (gm a b)) ∧ ∃ n, w' = w.drewN n := by
  go_enter Try.func56, Try.ntmps56
  go_wp2_with fail
  go_loopw [5, 6, 8] (fun n _ i wr => ∃ k : Nat, k ≤ 8 ∧ i = .int .i64 k ∧ n = .int .i64 (rows a b k) ∧ ∃ d, wr = w.drewN d) (fun _ _ i _ => 8 - (intOf i).toNat)
  case atStart => exact ⟨0, by omega, rfl, rfl, 0, rfl⟩
  case round =>
    obtain ⟨k, hk, rfl, rfl, d, rfl⟩ := hrel
    by_cases hlt : k < 8
    · have hd : decide ((k : Int) < 8) = true := by simp; omega
      have hm := rows_lt a b ha k hk
      have HR : Hid (bits .xor .i64 ((rows a b k : Nat) : Int) (wrap64 (wrap64 ((a : Int) * 2 ^ k) * ((b : Int) / 2 ^ k).tmod 2)) = ((rows a b (k + 1) : Nat) : Int)) := by
        show bits .xor .i64 _ _ = _
        have := row_lt a b k ha hlt
        rw [row_int a b k ha hlt, xor64 _ _ (by omega) (by omega)]
        rfl
      generalize rows a b k = m at *
      go_wp2_with fail
      go_quiet (fail)
      go_wp2_with fail
      go_roundw
      case rel => exact ⟨k + 1, by omega, by go_num, by rw [HR.out], d + nq, rfl⟩
      case measure => simp [intOf]; omega
    · obtain rfl : k = 8 := by omega
      have hd : decide (((8 : Nat) : Int) < 8) = false := by decide
      have hm := rows_lt a b ha 8 hk
      have HG : Hid (gm a b = cuts (rows a b 8) 7 % 256) := rfl
      generalize rows a b 8 = m at *
      go_wp2_with fail
      go_loopw [5, 7] (fun n i wr => ∃ k : Nat, k ≤ 7 ∧ i = .int .i64 (14 - (k : Int)) ∧ n = .int .i64 (cuts m k) ∧ ∃ d, wr = w.drewN d) (fun _ i _ => (intOf i).toNat)
      case atStart => exact ⟨0, by omega, rfl, rfl, d, rfl⟩
      case round =>
        obtain ⟨k, hk, rfl, rfl, d, rfl⟩ := hrel
        by_cases hlt : k < 7
        · have hd : decide ((14 : Int) - (k : Int) ≥ 8) = true := by simp; omega
          have hc := cuts_lt m hm k hk
          have HR : Hid (bits .xor .i64 ((cuts m k : Nat) : Int) (wrap64 (wrap64 (283 * 2 ^ (6 - k)) * (((cuts m k : Nat) : Int) / 2 ^ (14 - k)).tmod 2)) = ((cuts m (k + 1) : Nat) : Int)) := by
            show bits .xor .i64 _ _ = _
            have := cut_lt (cuts m k) k hlt
            rw [cut_int _ k hlt, xor64 _ _ (by omega) (by omega)]
            rfl
          generalize cuts m k = c at *
          have e1 : ((14 : Int) - (k : Int)).toNat = 14 - k := by omega
          have e2 : ((14 : Int) - (k : Int) - 8).toNat = 6 - k := by omega
          have p1 : (0 : Int) ≤ 14 - (k : Int) := by omega
          have p2 : (0 : Int) ≤ 14 - (k : Int) - 8 := by omega
          go_wp2_with fail
          go_quiet (fail)
          go_wp2_with fail
          go_roundw
          case rel => exact ⟨k + 1, by omega, by go_num, by rw [HR.out], d + nq, rfl⟩
          case measure => simp [intOf]; omega
        · obtain rfl : k = 7 := by omega
          have hd : decide ((14 : Int) - ((7 : Nat) : Int) ≥ 8) = false := by decide
          have hc := cuts_lt m hm 7 hk
          generalize cuts m 7 = c at *
          go_wp2_with fail
          go_ret
          refine ⟨?_, d, rfl⟩
          rw [HG.out]
          rfl

theorem cells_ints (w : World) (l : List Int) (t : TypeId) (j : Nat) (h : j < l.length) : (w.alloc (.cells (l.map (Value.int .i64)).toArray t)).cell? ⟨w.heap.size, j, none⟩ = some (.int .i64 (l.getD j 0)) := by
  rw [World.cell?_alloc_mark]
  simp [h]
theorem ks_cell (w : World) (t : TypeId) (j : Nat) (h : j < 5) : (w.alloc (.cells #[.int .i64 0, .int .i64 4, .int .i64 5, .int .i64 6, .int .i64 7] t)).cell? ⟨w.heap.size, j, none⟩ = some (.int .i64 ((ks.getD j 0 : Nat) : Int)) := by
  have h1 := cells_ints w [0, 4, 5, 6, 7] t j h
  have h2 : ∀ j, j < 5 → (([0, 4, 5, 6, 7] : List Int).getD j 0) = ((ks.getD j 0 : Nat) : Int) := by decide
  rw [h2 j h] at h1
  exact h1
theorem shr_int (b m : Nat) : (b : Int) / 2 ^ m = ((b / 2 ^ m : Nat) : Int) := by simp

set_option maxHeartbeats 1600000 in
theorem affine_any (b : Nat) (hb : b < 256) (w : World) :
    Calls Try.prog 76 #[.int .u8 b] w fun e w' => e = .returned (.int .u8 (gaff b)) ∧ Below w.heap.size w w' := by
  go_enter Try.func76, Try.ntmps76
  go_wp2_with fail
  go_loopw [3, 8] (fun n i wr => ∃ k : Nat, k ≤ 8 ∧ i = .int .i64 k ∧ n = .int .i64 (affs b k) ∧ Below w.heap.size w wr) (fun _ i _ => 8 - (intOf i).toNat)
  case atStart => exact ⟨0, by omega, rfl, rfl, Below.refl _ _⟩
  case round =>
    obtain ⟨k, hk, rfl, rfl, hnx⟩ := hrel
    by_cases hlt : k < 8
    · have hd : decide ((k : Int) < 8) = true := by simp; omega
      have hx := hnx.alloc hnx.size (.cells #[.int .i64 0, .int .i64 4, .int .i64 5, .int .i64 6, .int .i64 7] 3)
      have hcell := ks_cell wr 3
      go_wp2_with fail
      go_loop [5, 7, 15] (fun v _ i => ∃ j : Nat, j ≤ 5 ∧ i = .int .i64 j ∧ v = .int .i64 (accB b k j)) (fun _ _ i => 5 - (intOf i).toNat)
      case atStart => exact ⟨0, by omega, rfl, congrArg (Value.int .i64) (shr_int 99 k)⟩
      case round =>
        obtain ⟨j, hj, rfl, rfl⟩ := hrel
        have hle := accB_le b k hb j
        by_cases hjl : j < 5
        · have hd2 : decide ((j : Int) < 5) = true := by simp; omega
          have hc := hcell j hjl
          have HA : Hid (accB b k (j + 1) = accB b k j + b / 2 ^ ((k + ks.getD j 0) % 8)) := rfl
          have hkk : ks.getD j 0 < 8 := by
            have : ∀ j, j < 5 → ks.getD j 0 < 8 := by decide
            exact this j hjl
          generalize ks.getD j 0 = q at *
          generalize accB b k j = v at *
          have hm : ((k : Int) + (q : Int)).tmod 8 = (((k + q) % 8 : Nat) : Int) := by rw [Int.tmod_eq_emod_of_nonneg (by omega)]; rfl
          have hdl := Nat.div_le_self b (2 ^ ((k + q) % 8))
          clear hcell
          go_wp2_with fail
          go_round
          case rel =>
            refine ⟨j + 1, by omega, by go_num, ?_⟩
            rw [HA.out, shr_int]
            generalize b / 2 ^ ((k + q) % 8) = z at *
            rw [wrap_in _ (by omega)]
            rfl
          case measure => simp [intOf]; omega
        · obtain rfl : j = 5 := by omega
          have hd2 : decide (((5 : Nat) : Int) < 5) = false := by decide
          have HA : Hid (affs b (k + 1) = affs b k + accB b k 5 % 2 * 2 ^ k) := rfl
          have ha := affs_lt b k
          generalize accB b k 5 = v at *
          generalize affs b k = m at *
          clear hcell
          go_wp2_with fail
          go_roundw
          case rel =>
            refine ⟨k + 1, by omega, by go_num, ?_, hx⟩
            have h2 : 2 ^ k ≤ 2 ^ 7 := pow_le (by omega)
            have h3 : v % 2 * 2 ^ k ≤ 1 * 2 ^ k := Nat.mul_le_mul_right _ (by omega)
            have e1 : (v : Int) % 2 * 2 ^ k = ((v % 2 * 2 ^ k : Nat) : Int) := by simp
            rw [HA.out, e1]
            generalize v % 2 * 2 ^ k = z at *
            have e2 : wrap64 (z : Int) = (z : Int) := wrap_in _ (by omega)
            rw [e2, wrap_in _ (by omega)]
            rfl
          case measure => simp [intOf]; omega
    · obtain rfl : k = 8 := by omega
      have hd : decide (((8 : Nat) : Int) < 8) = false := by decide
      have hc := affs_lt b 8
      have HG : Hid (gaff b = affs b 8 % 256) := rfl
      generalize affs b 8 = c at *
      go_wp2_with fail
      go_ret
      exact ⟨by rw [HG.out, Nat.mod_eq_of_lt hc]; rfl, hnx⟩

theorem drew_below {w : World} (n : Nat) : Below w.heap.size w (w.drewN n) := below_drewN (Below.refl _ _) n

end Go.Proofs.Ytibdlccaenanmaa.gal
