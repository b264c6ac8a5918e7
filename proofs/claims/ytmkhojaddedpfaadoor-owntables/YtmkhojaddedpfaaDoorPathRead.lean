/-
  WHAT A TABLE IS ASKED: bit, has, longest, Find.
-/
import Derived.Test.YtmkhojaddedpfaaDoorPathTab
import Derived.BigQuiet
import Derived.Deep.RegionWith
namespace Go.Proofs.YtmkhojaddedpfaaDoor.pth
open Go.RowKit

theorem bit_any (a k : Nat) (hk : k ≤ 32) (w : World) :
    Calls Tryd.prog 25 #[.int .u32 (a : Int), .int .i64 (k : Int)] w fun e w' => e = .returned (.int .u32 (bt a k : Int)) ∧ w' = w := by
  have k0 : (0 : Int) ≤ (k : Int) := by omega
  have k1 : (k : Int) ≤ 32 := by omega
  have k2 : (k : Int) ≤ 64 := by omega
  obtain ⟨x, hx⟩ : ∃ x, x = a * 2 ^ k % 4294967296 := ⟨_, rfl⟩
  have hxl : x < 4294967296 := by rw [hx]; exact Nat.mod_lt _ (by decide)
  have e1 : IntKind.u32.wrap ((a : Int) * 2 ^ k) = (x : Int) := by
    rw [hx]
    have : (a : Int) * 2 ^ k = ((a * 2 ^ k : Nat) : Int) := by push_cast; rfl
    rw [this]
    simp [IntKind.wrap, IntKind.signed, IntKind.bits]
  have e2 : (x : Int) / 2147483648 = ((bt a k : Nat) : Int) := by
    rw [← bt_num hk, ← hx]
    omega
  have hb := bt_lt a k
  generalize bt a k = y at *
  clear hx
  go_enter Tryd.func25, Tryd.ntmps25
  go_wp2
  go_ret
  exact ⟨rfl, rfl⟩
set_option maxHeartbeats 1600000 in
theorem has_any (b : Nat) (L : List En) (B : Nat → Nat → Option Nat) (w : World) (hT : Tab w b L B) (a n : Nat) (ha : a < 4294967296) (hn : n ≤ 32) :
    Calls Tryd.prog 17 #[.pointer (some ⟨b, 0, none⟩), .agg #[.int .u32 (a : Int), .int .i64 (n : Int)]] w fun e w' => e = .returned (.bool (at' L n (a / 2 ^ (32 - n))).isSome) ∧ Below w.heap.size w w' := by
  have hr := hT.shape.root
  have hP : Blk (w.alloc (.cells #[.int .u32 (a : Int), .int .i64 (n : Int)] 29)) w.heap.size 29 [.int .u32 (a : Int), .int .i64 (n : Int)] := Blk.new w 29 _ _ rfl
  have hT1 : Tab (w.alloc (.cells #[.int .u32 (a : Int), .int .i64 (n : Int)] 29)) b L B := hT.below ((Below.refl _ _).alloc (Nat.le_refl _) _)
  have hX1 : Below w.heap.size w (w.alloc (.cells #[.int .u32 (a : Int), .int .i64 (n : Int)] 29)) := (Below.refl _ _).alloc (Nat.le_refl _) _
  have c0 := hP.cell 0 _ rfl
  have c1 := hP.cell 1 _ rfl
  obtain ⟨D, hD⟩ : ∃ D, w.heap.size = D := ⟨_, rfl⟩
  rw [hD] at hX1 hP c0 c1 ⊢
  go_enter Tryd.func17, Tryd.ntmps17
  go_wp2
  try rw [hD]
  generalize w.alloc (.cells #[.int .u32 (a : Int), .int .i64 (n : Int)] 29) = w1 at *
  go_loopw [0, 5] (fun p i wr => ∃ k, k ≤ n ∧ p = ptr (B k (a / 2 ^ (32 - k))) ∧ i = .int .i64 (k : Int) ∧ Tab wr b L B ∧ Blk wr D 29 [.int .u32 (a : Int), .int .i64 (n : Int)] ∧ Below D w wr) (fun _ i _ => n - (intOf i).toNat)
  case atStart => exact ⟨0, Nat.zero_le _, by rw [show a / 2 ^ (32 - 0) = 0 from Nat.div_eq_of_lt ha, hr]; rfl, rfl, hT1, hP, hX1⟩
  case round =>
    clear hT1 hP hX1 c0 c1 hT hr
    obtain ⟨k, hk, rfl, rfl, hT, hP, hX⟩ := hrel
    have c0 := hP.cell 0 _ rfl
    have c1 := hP.cell 1 _ rfl
    have k0 : (0 : Int) ≤ (k : Int) := by omega
    have k1 : (k : Int) ≤ 32 := by omega
    cases hj : B k (a / 2 ^ (32 - k)) with
    | none =>
      rw [ptr_none]
      have HR : Hid (at' L n (a / 2 ^ (32 - n)) = none) := hT.shape.nobody (hT.shape.ends hj n hk)
      clear hT hj
      go_wp2
      go_ret
      exact ⟨by rw [HR.out]; rfl, hX⟩
    | some j =>
      have hB := hT.blk _ _ _ hj
      rw [ptr_some]
      by_cases hlt : k < n
      · have d0 : decide ((k : Int) < (n : Int)) = true := decide_eq_true (by omega)
        have f1 := bit_any a k (by omega)
        have hw := hT.shape.way (a := a) (k := k) (by omega)
        have hb := bt_lt a k
        obtain h0 | h0 : bt a k = 0 ∨ bt a k = 1 := by omega
        · have c4 := hB.cell 4 _ rfl
          rw [h0] at f1 hw
          replace hw : B (k + 1) (2 * (a / 2 ^ (32 - k))) = B (k + 1) (a / 2 ^ (32 - (k + 1))) := hw
          rw [hw] at c4
          have f1' : ∀ W, Calls Tryd.prog 25 #[.int .u32 (a : Int), .int .i64 (k : Int)] W fun e w' => e = .returned (.int .u32 0) ∧ w' = W := f1
          clear f1 h0 hw hB hj
          go_wp2
          go_region_with (go_at_call 25; (with_reducible refine (f1' _).mono ?_); rintro e w3 ⟨rfl, hq⟩; have hq := hq.symm; subst hq)
          go_wp2
          go_roundw
          case rel => exact ⟨k + 1, by omega, by rw [show 32 - (k + 1) = 31 - k from by omega], by go_num, hT.drew, hP, hX.drew⟩
          case measure => simp [intOf]; omega
        · have c4 := hB.cell 5 _ rfl
          rw [h0] at f1 hw
          rw [hw] at c4
          have f1' : ∀ W, Calls Tryd.prog 25 #[.int .u32 (a : Int), .int .i64 (k : Int)] W fun e w' => e = .returned (.int .u32 1) ∧ w' = W := f1
          clear f1 h0 hw hB hj
          go_wp2
          go_region_with (go_at_call 25; (with_reducible refine (f1' _).mono ?_); rintro e w3 ⟨rfl, hq⟩; have hq := hq.symm; subst hq)
          go_wp2
          go_roundw
          case rel => exact ⟨k + 1, by omega, by rw [show 32 - (k + 1) = 31 - k from by omega], by go_num, hT.drew, hP, hX.drew⟩
          case measure => simp [intOf]; omega
      · obtain rfl : k = n := by omega
        have d0 : decide ((k : Int) < (k : Int)) = false := decide_eq_false (by omega)
        have c4 := hB.cell 0 _ rfl
        clear hB hT hj
        go_wp2
        go_ret
        exact ⟨rfl, hX⟩
end Go.Proofs.YtmkhojaddedpfaaDoor.pth
