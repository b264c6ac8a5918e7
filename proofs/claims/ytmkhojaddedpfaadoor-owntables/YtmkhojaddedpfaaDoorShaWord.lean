/-
  THE WALKS OF package sha's turned and number (written by tools/mkshaword.py).
-/
import Derived.Test.YtmkhojaddedpfaaDoorPlainSha
import Derived.Test.YtmkhojaddedpfaaDoorBundle1
import Derived.Test.YtmkhojaddedpfaaDoorConv
import Derived.Test.YtmkhojaddedpfaaDoorBundle2
import Derived.Test.YtmkhojaddedpfaaDoorProg
import Derived.BigRegion
import Derived.WalkSmall
namespace Go.Proofs.YtmkhojaddedpfaaDoor.sha
open Go.RowKit
open Go.Proofs.YtmkhojaddedpfaaDoor.soft
open Go.Proofs.YtmkhojaddedpfaaDoor.cha (ad ad_lt rl Ws xor_lt)

/-! ### The model's words for it -/
theorem ofInt32 (a : Nat) (h : a < 4294967296) : (BitVec.ofInt 32 (a : Int)).toNat = a := by
  rw [BitVec.ofInt_natCast, BitVec.toNat_ofNat]; exact Nat.mod_eq_of_lt h
theorem wrap32 (n : Int) : IntKind.u32.wrap n = n % 4294967296 := by simp [IntKind.wrap, IntKind.bits, IntKind.signed]
theorem xor32 (a b : Nat) (ha : a < 4294967296) (hb : b < 4294967296) : bits .xor .u32 (a : Int) (b : Int) = ((a ^^^ b : Nat) : Int) := by
  show IntKind.u32.wrap ((BitVec.ofInt 32 (a : Int) ^^^ BitVec.ofInt 32 (b : Int)).toNat : Int) = _
  rw [BitVec.toNat_xor, ofInt32 a ha, ofInt32 b hb, wrap32]
  have := xor_lt ha hb
  omega
theorem or32 (a b : Nat) (ha : a < 4294967296) (hb : b < 4294967296) : bits .or .u32 (a : Int) (b : Int) = ((a ||| b : Nat) : Int) := by
  show IntKind.u32.wrap ((BitVec.ofInt 32 (a : Int) ||| BitVec.ofInt 32 (b : Int)).toNat : Int) = _
  rw [BitVec.toNat_or, ofInt32 a ha, ofInt32 b hb, wrap32]
  have := or_lt ha hb
  omega
theorem and32 (a b : Nat) (ha : a < 4294967296) (hb : b < 4294967296) : bits .and .u32 (a : Int) (b : Int) = ((a &&& b : Nat) : Int) := by
  show IntKind.u32.wrap ((BitVec.ofInt 32 (a : Int) &&& BitVec.ofInt 32 (b : Int)).toNat : Int) = _
  rw [BitVec.toNat_and, ofInt32 a ha, ofInt32 b hb, wrap32]
  have : a &&& b < 4294967296 := and_lt ha
  omega
theorem add32 (a b : Nat) : ((a : Int) + (b : Int)) % 4294967296 = ((ad a b : Nat) : Int) := by unfold ad; omega
/-- Turned, in the model's words. -/
theorem turn_bits (k x : Nat) (hk : 0 < k) (hk2 : k < 32) (h : x < 4294967296) : bits .or .u32 ((x : Int) * 2 ^ k % 4294967296) ((x : Int) / 2 ^ (32 - k)) = ((rl k x : Nat) : Int) := by
  have e1 : (x : Int) * 2 ^ k % 4294967296 = ((x * 2 ^ k % 4294967296 : Nat) : Int) := by simp
  have e2 : (x : Int) / 2 ^ (32 - k) = ((x / 2 ^ (32 - k) : Nat) : Int) := by simp
  have hd : x / 2 ^ (32 - k) < 2 ^ k := by
    rw [Nat.div_lt_iff_lt_mul (Nat.pow_pos (by decide)), ← Nat.pow_add, show k + (32 - k) = 32 from by omega]
    exact h
  have hm : x * 2 ^ k % 4294967296 = 2 ^ k * (x % 2 ^ (32 - k)) := by
    have : (4294967296 : Nat) = 2 ^ (32 - k) * 2 ^ k := by rw [← Nat.pow_add, show 32 - k + k = 32 from by omega]
    rw [this, Nat.mul_mod_mul_right, Nat.mul_comm]
  rw [e1, e2, or32 _ _ (Nat.mod_lt _ (by decide)) (Nat.lt_of_le_of_lt (Nat.div_le_self _ _) h), rl, hm, Nat.two_pow_add_eq_or_of_lt hd]
theorem turned_2 (x : Nat) (h : x < 4294967296) (w : World) : Calls Tryd.prog 47 #[.int .u32 x, .int .i64 2] w fun e w' => e = .returned (.int .u32 (rr 2 x : Nat)) ∧ w' = w := by
  have f0 : Calls Tryd.prog 49 #[.int .u32 x, .int .i64 (-2)] w fun e w' => e = .returned (.int .u32 (rr 2 x : Nat)) ∧ w' = w := by
    have e0 : bits .and .u64 (IntKind.u64.wrap (-2)) 31 = 30 := by decide
    have e1 : bits .or .u32 ((x : Int) * 1073741824 % 4294967296) ((x : Int) / 4) = ((rr 2 x : Nat) : Int) := turn_bits 30 x (by decide) (by decide) h
    go_enter Tryd.func49, Tryd.ntmps49
    go_wp2_with fail
    go_ret
    exact ⟨rfl, rfl⟩
  go_enter Tryd.func47, Tryd.ntmps47
  go_wp2_with (go_at_call 49; (with_reducible refine f0.mono ?_); rintro e w1 ⟨rfl, rfl⟩)
  go_ret
  exact ⟨rfl, rfl⟩
theorem turned_6 (x : Nat) (h : x < 4294967296) (w : World) : Calls Tryd.prog 47 #[.int .u32 x, .int .i64 6] w fun e w' => e = .returned (.int .u32 (rr 6 x : Nat)) ∧ w' = w := by
  have f0 : Calls Tryd.prog 49 #[.int .u32 x, .int .i64 (-6)] w fun e w' => e = .returned (.int .u32 (rr 6 x : Nat)) ∧ w' = w := by
    have e0 : bits .and .u64 (IntKind.u64.wrap (-6)) 31 = 26 := by decide
    have e1 : bits .or .u32 ((x : Int) * 67108864 % 4294967296) ((x : Int) / 64) = ((rr 6 x : Nat) : Int) := turn_bits 26 x (by decide) (by decide) h
    go_enter Tryd.func49, Tryd.ntmps49
    go_wp2_with fail
    go_ret
    exact ⟨rfl, rfl⟩
  go_enter Tryd.func47, Tryd.ntmps47
  go_wp2_with (go_at_call 49; (with_reducible refine f0.mono ?_); rintro e w1 ⟨rfl, rfl⟩)
  go_ret
  exact ⟨rfl, rfl⟩
theorem turned_7 (x : Nat) (h : x < 4294967296) (w : World) : Calls Tryd.prog 47 #[.int .u32 x, .int .i64 7] w fun e w' => e = .returned (.int .u32 (rr 7 x : Nat)) ∧ w' = w := by
  have f0 : Calls Tryd.prog 49 #[.int .u32 x, .int .i64 (-7)] w fun e w' => e = .returned (.int .u32 (rr 7 x : Nat)) ∧ w' = w := by
    have e0 : bits .and .u64 (IntKind.u64.wrap (-7)) 31 = 25 := by decide
    have e1 : bits .or .u32 ((x : Int) * 33554432 % 4294967296) ((x : Int) / 128) = ((rr 7 x : Nat) : Int) := turn_bits 25 x (by decide) (by decide) h
    go_enter Tryd.func49, Tryd.ntmps49
    go_wp2_with fail
    go_ret
    exact ⟨rfl, rfl⟩
  go_enter Tryd.func47, Tryd.ntmps47
  go_wp2_with (go_at_call 49; (with_reducible refine f0.mono ?_); rintro e w1 ⟨rfl, rfl⟩)
  go_ret
  exact ⟨rfl, rfl⟩
theorem turned_11 (x : Nat) (h : x < 4294967296) (w : World) : Calls Tryd.prog 47 #[.int .u32 x, .int .i64 11] w fun e w' => e = .returned (.int .u32 (rr 11 x : Nat)) ∧ w' = w := by
  have f0 : Calls Tryd.prog 49 #[.int .u32 x, .int .i64 (-11)] w fun e w' => e = .returned (.int .u32 (rr 11 x : Nat)) ∧ w' = w := by
    have e0 : bits .and .u64 (IntKind.u64.wrap (-11)) 31 = 21 := by decide
    have e1 : bits .or .u32 ((x : Int) * 2097152 % 4294967296) ((x : Int) / 2048) = ((rr 11 x : Nat) : Int) := turn_bits 21 x (by decide) (by decide) h
    go_enter Tryd.func49, Tryd.ntmps49
    go_wp2_with fail
    go_ret
    exact ⟨rfl, rfl⟩
  go_enter Tryd.func47, Tryd.ntmps47
  go_wp2_with (go_at_call 49; (with_reducible refine f0.mono ?_); rintro e w1 ⟨rfl, rfl⟩)
  go_ret
  exact ⟨rfl, rfl⟩
theorem turned_13 (x : Nat) (h : x < 4294967296) (w : World) : Calls Tryd.prog 47 #[.int .u32 x, .int .i64 13] w fun e w' => e = .returned (.int .u32 (rr 13 x : Nat)) ∧ w' = w := by
  have f0 : Calls Tryd.prog 49 #[.int .u32 x, .int .i64 (-13)] w fun e w' => e = .returned (.int .u32 (rr 13 x : Nat)) ∧ w' = w := by
    have e0 : bits .and .u64 (IntKind.u64.wrap (-13)) 31 = 19 := by decide
    have e1 : bits .or .u32 ((x : Int) * 524288 % 4294967296) ((x : Int) / 8192) = ((rr 13 x : Nat) : Int) := turn_bits 19 x (by decide) (by decide) h
    go_enter Tryd.func49, Tryd.ntmps49
    go_wp2_with fail
    go_ret
    exact ⟨rfl, rfl⟩
  go_enter Tryd.func47, Tryd.ntmps47
  go_wp2_with (go_at_call 49; (with_reducible refine f0.mono ?_); rintro e w1 ⟨rfl, rfl⟩)
  go_ret
  exact ⟨rfl, rfl⟩
theorem turned_17 (x : Nat) (h : x < 4294967296) (w : World) : Calls Tryd.prog 47 #[.int .u32 x, .int .i64 17] w fun e w' => e = .returned (.int .u32 (rr 17 x : Nat)) ∧ w' = w := by
  have f0 : Calls Tryd.prog 49 #[.int .u32 x, .int .i64 (-17)] w fun e w' => e = .returned (.int .u32 (rr 17 x : Nat)) ∧ w' = w := by
    have e0 : bits .and .u64 (IntKind.u64.wrap (-17)) 31 = 15 := by decide
    have e1 : bits .or .u32 ((x : Int) * 32768 % 4294967296) ((x : Int) / 131072) = ((rr 17 x : Nat) : Int) := turn_bits 15 x (by decide) (by decide) h
    go_enter Tryd.func49, Tryd.ntmps49
    go_wp2_with fail
    go_ret
    exact ⟨rfl, rfl⟩
  go_enter Tryd.func47, Tryd.ntmps47
  go_wp2_with (go_at_call 49; (with_reducible refine f0.mono ?_); rintro e w1 ⟨rfl, rfl⟩)
  go_ret
  exact ⟨rfl, rfl⟩
theorem turned_18 (x : Nat) (h : x < 4294967296) (w : World) : Calls Tryd.prog 47 #[.int .u32 x, .int .i64 18] w fun e w' => e = .returned (.int .u32 (rr 18 x : Nat)) ∧ w' = w := by
  have f0 : Calls Tryd.prog 49 #[.int .u32 x, .int .i64 (-18)] w fun e w' => e = .returned (.int .u32 (rr 18 x : Nat)) ∧ w' = w := by
    have e0 : bits .and .u64 (IntKind.u64.wrap (-18)) 31 = 14 := by decide
    have e1 : bits .or .u32 ((x : Int) * 16384 % 4294967296) ((x : Int) / 262144) = ((rr 18 x : Nat) : Int) := turn_bits 14 x (by decide) (by decide) h
    go_enter Tryd.func49, Tryd.ntmps49
    go_wp2_with fail
    go_ret
    exact ⟨rfl, rfl⟩
  go_enter Tryd.func47, Tryd.ntmps47
  go_wp2_with (go_at_call 49; (with_reducible refine f0.mono ?_); rintro e w1 ⟨rfl, rfl⟩)
  go_ret
  exact ⟨rfl, rfl⟩
theorem turned_19 (x : Nat) (h : x < 4294967296) (w : World) : Calls Tryd.prog 47 #[.int .u32 x, .int .i64 19] w fun e w' => e = .returned (.int .u32 (rr 19 x : Nat)) ∧ w' = w := by
  have f0 : Calls Tryd.prog 49 #[.int .u32 x, .int .i64 (-19)] w fun e w' => e = .returned (.int .u32 (rr 19 x : Nat)) ∧ w' = w := by
    have e0 : bits .and .u64 (IntKind.u64.wrap (-19)) 31 = 13 := by decide
    have e1 : bits .or .u32 ((x : Int) * 8192 % 4294967296) ((x : Int) / 524288) = ((rr 19 x : Nat) : Int) := turn_bits 13 x (by decide) (by decide) h
    go_enter Tryd.func49, Tryd.ntmps49
    go_wp2_with fail
    go_ret
    exact ⟨rfl, rfl⟩
  go_enter Tryd.func47, Tryd.ntmps47
  go_wp2_with (go_at_call 49; (with_reducible refine f0.mono ?_); rintro e w1 ⟨rfl, rfl⟩)
  go_ret
  exact ⟨rfl, rfl⟩
theorem turned_22 (x : Nat) (h : x < 4294967296) (w : World) : Calls Tryd.prog 47 #[.int .u32 x, .int .i64 22] w fun e w' => e = .returned (.int .u32 (rr 22 x : Nat)) ∧ w' = w := by
  have f0 : Calls Tryd.prog 49 #[.int .u32 x, .int .i64 (-22)] w fun e w' => e = .returned (.int .u32 (rr 22 x : Nat)) ∧ w' = w := by
    have e0 : bits .and .u64 (IntKind.u64.wrap (-22)) 31 = 10 := by decide
    have e1 : bits .or .u32 ((x : Int) * 1024 % 4294967296) ((x : Int) / 4194304) = ((rr 22 x : Nat) : Int) := turn_bits 10 x (by decide) (by decide) h
    go_enter Tryd.func49, Tryd.ntmps49
    go_wp2_with fail
    go_ret
    exact ⟨rfl, rfl⟩
  go_enter Tryd.func47, Tryd.ntmps47
  go_wp2_with (go_at_call 49; (with_reducible refine f0.mono ?_); rintro e w1 ⟨rfl, rfl⟩)
  go_ret
  exact ⟨rfl, rfl⟩
theorem turned_25 (x : Nat) (h : x < 4294967296) (w : World) : Calls Tryd.prog 47 #[.int .u32 x, .int .i64 25] w fun e w' => e = .returned (.int .u32 (rr 25 x : Nat)) ∧ w' = w := by
  have f0 : Calls Tryd.prog 49 #[.int .u32 x, .int .i64 (-25)] w fun e w' => e = .returned (.int .u32 (rr 25 x : Nat)) ∧ w' = w := by
    have e0 : bits .and .u64 (IntKind.u64.wrap (-25)) 31 = 7 := by decide
    have e1 : bits .or .u32 ((x : Int) * 128 % 4294967296) ((x : Int) / 33554432) = ((rr 25 x : Nat) : Int) := turn_bits 7 x (by decide) (by decide) h
    go_enter Tryd.func49, Tryd.ntmps49
    go_wp2_with fail
    go_ret
    exact ⟨rfl, rfl⟩
  go_enter Tryd.func47, Tryd.ntmps47
  go_wp2_with (go_at_call 49; (with_reducible refine f0.mono ?_); rintro e w1 ⟨rfl, rfl⟩)
  go_ret
  exact ⟨rfl, rfl⟩

theorem or_add (a b k : Nat) (ha : a < 2 ^ k) : b * 2 ^ k ||| a = b * 2 ^ k + a := by
  rw [Nat.mul_comm, ← Nat.two_pow_add_eq_or_of_lt ha b]
set_option maxHeartbeats 800000 in
theorem number_any (b o c n : Nat) (hn : 4 ≤ n) (f : Nat → Nat) (i : Nat) (hf : ∀ j, f j < 256) (w : World) (hb : b < w.heap.size) (hc : ∀ j, j < 4 → w.cell? ⟨b, o + j, none⟩ = some (.int .u8 (f (4 * i + j)))) :
    Calls Tryd.prog 46 #[.slice (some ⟨b, o, none⟩) n c] w fun e w' => e = .returned (.int .u32 (nm f i : Nat)) ∧ Below w.heap.size w w' := by
  have HC : Hid (∀ x : Up w, ∀ j, j < 4 → x.1.cell? ⟨b, o + j, none⟩ = some (.int .u8 (f (4 * i + j)))) := fun x j hj => (x.2.cell (p := ⟨b, o + j, none⟩) hb).trans (hc j hj)
  have c0 := fun x : Up w => HC.out x 0 (by omega)
  have c1 := fun x : Up w => HC.out x 1 (by omega)
  have c2 := fun x : Up w => HC.out x 2 (by omega)
  have c3 := fun x : Up w => HC.out x 3 (by omega)
  simp only [Nat.add_zero] at c0
  have l0 := hf (4 * i)
  have l1 := hf (4 * i + 1)
  have l2 := hf (4 * i + 2)
  have l3 := hf (4 * i + 3)
  have HN : Hid (nm f i = f (4 * i) * 16777216 + f (4 * i + 1) * 65536 + f (4 * i + 2) * 256 + f (4 * i + 3)) := rfl
  clear hc hb hf
  generalize nm f i = N at *
  generalize f (4 * i) = x0 at *
  generalize f (4 * i + 1) = x1 at *
  generalize f (4 * i + 2) = x2 at *
  generalize f (4 * i + 3) = x3 at *
  obtain ⟨y1, h1⟩ : ∃ y, y = x0 * 16777216 + x1 * 65536 := ⟨_, rfl⟩
  obtain ⟨y2, h2⟩ : ∃ y, y = y1 + x2 * 256 := ⟨_, rfl⟩
  have o1 : bits .or .u32 ((x0 : Int) * 16777216) ((x1 : Int) * 65536) = (y1 : Int) := by
    rw [show (x0 : Int) * 16777216 = ((x0 * 16777216 : Nat) : Int) from by omega, show (x1 : Int) * 65536 = ((x1 * 65536 : Nat) : Int) from by omega, or32 _ _ (by omega) (by omega), show x0 * 16777216 ||| x1 * 65536 = x0 * 16777216 + x1 * 65536 from or_add (x1 * 65536) x0 24 (by omega), h1]
  have o2 : bits .or .u32 (y1 : Int) ((x2 : Int) * 256) = (y2 : Int) := by
    have e : y1 = (x0 * 256 + x1) * 2 ^ 16 := by rw [h1, show (2 : Nat) ^ 16 = 65536 from rfl, Nat.add_mul, Nat.mul_assoc]
    rw [show (x2 : Int) * 256 = ((x2 * 256 : Nat) : Int) from by omega, or32 _ _ (by omega) (by omega), h2, e, or_add (x2 * 256) _ 16 (by omega)]
  have o3 : bits .or .u32 (y2 : Int) (x3 : Int) = (N : Int) := by
    have := HN.out
    have e : y2 = (x0 * 65536 + x1 * 256 + x2) * 2 ^ 8 := by rw [h2, h1, show (2 : Nat) ^ 8 = 256 from rfl, Nat.add_mul, Nat.add_mul, Nat.mul_assoc, Nat.mul_assoc]
    rw [or32 _ _ (by omega) (by omega), e, or_add x3 _ 8 (by omega)]
    omega
  clear h1 h2
  have hne := Up.some w
  have n1 : (1 : Int) < (n : Int) := by omega
  have n2 : (2 : Int) < (n : Int) := by omega
  have n3 : (3 : Int) < (n : Int) := by omega
  have n0 : (0 : Int) < (n : Int) := by omega
  go_enter Tryd.func46, Tryd.ntmps46
  go_wp2_with fail
  refine wp_region_up (by kernel_rfl) (by kernel_rfl) ?_
  repeat (go_big_quiet_step (fail))
  refine wpQuiet_nil ?_
  rintro w1 ⟨y1, rfl⟩
  go_wp2_with fail
  go_ret
  exact ⟨rfl, y1.2⟩
end Go.Proofs.YtmkhojaddedpfaaDoor.sha
