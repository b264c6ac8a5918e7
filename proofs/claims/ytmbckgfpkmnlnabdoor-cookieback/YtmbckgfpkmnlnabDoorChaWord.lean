/-
  THE WALKS OF package chacha's Quarter and Back.
-/
import Derived.Test.YtmbckgfpkmnlnabDoorPlainChacha
import Derived.Test.YtmbckgfpkmnlnabDoorProg
import Derived.BigRegion
import Derived.WalkSmall
namespace Go.Proofs.YtmbckgfpkmnlnabDoor.cha
open Go.RowKit

/-! ### The model's words for it -/
theorem ofInt32 (a : Nat) (h : a < 4294967296) : (BitVec.ofInt 32 (a : Int)).toNat = a := by
  rw [BitVec.ofInt_natCast, BitVec.toNat_ofNat]; exact Nat.mod_eq_of_lt h
theorem wrap32 (n : Int) : IntKind.u32.wrap n = n % 4294967296 := by simp [IntKind.wrap, IntKind.bits, IntKind.signed]
theorem xor32 (a b : Nat) (ha : a < 4294967296) (hb : b < 4294967296) : bits .xor .u32 (a : Int) (b : Int) = ((a ^^^ b : Nat) : Int) := by
  show IntKind.u32.wrap ((BitVec.ofInt 32 (a : Int) ^^^ BitVec.ofInt 32 (b : Int)).toNat : Int) = _
  rw [BitVec.toNat_xor, ofInt32 a ha, ofInt32 b hb, wrap32]
  have := xor_lt ha hb
  omega
theorem or32 (a b : Nat) (ha : a < 4294967296) (hb : b < 4294967296) : bits .or .u32 (a : Int) (b : Int) = ((a ||| b : Nat) : Int) := by
  show IntKind.u32.wrap ((BitVec.ofInt 32 (a : Int) ||| BitVec.ofInt 32 (b : Int)).toNat : Int) = _
  rw [BitVec.toNat_or, ofInt32 a ha, ofInt32 b hb, wrap32]
  have : a ||| b < 2 ^ 32 := Nat.or_lt_two_pow ha hb
  omega
/-- Turned, in the model's words. -/
theorem turned (k x : Nat) (hk : 0 < k) (hk2 : k < 32) (h : x < 4294967296) : bits .or .u32 ((x : Int) * 2 ^ k % 4294967296) ((x : Int) / 2 ^ (32 - k)) = ((rl k x : Nat) : Int) := by
  have e1 : (x : Int) * 2 ^ k % 4294967296 = ((x * 2 ^ k % 4294967296 : Nat) : Int) := by simp
  have e2 : (x : Int) / 2 ^ (32 - k) = ((x / 2 ^ (32 - k) : Nat) : Int) := by simp
  have hd : x / 2 ^ (32 - k) < 2 ^ k := by
    rw [Nat.div_lt_iff_lt_mul (Nat.pow_pos (by decide)), ← Nat.pow_add, show k + (32 - k) = 32 from by omega]
    exact h
  have hm : x * 2 ^ k % 4294967296 = 2 ^ k * (x % 2 ^ (32 - k)) := by
    have : (4294967296 : Nat) = 2 ^ (32 - k) * 2 ^ k := by rw [← Nat.pow_add, show 32 - k + k = 32 from by omega]
    rw [this, Nat.mul_mod_mul_right, Nat.mul_comm]
  rw [e1, e2, or32 _ _ (Nat.mod_lt _ (by decide)) (Nat.lt_of_le_of_lt (Nat.div_le_self _ _) h), rl, hm, Nat.two_pow_add_eq_or_of_lt hd]
theorem rot_16 (x : Nat) (h : x < 4294967296) (w : World) : Calls Tryd.prog 80 #[.int .u32 x, .int .i64 16] w fun e w' => e = .returned (.int .u32 (rl 16 x : Nat)) ∧ w' = w := by
  have e0 : bits .and .u64 16 31 = 16 := by decide
  have e1 : bits .or .u32 ((x : Int) * 65536 % 4294967296) ((x : Int) / 65536) = ((rl 16 x : Nat) : Int) := turned 16 x (by decide) (by decide) h
  go_enter Tryd.func80, Tryd.ntmps80
  go_wp2_with fail
  go_ret
  exact ⟨rfl, rfl⟩
theorem rot_12 (x : Nat) (h : x < 4294967296) (w : World) : Calls Tryd.prog 80 #[.int .u32 x, .int .i64 12] w fun e w' => e = .returned (.int .u32 (rl 12 x : Nat)) ∧ w' = w := by
  have e0 : bits .and .u64 12 31 = 12 := by decide
  have e1 : bits .or .u32 ((x : Int) * 4096 % 4294967296) ((x : Int) / 1048576) = ((rl 12 x : Nat) : Int) := turned 12 x (by decide) (by decide) h
  go_enter Tryd.func80, Tryd.ntmps80
  go_wp2_with fail
  go_ret
  exact ⟨rfl, rfl⟩
theorem rot_8 (x : Nat) (h : x < 4294967296) (w : World) : Calls Tryd.prog 80 #[.int .u32 x, .int .i64 8] w fun e w' => e = .returned (.int .u32 (rl 8 x : Nat)) ∧ w' = w := by
  have e0 : bits .and .u64 8 31 = 8 := by decide
  have e1 : bits .or .u32 ((x : Int) * 256 % 4294967296) ((x : Int) / 16777216) = ((rl 8 x : Nat) : Int) := turned 8 x (by decide) (by decide) h
  go_enter Tryd.func80, Tryd.ntmps80
  go_wp2_with fail
  go_ret
  exact ⟨rfl, rfl⟩
theorem rot_7 (x : Nat) (h : x < 4294967296) (w : World) : Calls Tryd.prog 80 #[.int .u32 x, .int .i64 7] w fun e w' => e = .returned (.int .u32 (rl 7 x : Nat)) ∧ w' = w := by
  have e0 : bits .and .u64 7 31 = 7 := by decide
  have e1 : bits .or .u32 ((x : Int) * 128 % 4294967296) ((x : Int) / 33554432) = ((rl 7 x : Nat) : Int) := turned 7 x (by decide) (by decide) h
  go_enter Tryd.func80, Tryd.ntmps80
  go_wp2_with fail
  go_ret
  exact ⟨rfl, rfl⟩

/-- A sum, a difference, in the model's words. -/
theorem add32 (a b : Nat) : ((a : Int) + (b : Int)) % 4294967296 = ((ad a b : Nat) : Int) := by unfold ad; omega
theorem sub32 (a b : Nat) (hb : b < 4294967296) : ((a : Int) - (b : Int)) % 4294967296 = ((sb a b : Nat) : Int) := by unfold sb; omega

set_option maxHeartbeats 1600000 in
theorem quarter_any (q : Q) (h : q.Ok) (w : World) :
    Calls Tryd.prog 75 #[.int .u32 q.a, .int .u32 q.b, .int .u32 q.c, .int .u32 q.d] w fun e w' => e = .returned (.tuple #[.int .u32 (qr q).a, .int .u32 (qr q).b, .int .u32 (qr q).c, .int .u32 (qr q).d]) ∧ w' = w := by
  obtain ⟨a, b, c, d⟩ := q
  have ha := h.a
  have hb := h.b
  have hc := h.c
  have hd := h.d
  simp only at ha hb hc hd
  clear h
  have HQ : Hid (qr ⟨a, b, c, d⟩ = qr ⟨a, b, c, d⟩) := rfl
  obtain ⟨a1, p1⟩ : ∃ x, x = ad a b := ⟨_, rfl⟩
  have l1 : a1 < 4294967296 := by rw [p1]; exact ad_lt _ _
  have s1 := add32 a b
  obtain ⟨y1, z1⟩ : ∃ x, x = d ^^^ a1 := ⟨_, rfl⟩
  have k1 : y1 < 4294967296 := by rw [z1]; exact xor_lt hd l1
  have x1 := xor32 d a1 hd l1
  obtain ⟨d1, p2⟩ : ∃ x, x = rl 16 y1 := ⟨_, rfl⟩
  have l2 : d1 < 4294967296 := by rw [p2]; exact rl_lt _ _ (by omega) k1
  have f1 := rot_16 y1 k1
  obtain ⟨c1, p3⟩ : ∃ x, x = ad c d1 := ⟨_, rfl⟩
  have l3 : c1 < 4294967296 := by rw [p3]; exact ad_lt _ _
  have s2 := add32 c d1
  obtain ⟨y2, z2⟩ : ∃ x, x = b ^^^ c1 := ⟨_, rfl⟩
  have k2 : y2 < 4294967296 := by rw [z2]; exact xor_lt hb l3
  have x2 := xor32 b c1 hb l3
  obtain ⟨b1, p4⟩ : ∃ x, x = rl 12 y2 := ⟨_, rfl⟩
  have l4 : b1 < 4294967296 := by rw [p4]; exact rl_lt _ _ (by omega) k2
  have f2 := rot_12 y2 k2
  obtain ⟨a2, p5⟩ : ∃ x, x = ad a1 b1 := ⟨_, rfl⟩
  have l5 : a2 < 4294967296 := by rw [p5]; exact ad_lt _ _
  have s3 := add32 a1 b1
  obtain ⟨y3, z3⟩ : ∃ x, x = d1 ^^^ a2 := ⟨_, rfl⟩
  have k3 : y3 < 4294967296 := by rw [z3]; exact xor_lt l2 l5
  have x3 := xor32 d1 a2 l2 l5
  obtain ⟨d2, p6⟩ : ∃ x, x = rl 8 y3 := ⟨_, rfl⟩
  have l6 : d2 < 4294967296 := by rw [p6]; exact rl_lt _ _ (by omega) k3
  have f3 := rot_8 y3 k3
  obtain ⟨c2, p7⟩ : ∃ x, x = ad c1 d2 := ⟨_, rfl⟩
  have l7 : c2 < 4294967296 := by rw [p7]; exact ad_lt _ _
  have s4 := add32 c1 d2
  obtain ⟨y4, z4⟩ : ∃ x, x = b1 ^^^ c2 := ⟨_, rfl⟩
  have k4 : y4 < 4294967296 := by rw [z4]; exact xor_lt l4 l7
  have x4 := xor32 b1 c2 l4 l7
  obtain ⟨b2, p8⟩ : ∃ x, x = rl 7 y4 := ⟨_, rfl⟩
  have f4 := rot_7 y4 k4
  have HE : Hid (qr ⟨a, b, c, d⟩ = ⟨a2, b2, c2, d2⟩) := by
    show _ = _
    rw [p8, z4, p7, p6, z3, p5, p4, z2, p3, p2, z1, p1]
    rfl
  rw [HE.out]
  clear HQ
  rw [← p1] at s1; rw [← z1] at x1; rw [← p2] at f1; rw [← p3] at s2; rw [← z2] at x2; rw [← p4] at f2; rw [← p5] at s3; rw [← z3] at x3; rw [← p6] at f3; rw [← p7] at s4; rw [← z4] at x4; rw [← p8] at f4
  clear p1 p2 p3 p4 p5 p6 p7 p8 z1 z2 z3 z4 k1 k2 k3 k4 l1 l2 l3 l4 l5 l6 l7 ha hb hc hd
  go_enter Tryd.func75, Tryd.ntmps75
  go_wp2_with (go_at_call 80; (first | (with_reducible refine (f1 _).mono ?_) | (with_reducible refine (f2 _).mono ?_) | (with_reducible refine (f3 _).mono ?_) | (with_reducible refine (f4 _).mono ?_)); rintro e w1 ⟨rfl, rfl⟩)
  exact bodyPost_ret (v := .tuple #[.int .u32 a2, .int .u32 b2, .int .u32 c2, .int .u32 d2]) (by simp [results, Tryd.results75, go_sem]) rfl ⟨rfl, rfl⟩
end Go.Proofs.YtmbckgfpkmnlnabDoor.cha
