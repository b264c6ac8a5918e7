/-
  PLAIN MATHEMATICS OF blocks of 128 bits as polynomials over two elements, modulo x^128 + x^7 + x^2 + x + 1: the highest bit is what stands at 1. No program is named here.
-/
import Derived.Test.YtmbckgfpkmnlnabDoorPlainGaloisLaws
namespace Go.Proofs.YtmbckgfpkmnlnabDoor.ghs
open Go.Proofs.YtmbckgfpkmnlnabDoor.gal (Lin bit_xor times_bits xor_swap)

/-- What x^128 leaves. -/
def E1 : Nat := 225 * 2 ^ 120
/-- Times x. -/
def xt (a : Nat) : Nat := a / 2 ^^^ E1 * (a % 2)
def xts (a : Nat) : Nat → Nat
  | 0 => a
  | k + 1 => xt (xts a k)
/-- The product, of k bits of a. -/
def acc (a b : Nat) : Nat → Nat
  | 0 => 0
  | k + 1 => acc a b k ^^^ xts b k * (a / 2 ^ (127 - k) % 2)
def gm (a b : Nat) : Nat := acc a b 128
def one : Nat := 2 ^ 127

theorem Lin.div (k : Nat) : Lin fun a => a / 2 ^ k := fun a b => by
  show (a ^^^ b) / 2 ^ k = a / 2 ^ k ^^^ b / 2 ^ k
  rw [← Nat.shiftRight_eq_div_pow, ← Nat.shiftRight_eq_div_pow, ← Nat.shiftRight_eq_div_pow, Nat.shiftRight_xor_distrib]
theorem Lin.mod (k : Nat) : Lin fun a => a % 2 ^ k := fun _ _ => Nat.xor_mod_two_pow
theorem Lin.mask (m : Nat) : Lin fun a => a &&& m := fun a b => by
  show (a ^^^ b) &&& m = (a &&& m) ^^^ (b &&& m)
  exact Nat.and_xor_distrib_right
theorem xt_lin : Lin xt := by
  have h1 := Lin.div 1
  have h2 := Lin.bit E1 0
  simp only [Nat.pow_one, Nat.pow_zero, Nat.div_one] at h1 h2
  exact h1.xor h2
theorem xts_lin : ∀ k, Lin fun a => xts a k
  | 0 => Lin.id
  | k + 1 => xt_lin.comp (xts_lin k)
theorem acc_left (b : Nat) : ∀ k, Lin fun a => acc a b k
  | 0 => Lin.nought
  | k + 1 => (acc_left b k).xor (Lin.bit _ _)
theorem acc_right (a : Nat) : ∀ k, Lin fun b => acc a b k
  | 0 => Lin.nought
  | k + 1 => (acc_right a k).xor ((xts_lin k).when _ (Nat.mod_lt _ (by decide)))
theorem gm_left (b : Nat) : Lin fun a => gm a b := acc_left b 128
theorem gm_right (a : Nat) : Lin fun b => gm a b := acc_right a 128
theorem gm_zero_right (a : Nat) : gm a 0 = 0 := (gm_right a).zero
theorem gm_zero_left (a : Nat) : gm 0 a = 0 := (gm_left a).zero

theorem E1_lt : E1 < 2 ^ 128 := by decide
theorem bit_mul_lt {x u : Nat} (h : x < 2 ^ 128) (hu : u < 2) : x * u < 2 ^ 128 := by
  rcases (by omega : u = 0 ∨ u = 1) with rfl | rfl <;> omega
theorem xor_lt {a b : Nat} (ha : a < 2 ^ 128) (hb : b < 2 ^ 128) : a ^^^ b < 2 ^ 128 := Nat.xor_lt_two_pow ha hb
theorem xt_lt {a : Nat} (h : a < 2 ^ 128) : xt a < 2 ^ 128 := xor_lt (by omega) (bit_mul_lt E1_lt (Nat.mod_lt _ (by decide)))
theorem xts_lt {a : Nat} (h : a < 2 ^ 128) : ∀ k, xts a k < 2 ^ 128
  | 0 => h
  | k + 1 => xt_lt (xts_lt h k)
theorem acc_lt (a : Nat) {b : Nat} (h : b < 2 ^ 128) : ∀ k, acc a b k < 2 ^ 128
  | 0 => by show 0 < 2 ^ 128; decide
  | k + 1 => xor_lt (acc_lt a h k) (bit_mul_lt (xts_lt h k) (Nat.mod_lt _ (by decide)))
theorem gm_lt (a : Nat) {b : Nat} (h : b < 2 ^ 128) : gm a b < 2 ^ 128 := acc_lt a h 128
theorem one_lt : one < 2 ^ 128 := by decide

/-! ### Products by powers of x -/
theorem xts_xt (b : Nat) : ∀ k, xts (xt b) k = xt (xts b k)
  | 0 => rfl
  | k + 1 => by show xt (xts (xt b) k) = xt (xt (xts b k)); rw [xts_xt b k]
theorem xts_add (a i : Nat) : ∀ k, xts (xts a i) k = xts a (i + k)
  | 0 => rfl
  | k + 1 => by show xt (xts (xts a i) k) = xt (xts a (i + k)); rw [xts_add a i k]
theorem acc_xt (a b : Nat) : ∀ k, acc a (xt b) k = xt (acc a b k)
  | 0 => by show 0 = xt 0; decide
  | k + 1 => by
    show acc a (xt b) k ^^^ xts (xt b) k * (a / 2 ^ (127 - k) % 2) = xt (acc a b k ^^^ xts b k * (a / 2 ^ (127 - k) % 2))
    rw [acc_xt a b k, xts_xt, xt_lin]
    congr 1
    rcases (by omega : a / 2 ^ (127 - k) % 2 = 0 ∨ a / 2 ^ (127 - k) % 2 = 1) with e | e <;> rw [e]
    · rw [Nat.mul_zero, Nat.mul_zero]; decide
    · rw [Nat.mul_one, Nat.mul_one]
theorem gm_xt (a b : Nat) : gm a (xt b) = xt (gm a b) := acc_xt a b 128
theorem gm_xts (a b : Nat) : ∀ k, gm a (xts b k) = xts (gm a b) k
  | 0 => rfl
  | k + 1 => by show gm a (xt (xts b k)) = xt (xts (gm a b) k); rw [gm_xt, gm_xts a b k]
theorem pow_bit (i k : Nat) : 2 ^ i / 2 ^ k % 2 = if k = i then 1 else 0 := by
  have h := Nat.testBit_two_pow (n := i) (m := k)
  rw [Nat.testBit_eq_decide_div_mod_eq] at h
  have h2 : 2 ^ i / 2 ^ k % 2 < 2 := Nat.mod_lt _ (by decide)
  by_cases e : k = i
  · rw [if_pos e]
    subst e
    simpa using h
  · rw [if_neg e]
    have : ¬ i = k := fun h => e h.symm
    simp [this] at h
    omega
theorem acc_pow (b i : Nat) (hi : i < 128) : ∀ k, k ≤ 128 → acc (2 ^ (127 - i)) b k = if i < k then xts b i else 0
  | 0, _ => by rw [if_neg (by omega)]; rfl
  | k + 1, hk => by
    show acc (2 ^ (127 - i)) b k ^^^ xts b k * (2 ^ (127 - i) / 2 ^ (127 - k) % 2) = _
    rw [acc_pow b i hi k (by omega), pow_bit]
    by_cases e : k = i
    · subst e
      rw [if_neg (by omega), if_pos rfl, if_pos (by omega), Nat.mul_one, Nat.zero_xor]
    · rw [if_neg (show ¬ 127 - k = 127 - i from by omega), Nat.mul_zero, Nat.xor_zero]
      by_cases c : i < k
      · rw [if_pos c, if_pos (by omega)]
      · rw [if_neg c, if_neg (by omega)]
theorem gm_pow (b i : Nat) (hi : i < 128) : gm (2 ^ (127 - i)) b = xts b i := by
  show acc (2 ^ (127 - i)) b 128 = _
  rw [acc_pow b i hi 128 (by omega), if_pos hi]
theorem xts_one : ∀ k, k < 128 → xts one k = 2 ^ (127 - k)
  | 0, _ => rfl
  | k + 1, h => by
    show xt (xts one k) = _
    rw [xts_one k (by omega)]
    unfold xt
    have e : 2 ^ (127 - k) = 2 * 2 ^ (127 - (k + 1)) := by
      rw [show 127 - k = (127 - (k + 1)) + 1 from by omega, Nat.pow_succ]; omega
    rw [e]
    generalize 2 ^ (127 - (k + 1)) = q
    rw [show 2 * q / 2 = q from by omega, show 2 * q % 2 = 0 from by omega, Nat.mul_zero, Nat.xor_zero]

/-! ### A ring -/
theorem lt_pow {i : Nat} (hi : i < 128) : 2 ^ i < 2 ^ 128 := Nat.pow_lt_pow_right (by decide) hi
theorem gm_pows (i j : Nat) (hi : i < 128) (hj : j < 128) : gm (2 ^ (127 - i)) (2 ^ (127 - j)) = xts one (j + i) := by
  rw [gm_pow _ i hi, ← xts_one j hj, xts_add]
theorem gm_comm {a b : Nat} (ha : a < 2 ^ 128) (hb : b < 2 ^ 128) : gm a b = gm b a := by
  refine Lin.ext (gm_left b) (gm_right b) 128 (fun i hi => ?_) a ha
  refine Lin.ext (gm_right (2 ^ i)) (gm_left (2 ^ i)) 128 (fun j hj => ?_) b hb
  have e1 : i = 127 - (127 - i) := by omega
  have e2 : j = 127 - (127 - j) := by omega
  rw [e1, e2, gm_pows _ _ (by omega) (by omega), gm_pows _ _ (by omega) (by omega), Nat.add_comm]
theorem gm_assoc {a b c : Nat} (ha : a < 2 ^ 128) (hb : b < 2 ^ 128) (hc : c < 2 ^ 128) : gm (gm a b) c = gm a (gm b c) := by
  refine Lin.ext ((gm_left c).comp (gm_left b)) (gm_left (gm b c)) 128 (fun i hi => ?_) a ha
  have e1 : i = 127 - (127 - i) := by omega
  show gm (gm (2 ^ i) b) c = gm (2 ^ i) (gm b c)
  rw [e1, gm_pow _ _ (by omega), gm_pow _ _ (by omega), gm_comm (xts_lt hb _) hc, gm_xts, gm_comm hc hb]
theorem one_gm (b : Nat) : gm one b = b := gm_pow b 0 (by decide)
theorem gm_one {a : Nat} (ha : a < 2 ^ 128) : gm a one = a := by rw [gm_comm ha one_lt, one_gm]
theorem gm_dist (a b c : Nat) : gm a (b ^^^ c) = gm a b ^^^ gm a c := gm_right a b c
theorem gm_dist' (a b c : Nat) : gm (a ^^^ b) c = gm a c ^^^ gm b c := gm_left c a b
end Go.Proofs.YtmbckgfpkmnlnabDoor.ghs
