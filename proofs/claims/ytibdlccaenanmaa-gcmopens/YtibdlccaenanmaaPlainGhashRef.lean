/-
  PLAIN MATHEMATICS OF products of coefficients: all of them, and then less the polynomial, from the top on. No program is named here.
-/
import Derived.Test.YtibdlccaenanmaaPlainGhashText
namespace Go.Proofs.Ytibdlccaenanmaa.ghs
open Go.Proofs.Ytibdlccaenanmaa.gal (Lin)

/-- A place set. -/
def upF (f : Nat → Nat) (j v : Nat) : Nat → Nat := fun i => if i = j then v else f i
theorem upF_same (f : Nat → Nat) (j v : Nat) : upF f j v j = v := if_pos rfl
theorem upF_other (f : Nat → Nat) {i j : Nat} (v : Nat) (h : i ≠ j) : upF f j v i = f i := if_neg h
theorem mkl_set (n : Nat) (f : Nat → Nat) (j v : Nat) : (mkl n f).set j v = mkl n (upF f j v) := by
  refine tx_ext (by rw [List.length_set, mkl_length, mkl_length]) fun i hi => ?_
  rw [List.length_set, mkl_length] at hi
  rw [getD_set _ _ _ _ (by rw [mkl_length]; exact hi), mkl_get _ _ _ hi, mkl_get _ _ _ hi]
  unfold upF
  by_cases c : j = i
  · rw [if_pos c, if_pos c.symm]
  · rw [if_neg c, if_neg (Ne.symm c)]
def Bits (f : Nat → Nat) : Prop := ∀ j, f j < 2
theorem Bits.flip {f : Nat → Nat} (h : Bits f) (j u : Nat) (hu : u < 2) : Bits (upF f j (f j ^^^ u)) := fun i => by
  unfold upF
  split
  · exact Nat.xor_lt_two_pow (n := 1) (h j) hu
  · exact h i
/-- x to the power of j. -/
def X (j : Nat) : Nat := xts one j
/-- What coefficients stand for. -/
def val (f : Nat → Nat) : Nat → Nat
  | 0 => 0
  | n + 1 => val f n ^^^ X n * f n
theorem val_congr {f g : Nat → Nat} : ∀ n, (∀ j, j < n → f j = g j) → val f n = val g n
  | 0, _ => rfl
  | n + 1, h => by show val f n ^^^ X n * f n = val g n ^^^ X n * g n; rw [val_congr n (fun j hj => h j (by omega)), h n (by omega)]
theorem mul_bit_xor (x a b : Nat) (ha : a < 2) (hb : b < 2) : x * (a ^^^ b) = x * a ^^^ x * b := by
  rcases (by omega : a = 0 ∨ a = 1) with rfl | rfl <;> rcases (by omega : b = 0 ∨ b = 1) with rfl | rfl <;> simp
theorem val_flip {f : Nat → Nat} (h : Bits f) (j u : Nat) (hu : u < 2) : ∀ n, j < n → val (upF f j (f j ^^^ u)) n = val f n ^^^ X j * u
  | n + 1, hj => by
    show val (upF f j (f j ^^^ u)) n ^^^ X n * upF f j (f j ^^^ u) n = (val f n ^^^ X n * f n) ^^^ X j * u
    by_cases c : n = j
    · subst c
      rw [upF_same, val_congr (g := f) n (fun i hi => upF_other f _ (by omega)), mul_bit_xor _ _ _ (h n) hu, Nat.xor_assoc]
    · rw [upF_other f _ c, val_flip h j u hu n (by omega), Nat.xor_assoc, Nat.xor_assoc, Nat.xor_comm (X j * u)]
/-! ### All products -/
/-- Row i, its first k. -/
def rowF (f : Nat → Nat) (i : Nat) (y : Nat → Nat) : Nat → Nat → Nat
  | 0 => f
  | k + 1 => upF (rowF f i y k) (i + k) (rowF f i y k (i + k) ^^^ y k)
def prodF (x y : Nat → Nat) : Nat → Nat → Nat
  | 0 => fun _ => 0
  | i + 1 => if x i = 0 then prodF x y i else rowF (prodF x y i) i y 128
theorem rowF_bits {f : Nat → Nat} (h : Bits f) (i : Nat) {y : Nat → Nat} (hy : Bits y) : ∀ k, Bits (rowF f i y k)
  | 0 => h
  | k + 1 => (rowF_bits h i hy k).flip _ _ (hy k)
theorem prodF_bits (x : Nat → Nat) {y : Nat → Nat} (hy : Bits y) : ∀ i, Bits (prodF x y i)
  | 0 => fun _ => by show 0 < 2; decide
  | i + 1 => by
    unfold prodF
    split
    · exact prodF_bits x hy i
    · exact rowF_bits (prodF_bits x hy i) i hy 128
theorem xts_xor (a b i : Nat) : xts (a ^^^ b) i = xts a i ^^^ xts b i := xts_lin i a b
theorem shift_xor (a b i : Nat) : (a ^^^ b) * 2 ^ i = a * 2 ^ i ^^^ b * 2 ^ i := Lin.shift i a b
theorem xts_mul_bit (a u i : Nat) (hu : u < 2) : xts (a * u) i = xts a i * u := by
  rcases (by omega : u = 0 ∨ u = 1) with rfl | rfl
  · rw [Nat.mul_zero, Nat.mul_zero]; exact (xts_lin i).zero
  · rw [Nat.mul_one, Nat.mul_one]
theorem X_add (i k : Nat) : X (i + k) = xts (X k) i := by unfold X; rw [xts_add, Nat.add_comm]
theorem row_val {f : Nat → Nat} (h : Bits f) (i : Nat) (hi : i < 128) {y : Nat → Nat} (hy : Bits y) : ∀ k, k ≤ 128 → val (rowF f i y k) 255 = val f 255 ^^^ xts (val y k) i
  | 0, _ => by
    show val f 255 = val f 255 ^^^ xts 0 i
    rw [(xts_lin i).zero, Nat.xor_zero]
  | k + 1, hk => by
    show val (upF (rowF f i y k) (i + k) (rowF f i y k (i + k) ^^^ y k)) 255 = val f 255 ^^^ xts (val y k ^^^ X k * y k) i
    rw [val_flip (rowF_bits h i hy k) _ _ (hy k) 255 (by omega), row_val h i hi hy k (by omega), xts_xor, xts_mul_bit _ _ _ (hy k), X_add, Nat.xor_assoc]
theorem prod_val {A : Nat} {x y : Nat → Nat} (hx : ∀ i, i < 128 → x i = A / 2 ^ (127 - i) % 2) (hy : Bits y) : ∀ i, i ≤ 128 → val (prodF x y i) 255 = acc A (val y 128) i
  | 0, _ => by
    show val (fun _ => 0) 255 = 0
    have : ∀ n, val (fun _ => 0) n = 0 := by
      intro n
      induction n with
      | zero => rfl
      | succ n ih => show val (fun _ => 0) n ^^^ X n * 0 = 0; rw [ih, Nat.mul_zero]; rfl
    exact this 255
  | i + 1, hi => by
    show val (if x i = 0 then prodF x y i else rowF (prodF x y i) i y 128) 255 = acc A (val y 128) i ^^^ xts (val y 128) i * (A / 2 ^ (127 - i) % 2)
    rw [← hx i (by omega)]
    have hx2 : x i < 2 := by rw [hx i (by omega)]; exact Nat.mod_lt _ (by decide)
    by_cases c : x i = 0
    · rw [if_pos c, c, Nat.mul_zero, Nat.xor_zero, prod_val hx hy i (by omega)]
    · rw [if_neg c, show x i = 1 from by omega, Nat.mul_one, row_val (prodF_bits x hy i) i (by omega) hy 128 (by omega), prod_val hx hy i (by omega)]
/-! ### Less the polynomial -/
def tp (m : Nat) : Nat := [0, 1, 2, 7].getD m 0
def flF (f : Nat → Nat) (i : Nat) : Nat → Nat → Nat
  | 0 => f
  | m + 1 => upF (flF f i m) (i - 128 + tp m) (flF f i m (i - 128 + tp m) ^^^ 1)
/-- k times, from 254 on. -/
def redF (f : Nat → Nat) : Nat → Nat → Nat
  | 0 => f
  | k + 1 => if redF f k (254 - k) = 1 then flF (redF f k) (254 - k) 4 else redF f k
theorem flF_bits {f : Nat → Nat} (h : Bits f) (i : Nat) : ∀ m, Bits (flF f i m)
  | 0 => h
  | m + 1 => (flF_bits h i m).flip _ _ (by decide)
theorem redF_bits {f : Nat → Nat} (h : Bits f) : ∀ k, Bits (redF f k)
  | 0 => h
  | k + 1 => by
    unfold redF
    split
    · exact flF_bits (redF_bits h k) _ 4
    · exact redF_bits h k
theorem X_128 : X 128 = ((X 0 ^^^ X 1) ^^^ X 2) ^^^ X 7 := by decide +kernel
theorem X_cut (m : Nat) : X (128 + m) = ((X m ^^^ X (m + 1)) ^^^ X (m + 2)) ^^^ X (m + 7) := by
  rw [Nat.add_comm, X_add, X_128, xts_xor, xts_xor, xts_xor, ← X_add, ← X_add, ← X_add, ← X_add, Nat.add_zero]
theorem flF_val {f : Nat → Nat} (h : Bits f) (i : Nat) (hi : 128 ≤ i) (hf : f i = 1) : val (flF f i 4) i = val f (i + 1) := by
  have e : val (flF f i 4) i = (((val f i ^^^ X (i - 128 + 0) * 1) ^^^ X (i - 128 + 1) * 1) ^^^ X (i - 128 + 2) * 1) ^^^ X (i - 128 + 7) * 1 := by
    show val (upF (flF f i 3) (i - 128 + 7) (flF f i 3 (i - 128 + 7) ^^^ 1)) i = _
    rw [val_flip (flF_bits h i 3) _ _ (by decide) i (by omega)]
    show val (upF (flF f i 2) (i - 128 + 2) (flF f i 2 (i - 128 + 2) ^^^ 1)) i ^^^ _ = _
    rw [val_flip (flF_bits h i 2) _ _ (by decide) i (by omega)]
    show val (upF (flF f i 1) (i - 128 + 1) (flF f i 1 (i - 128 + 1) ^^^ 1)) i ^^^ _ ^^^ _ = _
    rw [val_flip (flF_bits h i 1) _ _ (by decide) i (by omega)]
    show val (upF f (i - 128 + 0) (f (i - 128 + 0) ^^^ 1)) i ^^^ _ ^^^ _ ^^^ _ = _
    rw [val_flip h _ _ (by decide) i (by omega)]
  rw [e]
  show _ = val f i ^^^ X i * f i
  rw [hf]
  obtain ⟨m, rfl⟩ : ∃ m, i = 128 + m := ⟨i - 128, by omega⟩
  rw [show 128 + m - 128 = m from by omega, Nat.add_zero, Nat.mul_one, Nat.mul_one, Nat.mul_one, Nat.mul_one, Nat.mul_one, X_cut m]
  simp only [Nat.xor_assoc]
theorem red_val {f : Nat → Nat} (h : Bits f) : ∀ k, k ≤ 127 → val (redF f k) (255 - k) = val f 255
  | 0, _ => rfl
  | k + 1, hk => by
    have ih := red_val h k (by omega)
    have hb := redF_bits h k (254 - k)
    rw [← ih, show 255 - k = (254 - k) + 1 from by omega, show 255 - (k + 1) = 254 - k from by omega]
    show val (if redF f k (254 - k) = 1 then flF (redF f k) (254 - k) 4 else redF f k) (254 - k) = _
    by_cases c : redF f k (254 - k) = 1
    · rw [if_pos c, flF_val (redF_bits h k) _ (by omega) c]
    · rw [if_neg c]
      show _ = val (redF f k) (254 - k) ^^^ X (254 - k) * redF f k (254 - k)
      rw [show redF f k (254 - k) = 0 from by omega, Nat.mul_zero, Nat.xor_zero]
/-! ### Bits as numbers -/
def bin (f : Nat → Nat) : Nat → Nat
  | 0 => 0
  | n + 1 => 2 * bin f n + f n
theorem bin_congr {f g : Nat → Nat} : ∀ n, (∀ j, j < n → f j = g j) → bin f n = bin g n
  | 0, _ => rfl
  | n + 1, h => by show 2 * bin f n + f n = 2 * bin g n + g n; rw [bin_congr n (fun j hj => h j (by omega)), h n (by omega)]
theorem bin_lt {f : Nat → Nat} (h : Bits f) : ∀ n, bin f n < 2 ^ n
  | 0 => by show 0 < 1; decide
  | n + 1 => by
    have h1 := bin_lt h n
    have h2 := h n
    show 2 * bin f n + f n < 2 ^ (n + 1)
    rw [Nat.pow_succ]; omega
theorem bin_add (f : Nat → Nat) (m : Nat) : ∀ n, bin f (m + n) = bin f m * 2 ^ n + bin (fun j => f (m + j)) n
  | 0 => by show bin f m = bin f m * 1 + 0; omega
  | n + 1 => by
    show 2 * bin f (m + n) + f (m + n) = bin f m * 2 ^ (n + 1) + (2 * bin (fun j => f (m + j)) n + f (m + n))
    rw [bin_add f m n, Nat.pow_succ, ← Nat.mul_assoc]
    omega
theorem twice_xor (b u : Nat) (hu : u < 2) : 2 * b ^^^ u = 2 * b + u := by
  rcases (by omega : u = 0 ∨ u = 1) with rfl | rfl
  · simp
  · have h := Nat.two_pow_add_eq_or_of_lt (i := 1) (b := 1) (by decide) b
    have h2 : 2 ^ 1 * b ||| 1 = 2 ^ 1 * b ^^^ 1 := by
      apply Nat.eq_of_testBit_eq
      intro i
      rw [Nat.testBit_or, Nat.testBit_xor, Nat.testBit_two_pow_mul]
      by_cases c : 1 ≤ i
      · rw [Nat.testBit_lt_two_pow (x := 1) (Nat.lt_of_lt_of_le (by decide) (Nat.pow_le_pow_right (n := 2) (by decide) c))]; simp
      · simp [c]
    rw [Nat.pow_one] at h h2
    rw [← h2, ← h]
theorem val_bin {f : Nat → Nat} (h : Bits f) : ∀ n, n ≤ 128 → val f n = bin f n * 2 ^ (128 - n)
  | 0, _ => by show 0 = 0 * _; rw [Nat.zero_mul]
  | n + 1, hn => by
    show val f n ^^^ X n * f n = (2 * bin f n + f n) * 2 ^ (128 - (n + 1))
    have e : X n = 2 ^ (128 - (n + 1)) := by unfold X; rw [xts_one n (by omega), show 127 - n = 128 - (n + 1) from by omega]
    rw [val_bin h n (by omega), e, show 128 - n = (128 - (n + 1)) + 1 from by omega, Nat.pow_succ, ← twice_xor _ _ (h n), shift_xor, Nat.mul_comm (2 ^ _) (f n)]
    congr 1
    show bin f n * (2 ^ (128 - (n + 1)) * 2) = 2 * bin f n * 2 ^ (128 - (n + 1))
    rw [Nat.mul_comm 2 (bin f n), Nat.mul_assoc, Nat.mul_comm 2]
/-- The coefficients of a text. -/
def cf (s : ByteArray) (j : Nat) : Nat := tb s (j / 8) / 2 ^ (7 - j % 8) % 2
theorem cf_bits (s : ByteArray) : Bits (cf s) := fun _ => Nat.mod_lt _ (by decide)
theorem cf_bit (s : ByteArray) (j : Nat) (hj : j < 128) : cf s j = bn s / 2 ^ (127 - j) % 2 := by
  unfold cf
  have h1 : tb s (j / 8) = byt (bn s) (j / 8) := (byt_of (tb_lt s) (j / 8) (by omega)).symm
  rw [h1]
  unfold byt
  generalize bn s = A
  have e1 : (256 : Nat) ^ (15 - j / 8) = 2 ^ (8 * (15 - j / 8)) := by rw [Nat.pow_mul]
  have e2 : (256 : Nat) = 2 ^ (7 - j % 8) * 2 ^ (j % 8 + 1) := by rw [← Nat.pow_add, show 7 - j % 8 + (j % 8 + 1) = 8 from by omega]
  rw [e1]
  generalize hB : A / 2 ^ (8 * (15 - j / 8)) = B
  rw [e2, Nat.mod_mul_right_div_self, Nat.mod_mod_of_dvd _ ⟨2 ^ (j % 8), by rw [Nat.pow_succ, Nat.mul_comm]⟩, ← hB, Nat.div_div_eq_div_mul, ← Nat.pow_add, show 8 * (15 - j / 8) + (7 - j % 8) = 127 - j from by omega]
theorem bin_cf (s : ByteArray) : ∀ n, n ≤ 128 → bin (cf s) n = bn s / 2 ^ (128 - n)
  | 0, _ => by
    show 0 = _
    rw [Nat.div_eq_of_lt (bn_lt s)]
  | n + 1, hn => by
    show 2 * bin (cf s) n + cf s n = _
    rw [bin_cf s n (by omega), cf_bit s n (by omega), show 128 - n = (128 - (n + 1)) + 1 from by omega, show 127 - n = 128 - (n + 1) from by omega, Nat.pow_succ, ← Nat.div_div_eq_div_mul]
    generalize bn s / 2 ^ (128 - (n + 1)) = q
    omega
theorem val_cf (s : ByteArray) : val (cf s) 128 = bn s := by
  rw [val_bin (cf_bits s) 128 (by decide), bin_cf s 128 (by decide)]
  show bn s / 1 * 1 = bn s
  omega
/-- THE PRODUCT, BY COEFFICIENTS. -/
def refF (a b : ByteArray) : Nat → Nat := redF (prodF (cf a) (cf b) 128) 127
theorem refF_bits (a b : ByteArray) : Bits (refF a b) := redF_bits (prodF_bits _ (cf_bits b) 128) 127
theorem ref_val (a b : ByteArray) : val (refF a b) 128 = gm (bn a) (bn b) := by
  have h1 := red_val (prodF_bits (cf a) (cf_bits b) 128) 127 (by decide)
  have h2 := prod_val (A := bn a) (cf_bit a) (cf_bits b) 128 (by decide)
  rw [val_cf] at h2
  exact h1.trans h2
/-- Bit by bit, and byte by byte. -/
theorem bin_bytes (f : Nat → Nat) : ∀ n, bin f (8 * n) = bf (fun i => bin (fun j => f (8 * i + j)) 8) n
  | 0 => rfl
  | n + 1 => by
    show bin f (8 * n + 8) = bf (fun i => bin (fun j => f (8 * i + j)) 8) n * 256 + bin (fun j => f (8 * n + j)) 8
    rw [bin_add, bin_bytes f n]
theorem ref_byte (a b : ByteArray) (i : Nat) (hi : i < 16) : bin (fun j => refF a b (8 * i + j)) 8 = byt (gm (bn a) (bn b)) i := by
  have hB := refF_bits a b
  have h1 : gm (bn a) (bn b) = bf (fun i => bin (fun j => refF a b (8 * i + j)) 8) 16 := by
    rw [← ref_val, val_bin hB 128 (by decide), ← bin_bytes]
    exact Nat.mul_one _
  rw [h1, byt_of (fun k => bin_lt (f := fun j => refF a b (8 * k + j)) (fun j => hB _) 8) i hi]
end Go.Proofs.Ytibdlccaenanmaa.ghs
