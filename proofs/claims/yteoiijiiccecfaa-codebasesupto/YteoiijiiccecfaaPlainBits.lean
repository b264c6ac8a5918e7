/-
  PLAIN MATHEMATICS: Base by all bits, six at a time: the same as three bytes at a time.
-/
import Derived.Test.YteoiijiiccecfaaPlainBase
namespace Go.Proofs.Yteoiijiiccecfaa
open Go.RowKit

/-- The first j bits of a byte, as signs 0 and 1, the highest first. -/
def bitsOf (x j : Nat) : List UInt8 := (List.range j).map fun t => UInt8.ofNat (48 + x / 2 ^ (7 - t) % 2)
theorem bitsOf_succ (x j : Nat) : bitsOf x (j + 1) = bitsOf x j ++ [UInt8.ofNat (48 + x / 2 ^ (7 - j) % 2)] := by
  simp [bitsOf, List.range_succ]
def bitsL (l : List UInt8) : List UInt8 := l.flatMap fun c => bitsOf c.toNat 8
theorem bitsL_append (a b : List UInt8) : bitsL (a ++ b) = bitsL a ++ bitsL b := by simp [bitsL]
theorem bitsOf_length (x j : Nat) : (bitsOf x j).length = j := by simp [bitsOf]
theorem bitsL_length (l : List UInt8) : (bitsL l).length = 8 * l.length := by
  induction l with
  | nil => rfl
  | cons c l ih =>
    have : bitsL (c :: l) = bitsOf c.toNat 8 ++ bitsL l := by simp [bitsL]
    rw [this, List.length_append, bitsOf_length, ih, List.length_cons]
    omega
/-- Signs 0 and 1 alone. -/
def zo (l : List UInt8) : Prop := ∀ c ∈ l, c = 48 ∨ c = 49
theorem zo_bitsL (l : List UInt8) : zo (bitsL l) := by
  intro c hc
  simp only [bitsL, List.mem_flatMap, bitsOf, List.mem_map] at hc
  obtain ⟨x, _, t, _, rfl⟩ := hc
  rcases Nat.mod_two_eq_zero_or_one (x.toNat / 2 ^ (7 - t)) with h | h <;> rw [h]
  · exact .inl rfl
  · exact .inr rfl
/-- The number of signs 0 and 1. -/
def num (l : List UInt8) : Nat := l.foldl (fun n c => 2 * n + (c.toNat - 48)) 0
theorem num_snoc (l : List UInt8) (c : UInt8) : num (l ++ [c]) = 2 * num l + (c.toNat - 48) := by simp [num]
theorem num_lt (l : List UInt8) (h : zo l) : num l < 2 ^ l.length := by
  unfold num
  suffices ∀ (n k : Nat), n < 2 ^ k → l.foldl (fun n c => 2 * n + (c.toNat - 48)) n < 2 ^ (k + l.length) by simpa using this 0 0 (by decide)
  induction l with
  | nil => intro n k hn; simpa using hn
  | cons c l ih =>
    intro n k hn
    have hc := h c (by simp)
    have hl : zo l := fun d hd => h d (by simp [hd])
    have h1 : c.toNat - 48 ≤ 1 := by rcases hc with rfl | rfl <;> decide
    have := ih hl (2 * n + (c.toNat - 48)) (k + 1) (by rw [Nat.pow_succ]; omega)
    simp only [List.foldl_cons, List.length_cons]
    rw [show k + (l.length + 1) = k + 1 + l.length from by omega]
    exact this
/-- By six bits; what is left is filled by 0. -/
def sixL : List UInt8 → List UInt8
  | [] => []
  | a :: b :: c :: d :: e :: f :: l => sgn (num [a, b, c, d, e, f]) :: sixL l
  | l => [sgn (num (l ++ List.replicate (6 - l.length) 48))]
theorem sixL_fill (b : List UInt8) (h0 : 0 < b.length) (h6 : b.length < 6) : sixL b = sixL (b ++ List.replicate (6 - b.length) 48) := by
  match b with
  | [] => simp at h0
  | [a] => simp [sixL]
  | [a, b] => simp [sixL]
  | [a, b, c] => simp [sixL]
  | [a, b, c, d] => simp [sixL]
  | [a, b, c, d, e] => simp [sixL]
  | a :: b :: c :: d :: e :: f :: l => simp at h6; omega
theorem sixL_take (b : List UInt8) (h : 6 ≤ b.length) : sixL b = sgn (num (b.take 6)) :: sixL (b.drop 6) := by
  match b with
  | [] => simp at h
  | [a] => simp at h
  | [a, b] => simp at h
  | [a, b, c] => simp at h
  | [a, b, c, d] => simp at h
  | [a, b, c, d, e] => simp at h
  | a :: b :: c :: d :: e :: f :: l => simp [sixL]
/-- Pads up to a multiple of four. -/
def four (l : List UInt8) : List UInt8 := l ++ List.replicate ((4 - l.length % 4) % 4) 61
theorem byte48 (n : Nat) (h : n < 2) : (UInt8.ofNat (48 + n)).toNat - 48 = n := by
  rw [UInt8.toNat_ofNat_of_lt' (by have : UInt8.size = 256 := rfl; omega)]; omega
theorem num6 (a b c d e f : Nat) (ha : a < 2) (hb : b < 2) (hc : c < 2) (hd : d < 2) (he : e < 2) (hf : f < 2) :
    num [UInt8.ofNat (48 + a), UInt8.ofNat (48 + b), UInt8.ofNat (48 + c), UInt8.ofNat (48 + d), UInt8.ofNat (48 + e), UInt8.ofNat (48 + f)] = 32 * a + 16 * b + 8 * c + 4 * d + 2 * e + f := by
  simp only [num, List.foldl_cons, List.foldl_nil, byte48 _ ha, byte48 _ hb, byte48 _ hc, byte48 _ hd, byte48 _ he, byte48 _ hf]
  omega
theorem bits8 (x : Nat) : bitsOf x 8 = [UInt8.ofNat (48 + x / 128 % 2), UInt8.ofNat (48 + x / 64 % 2), UInt8.ofNat (48 + x / 32 % 2), UInt8.ofNat (48 + x / 16 % 2), UInt8.ofNat (48 + x / 8 % 2), UInt8.ofNat (48 + x / 4 % 2), UInt8.ofNat (48 + x / 2 % 2), UInt8.ofNat (48 + x % 2)] := by
  simp [bitsOf, List.range_succ]
theorem four_append (q r : List UInt8) (h : q.length = 4) : four (q ++ r) = q ++ four r := by
  unfold four
  rw [List.append_assoc, List.length_append, h, Nat.add_mod_left]
theorem bit_lt (x : Nat) : x % 2 < 2 := Nat.mod_lt _ (by decide)
theorem zero_sign : (48 : UInt8) = UInt8.ofNat (48 + 0) := rfl
theorem four_base (l : List UInt8) : four (sixL (bitsL l)) = baseL l := by
  match l with
  | [] => rfl
  | [x] =>
    have hx := x.toNat_lt
    have e : bitsL [x] = bitsOf x.toNat 8 := by simp [bitsL]
    rw [e, bits8]
    simp only [sixL, List.length_cons, List.length_nil, List.cons_append, List.nil_append, List.replicate]
    rw [zero_sign, num6 _ _ _ _ _ _ (bit_lt _) (bit_lt _) (bit_lt _) (bit_lt _) (bit_lt _) (bit_lt _), num6 _ _ _ _ _ _ (bit_lt _) (bit_lt _) (by decide) (by decide) (by decide) (by decide)]
    simp only [baseL, four, List.length_cons, List.length_nil]
    rw [show 32 * (x.toNat / 128 % 2) + 16 * (x.toNat / 64 % 2) + 8 * (x.toNat / 32 % 2) + 4 * (x.toNat / 16 % 2) + 2 * (x.toNat / 8 % 2) + x.toNat / 4 % 2 = x.toNat / 4 from by omega,
      show 32 * (x.toNat / 2 % 2) + 16 * (x.toNat % 2) + 8 * 0 + 4 * 0 + 2 * 0 + 0 = x.toNat % 4 * 16 from by omega]
    rfl
  | [x, y] =>
    have hx := x.toNat_lt
    have hy := y.toNat_lt
    have e : bitsL [x, y] = bitsOf x.toNat 8 ++ bitsOf y.toNat 8 := by simp [bitsL]
    rw [e, bits8, bits8]
    simp only [sixL, List.length_cons, List.length_nil, List.cons_append, List.nil_append, List.replicate]
    rw [zero_sign, num6 _ _ _ _ _ _ (bit_lt _) (bit_lt _) (bit_lt _) (bit_lt _) (bit_lt _) (bit_lt _), num6 _ _ _ _ _ _ (bit_lt _) (bit_lt _) (bit_lt _) (bit_lt _) (bit_lt _) (bit_lt _), num6 _ _ _ _ _ _ (bit_lt _) (bit_lt _) (bit_lt _) (bit_lt _) (by decide) (by decide)]
    simp only [baseL, four, List.length_cons, List.length_nil]
    rw [show 32 * (x.toNat / 128 % 2) + 16 * (x.toNat / 64 % 2) + 8 * (x.toNat / 32 % 2) + 4 * (x.toNat / 16 % 2) + 2 * (x.toNat / 8 % 2) + x.toNat / 4 % 2 = x.toNat / 4 from by omega,
      show 32 * (x.toNat / 2 % 2) + 16 * (x.toNat % 2) + 8 * (y.toNat / 128 % 2) + 4 * (y.toNat / 64 % 2) + 2 * (y.toNat / 32 % 2) + y.toNat / 16 % 2 = x.toNat % 4 * 16 + y.toNat / 16 from by omega,
      show 32 * (y.toNat / 8 % 2) + 16 * (y.toNat / 4 % 2) + 8 * (y.toNat / 2 % 2) + 4 * (y.toNat % 2) + 2 * 0 + 0 = y.toNat % 16 * 4 from by omega]
    rfl
  | x :: y :: z :: l =>
    have hx := x.toNat_lt
    have hy := y.toNat_lt
    have hz := z.toNat_lt
    have e : bitsL (x :: y :: z :: l) = bitsOf x.toNat 8 ++ (bitsOf y.toNat 8 ++ (bitsOf z.toNat 8 ++ bitsL l)) := by simp [bitsL]
    have ih := four_base l
    rw [e, bits8, bits8, bits8]
    simp only [List.cons_append, List.nil_append, sixL]
    rw [num6 _ _ _ _ _ _ (bit_lt _) (bit_lt _) (bit_lt _) (bit_lt _) (bit_lt _) (bit_lt _), num6 _ _ _ _ _ _ (bit_lt _) (bit_lt _) (bit_lt _) (bit_lt _) (bit_lt _) (bit_lt _), num6 _ _ _ _ _ _ (bit_lt _) (bit_lt _) (bit_lt _) (bit_lt _) (bit_lt _) (bit_lt _), num6 _ _ _ _ _ _ (bit_lt _) (bit_lt _) (bit_lt _) (bit_lt _) (bit_lt _) (bit_lt _)]
    rw [show 32 * (x.toNat / 128 % 2) + 16 * (x.toNat / 64 % 2) + 8 * (x.toNat / 32 % 2) + 4 * (x.toNat / 16 % 2) + 2 * (x.toNat / 8 % 2) + x.toNat / 4 % 2 = x.toNat / 4 from by omega,
      show 32 * (x.toNat / 2 % 2) + 16 * (x.toNat % 2) + 8 * (y.toNat / 128 % 2) + 4 * (y.toNat / 64 % 2) + 2 * (y.toNat / 32 % 2) + y.toNat / 16 % 2 = x.toNat % 4 * 16 + y.toNat / 16 from by omega,
      show 32 * (y.toNat / 8 % 2) + 16 * (y.toNat / 4 % 2) + 8 * (y.toNat / 2 % 2) + 4 * (y.toNat % 2) + 2 * (z.toNat / 128 % 2) + z.toNat / 64 % 2 = y.toNat % 16 * 4 + z.toNat / 64 from by omega,
      show 32 * (z.toNat / 32 % 2) + 16 * (z.toNat / 16 % 2) + 8 * (z.toNat / 8 % 2) + 4 * (z.toNat / 4 % 2) + 2 * (z.toNat / 2 % 2) + z.toNat % 2 = z.toNat % 64 from by omega]
    show four (quad x.toNat y.toNat z.toNat ++ sixL (bitsL l)) = _
    rw [four_append _ _ rfl, ih]
    rfl
end Go.Proofs.Yteoiijiiccecfaa
