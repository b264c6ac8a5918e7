/-
  PLAIN MATHEMATICS OF blocks of 16 bytes as numbers, the highest byte first. No program is named here.
-/
import Derived.Test.YtmbckgfpkmnlnabDoorPlainGhash
import Derived.Test.YtmbckgfpkmnlnabDoorRow
import Derived.PlainAid
namespace Go.Proofs.YtmbckgfpkmnlnabDoor.ghs
open Go.Proofs.YtmbckgfpkmnlnabDoor.gal (Lin)

/-- The number of n bytes. -/
def bf (f : Nat → Nat) : Nat → Nat
  | 0 => 0
  | k + 1 => bf f k * 256 + f k
theorem bf_lt {f : Nat → Nat} (h : ∀ j, f j < 256) : ∀ k, bf f k < 256 ^ k
  | 0 => by show 0 < 1; decide
  | k + 1 => by
    have := bf_lt h k
    have h2 := h k
    show bf f k * 256 + f k < 256 ^ (k + 1)
    rw [Nat.pow_succ]
    omega
theorem bf_congr {f g : Nat → Nat} : ∀ k, (∀ j, j < k → f j = g j) → bf f k = bf g k
  | 0, _ => rfl
  | k + 1, h => by show bf f k * 256 + f k = bf g k * 256 + g k; rw [bf_congr k (fun j hj => h j (by omega)), h k (by omega)]
theorem bf_add (f : Nat → Nat) (m : Nat) : ∀ n, bf f (m + n) = bf f m * 256 ^ n + bf (fun j => f (m + j)) n
  | 0 => by show bf f m = bf f m * 1 + 0; omega
  | n + 1 => by
    show bf f (m + n) * 256 + f (m + n) = bf f m * 256 ^ (n + 1) + (bf (fun j => f (m + j)) n * 256 + f (m + n))
    rw [bf_add f m n, Nat.pow_succ, Nat.add_mul, Nat.mul_assoc]
    omega
theorem bf_16 (f : Nat → Nat) : bf f 16 = bf f 8 * 2 ^ 64 + bf (fun j => f (8 + j)) 8 := bf_add f 8 8
theorem or8 (n b : Nat) (h : b < 256) : n * 256 ||| b = n * 256 + b := by
  have := Nat.two_pow_add_eq_or_of_lt (i := 8) h n
  rw [show 2 ^ 8 * n = n * 256 from by omega] at this
  exact this.symm
/-- The bytes of a number. -/
def byt (a j : Nat) : Nat := a / 256 ^ (15 - j) % 256
def bys (a : Nat) : List Nat := (List.range 16).map (byt a)
theorem bys_length (a : Nat) : (bys a).length = 16 := by simp [bys]
theorem byt_lt (a j : Nat) : byt a j < 256 := Nat.mod_lt _ (by decide)
theorem bys_ok (a : Nat) : ∀ x ∈ bys a, x < 256 := by
  intro x hx
  obtain ⟨j, _, rfl⟩ := List.mem_map.1 hx
  exact byt_lt a j
theorem bys_get (a j : Nat) (h : j < 16) : (bys a).getD j 0 = byt a j := by
  simp [bys, h]
theorem bf_byt (a : Nat) : ∀ k, k ≤ 16 → bf (byt a) k = a % 256 ^ 16 / 256 ^ (16 - k)
  | 0, _ => by
    show 0 = _
    rw [Nat.div_eq_of_lt (Nat.mod_lt _ (by decide))]
  | k + 1, h => by
    show bf (byt a) k * 256 + byt a k = _
    rw [bf_byt a k (by omega)]
    unfold byt
    have e : 16 - k = (16 - (k + 1)) + 1 := by omega
    have e2 : 15 - k = 16 - (k + 1) := by omega
    have e3 : (256 : Nat) ^ 16 = 256 ^ (16 - (k + 1)) * 256 ^ (k + 1) := by rw [← Nat.pow_add, show 16 - (k + 1) + (k + 1) = 16 from by omega]
    rw [e, e2, Nat.pow_succ 256 (16 - (k + 1)), ← Nat.div_div_eq_div_mul]
    have h1 : a % 256 ^ 16 / 256 ^ (16 - (k + 1)) % 256 = a / 256 ^ (16 - (k + 1)) % 256 := by
      rw [e3, Nat.mod_mul_right_div_self]
      exact Nat.mod_mod_of_dvd _ ⟨256 ^ k, by rw [Nat.pow_succ, Nat.mul_comm]⟩
    rw [← h1]
    generalize a % 256 ^ 16 / 256 ^ (16 - (k + 1)) = x
    omega
theorem bf_bys {a : Nat} (h : a < 2 ^ 128) : bf (byt a) 16 = a := by
  rw [bf_byt a 16 (by decide)]
  show a % 256 ^ 16 / 1 = a
  rw [Nat.div_one]
  exact Nat.mod_eq_of_lt h
theorem byt_bf {f : Nat → Nat} (hf : ∀ j, f j < 256) : ∀ n j, j < n → bf f n / 256 ^ (n - 1 - j) % 256 = f j
  | n + 1, j, h => by
    show (bf f n * 256 + f n) / 256 ^ (n + 1 - 1 - j) % 256 = f j
    have hn := hf n
    by_cases e : j = n
    · subst e
      rw [show j + 1 - 1 - j = 0 from by omega, Nat.pow_zero, Nat.div_one]
      omega
    · rw [show n + 1 - 1 - j = (n - 1 - j) + 1 from by omega, Nat.pow_succ, Nat.mul_comm (256 ^ (n - 1 - j)), ← Nat.div_div_eq_div_mul, show (bf f n * 256 + f n) / 256 = bf f n from by omega]
      exact byt_bf hf n j (by omega)
theorem byt_of {f : Nat → Nat} (hf : ∀ j, f j < 256) (j : Nat) (h : j < 16) : byt (bf f 16) j = f j := byt_bf hf 16 j h
/-- A text's bytes, and 0 behind it. -/
def tb (s : ByteArray) (i : Nat) : Nat := (nb s).getD i 0
theorem tb_lt (s : ByteArray) (i : Nat) : tb s i < 256 := by
  unfold tb
  rw [List.getD_eq_getElem?_getD]
  cases h : (nb s)[i]? with
  | none => decide
  | some x => exact nb_lt s x (List.mem_of_getElem? h)
theorem tb_out (s : ByteArray) (i : Nat) (h : s.size ≤ i) : tb s i = 0 := by
  unfold tb
  rw [List.getD_eq_getElem?_getD, List.getElem?_eq_none (by rw [nb_length]; exact h)]
  rfl
/-- The number of a text's first block. -/
def bn (s : ByteArray) : Nat := bf (tb s) 16
theorem bn_lt (s : ByteArray) : bn s < 2 ^ 128 := bf_lt (tb_lt s) 16
/-- The text of a block. -/
def bt (a : Nat) : ByteArray := tx (bys a)
theorem bt_size (a : Nat) : (bt a).size = 16 := by unfold bt; rw [tx_size, bys_length]
theorem tb_tx (l : List Nat) (h : ∀ x ∈ l, x < 256) (i : Nat) : tb (tx l) i = l.getD i 0 := by unfold tb; rw [nb_tx l h]
theorem tb_bt (a j : Nat) (h : j < 16) : tb (bt a) j = byt a j := by unfold bt; rw [tb_tx _ (bys_ok a), bys_get a j h]
theorem bn_bt {a : Nat} (h : a < 2 ^ 128) : bn (bt a) = a := (bf_congr 16 fun j hj => tb_bt a j hj).trans (bf_bys h)
theorem tx_ext {l m : List Nat} (hl : l.length = m.length) (h : ∀ j, j < l.length → l.getD j 0 = m.getD j 0) : l = m := by
  apply List.ext_getElem hl
  intro j h1 h2
  have := h j h1
  simpa [h1, h2] using this
theorem text_ext {s t : ByteArray} (hs : s.size = t.size) (h : ∀ j, j < s.size → tb s j = tb t j) : s = t := by
  rw [← tx_nb s, ← tx_nb t]
  rw [tx_ext (l := nb s) (m := nb t) (by rw [nb_length, nb_length, hs]) (fun j hj => h j (by rwa [nb_length] at hj))]
theorem bt_bn {s : ByteArray} (h : s.size = 16) : bt (bn s) = s :=
  text_ext (by rw [bt_size, h]) fun j hj => by
    rw [bt_size] at hj
    rw [tb_bt _ _ hj, bn, byt_of (tb_lt s) j hj]
theorem bt_inj {a b : Nat} (ha : a < 2 ^ 128) (hb : b < 2 ^ 128) (h : bt a = bt b) : a = b := by rw [← bn_bt ha, h, bn_bt hb]
theorem bn_inj {s t : ByteArray} (hs : s.size = 16) (ht : t.size = 16) (h : bn s = bn t) : s = t := by rw [← bt_bn hs, h, bt_bn ht]
/-- Bytes xored. -/
theorem byt_xor (a b j : Nat) : byt (a ^^^ b) j = byt a j ^^^ byt b j := by
  unfold byt
  have h1 := Lin.div (8 * (15 - j)) a b
  have h2 := Lin.mod 8 (a / 256 ^ (15 - j)) (b / 256 ^ (15 - j))
  have e : (256 : Nat) ^ (15 - j) = 2 ^ (8 * (15 - j)) := by rw [Nat.pow_mul]
  rw [e] at h2 ⊢
  exact (congrArg (· % 2 ^ 8) h1).trans h2
theorem bf_xor {f g : Nat → Nat} (hf : ∀ j, f j < 256) (hg : ∀ j, g j < 256) : ∀ k, bf (fun j => f j ^^^ g j) k = bf f k ^^^ bf g k
  | 0 => (Nat.xor_self 0).symm
  | k + 1 => by
    show bf (fun j => f j ^^^ g j) k * 256 + (f k ^^^ g k) = (bf f k * 256 + f k) ^^^ (bf g k * 256 + g k)
    have hx : f k ^^^ g k < 2 ^ 8 := Nat.xor_lt_two_pow (hf k) (hg k)
    rw [bf_xor hf hg k, ← or8 _ _ hx, ← or8 _ _ (hf k), ← or8 _ _ (hg k)]
    have e : ∀ n b, b < 256 → n * 256 ||| b = n * 256 ^^^ b := fun n b hb => by
      apply Nat.eq_of_testBit_eq
      intro i
      rw [Nat.testBit_or, Nat.testBit_xor, show n * 256 = 2 ^ 8 * n from by omega, Nat.testBit_two_pow_mul]
      by_cases c : 8 ≤ i
      · rw [Nat.testBit_lt_two_pow (x := b) (Nat.lt_of_lt_of_le hb (Nat.pow_le_pow_right (n := 2) (by decide) c))]; simp
      · simp [c]
    rw [e _ _ hx, e _ _ (hf k), e _ _ (hg k), gal.xor_swap, ← (Lin.shift 8) (bf f k) (bf g k)]

/-! ### Lists that are set one by one, and texts xored -/
theorem getD_set (l : List Nat) (i j x : Nat) (hj : j < l.length) : (l.set i x).getD j 0 = if i = j then x else l.getD j 0 := by
  rw [List.getD_eq_getElem?_getD, List.getElem?_set]
  by_cases c : i = j
  · subst c; rw [if_pos rfl, if_pos rfl, if_pos hj]; rfl
  · rw [if_neg c, if_neg c, ← List.getD_eq_getElem?_getD]
def mkl (n : Nat) (f : Nat → Nat) : List Nat := (List.range n).map f
theorem mkl_length (n : Nat) (f : Nat → Nat) : (mkl n f).length = n := by simp [mkl]
theorem mkl_get (n : Nat) (f : Nat → Nat) (j : Nat) (h : j < n) : (mkl n f).getD j 0 = f j := by simp [mkl, h]
theorem mkl_succ (n : Nat) (f : Nat → Nat) : mkl (n + 1) f = mkl n f ++ [f n] := by simp [mkl, List.range_succ]
theorem mkl_congr {n : Nat} {f g : Nat → Nat} (h : ∀ j, j < n → f j = g j) : mkl n f = mkl n g :=
  tx_ext (by rw [mkl_length, mkl_length]) fun j hj => by rw [mkl_length] at hj; rw [mkl_get _ _ _ hj, mkl_get _ _ _ hj, h j hj]
def upl (l : List Nat) (f : Nat → Nat) : Nat → List Nat
  | 0 => l
  | k + 1 => (upl l f k).set k (f k)
theorem upl_length (l : List Nat) (f : Nat → Nat) : ∀ k, (upl l f k).length = l.length
  | 0 => rfl
  | k + 1 => by show ((upl l f k).set k _).length = _; rw [List.length_set, upl_length l f k]
theorem upl_get (l : List Nat) (f : Nat → Nat) : ∀ k j, j < k → j < l.length → (upl l f k).getD j 0 = f j
  | k + 1, j, hj, hl => by
    show ((upl l f k).set k (f k)).getD j 0 = _
    rw [getD_set _ _ _ _ (by rw [upl_length]; exact hl)]
    by_cases c : k = j
    · rw [if_pos c, c]
    · rw [if_neg c]; exact upl_get l f k j (by omega) hl
theorem upl_all (l : List Nat) (f : Nat → Nat) (n : Nat) (h : l.length = n) : upl l f n = mkl n f :=
  tx_ext (by rw [upl_length, mkl_length, h]) fun j hj => by
    rw [upl_length] at hj
    rw [upl_get l f n j (by omega) hj, mkl_get n f j (by omega)]
/-- Two texts of one size, xored. -/
def xo (s t : ByteArray) : ByteArray := tx (mkl s.size fun j => tb s j ^^^ tb t j)
theorem xo_ok (s t : ByteArray) : ∀ x ∈ mkl s.size (fun j => tb s j ^^^ tb t j), x < 256 := by
  intro x hx
  obtain ⟨j, _, rfl⟩ := List.mem_map.1 hx
  exact Nat.xor_lt_two_pow (n := 8) (tb_lt s j) (tb_lt t j)
theorem xo_size (s t : ByteArray) : (xo s t).size = s.size := by unfold xo; rw [tx_size, mkl_length]
theorem tb_xo {s t : ByteArray} (h : t.size = s.size) (j : Nat) : tb (xo s t) j = tb s j ^^^ tb t j := by
  by_cases c : j < s.size
  · unfold xo; rw [tb_tx _ (xo_ok s t), mkl_get _ _ _ c]
  · rw [tb_out _ _ (by rw [xo_size]; omega), tb_out s _ (by omega), tb_out t _ (by omega)]; rfl
theorem bn_xo {s t : ByteArray} (h : t.size = s.size) : bn (xo s t) = bn s ^^^ bn t := by
  unfold bn
  rw [← bf_xor (tb_lt s) (tb_lt t), bf_congr 16 fun j _ => tb_xo h j]
theorem xo_bt (a b : Nat) : xo (bt a) (bt b) = bt (a ^^^ b) :=
  text_ext (by rw [xo_size, bt_size, bt_size]) fun j hj => by
    rw [xo_size, bt_size] at hj
    rw [tb_xo (by rw [bt_size, bt_size]), tb_bt _ _ hj, tb_bt _ _ hj, tb_bt _ _ hj, byt_xor]
theorem bt_nb (s : ByteArray) (k : Nat) (h : k < s.size) : PlainAid.bt s k = ((tb s k : Nat) : Int) := by
  have h1 : k < s.data.toList.length := by simpa using h
  unfold tb
  rw [← PlainAid.get_bt s k h, nb, List.getD_eq_getElem?_getD, List.getElem?_map, List.getElem?_eq_getElem h1]
  simp
  rfl
end Go.Proofs.YtmbckgfpkmnlnabDoor.ghs
