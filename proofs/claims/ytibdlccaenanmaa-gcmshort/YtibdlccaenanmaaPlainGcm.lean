/-
  PLAIN: what a key and a nonce come to, block by block.
-/
import Derived.Test.YtibdlccaenanmaaAesAll
import Derived.Test.YtibdlccaenanmaaPlainGhashSum
namespace Go.Proofs.Ytibdlccaenanmaa.gcm
open Go.RowKit
open Go.Proofs.Ytibdlccaenanmaa.aes (Ok enc zero16 blks enc_length enc_ok blks_length)
open Go.Proofs.Ytibdlccaenanmaa.ghs (tb tb_lt tb_out tb_tx text_ext xo xo_size xo_ok mkl mkl_get mkl_length bt bt_size bn sumN)

def be4 (n : Nat) : List Nat := [n / 16777216 % 256, n / 65536 % 256, n / 256 % 256, n % 256]
theorem be4_ok (n : Nat) : Ok (be4 n) := by
  intro x hx
  simp [be4] at hx
  omega
def blk (nonce : ByteArray) (n : Nat) : List Nat := nb nonce ++ be4 n
theorem blk_length {nonce : ByteArray} (h : nonce.size = 12) (n : Nat) : (blk nonce n).length = 16 := by rw [blk, List.length_append, nb_length, h]; rfl
theorem blk_ok (nonce : ByteArray) (n : Nat) : Ok (blk nonce n) := Ok.append (nb_lt nonce) (be4_ok n)
theorem zero16_ok : Ok zero16 := by unfold Ok; decide
def pl (nonce : ByteArray) : Nat → List Nat
  | 0 => zero16
  | k + 1 => pl nonce k ++ blk nonce (k + 1)
theorem pl_length {nonce : ByteArray} (h : nonce.size = 12) : ∀ k, (pl nonce k).length = 16 * (k + 1)
  | 0 => rfl
  | k + 1 => by rw [pl, List.length_append, pl_length h k, blk_length h]; omega
theorem pl_ok (nonce : ByteArray) : ∀ k, Ok (pl nonce k)
  | 0 => zero16_ok
  | k + 1 => (pl_ok nonce k).append (blk_ok nonce _)
def pb (nonce : ByteArray) : Nat → List Nat
  | 0 => zero16
  | k + 1 => blk nonce (k + 1)
theorem pl_part {nonce : ByteArray} (h : nonce.size = 12) : ∀ k q, q ≤ k → ((pl nonce k).drop (16 * q)).take 16 = pb nonce q
  | 0, q, hq => by
    obtain rfl : q = 0 := by omega
    rfl
  | k + 1, q, hq => by
    rw [pl]
    by_cases e : q ≤ k
    · rw [List.drop_append_of_le_length (by rw [pl_length h]; omega), List.take_append_of_le_length (by rw [List.length_drop, pl_length h]; omega), pl_part h k q e]
    · obtain rfl : q = k + 1 := by omega
      have e1 : (pl nonce k).drop (16 * (k + 1)) = [] := List.drop_of_length_le (by rw [pl_length h]; omega)
      rw [List.drop_append_of_le_length (by rw [pl_length h]; omega), e1, List.nil_append, List.take_of_length_le (by rw [blk_length h]; omega), pb]
def es (E : List Nat) (nonce : ByteArray) : Nat → List Nat
  | 0 => enc E 14 zero16
  | k + 1 => es E nonce k ++ enc E 14 (blk nonce (k + 1))
theorem blks_pl (E : List Nat) {nonce : ByteArray} (h : nonce.size = 12) (J : Nat) : ∀ q, q ≤ J → blks E 14 (pl nonce J) (q + 1) = es E nonce q
  | 0, hq => by rw [blks, pl_part h J 0 hq]; rfl
  | q + 1, hq => by rw [blks, pl_part h J (q + 1) hq, blks_pl E h J q (by omega)]; rfl
def stm (E : List Nat) (nonce : ByteArray) : Nat → List Nat
  | 0 => []
  | k + 1 => stm E nonce k ++ enc E 14 (blk nonce (k + 2))
theorem stm_length (E : List Nat) (nonce : ByteArray) : ∀ k, (stm E nonce k).length = 16 * k
  | 0 => rfl
  | k + 1 => by rw [stm, List.length_append, stm_length E nonce k, enc_length]; omega
theorem stm_ok {E : List Nat} (hE : Ok E) (nonce : ByteArray) : ∀ k, Ok (stm E nonce k)
  | 0 => fun x hx => by cases hx
  | k + 1 => (stm_ok hE nonce k).append (enc_ok _ _ _ hE)
theorem es_stm (E : List Nat) (nonce : ByteArray) : ∀ k, es E nonce (k + 1) = enc E 14 zero16 ++ enc E 14 (blk nonce 1) ++ stm E nonce k
  | 0 => by rw [stm, List.append_nil]; rfl
  | k + 1 => by rw [es, es_stm E nonce k, stm, List.append_assoc]
theorem es_length (E : List Nat) (nonce : ByteArray) : ∀ k, (es E nonce k).length = 16 * (k + 1)
  | 0 => enc_length _ _ _
  | k + 1 => by rw [es, List.length_append, es_length E nonce k, enc_length]; omega
theorem es_ok {E : List Nat} (hE : Ok E) (nonce : ByteArray) : ∀ k, Ok (es E nonce k)
  | 0 => enc_ok _ _ _ hE
  | k + 1 => (es_ok hE nonce k).append (enc_ok _ _ _ hE)
theorem tx_extract (l : List Nat) (a b : Nat) : (tx l).extract a b = tx ((l.drop a).take (b - a)) := by
  apply ByteArray.ext
  rw [ByteArray.data_extract]
  apply Array.toList_inj.1
  simp [tx, List.map_drop, List.map_take, List.extract]
theorem es_first (E : List Nat) (nonce : ByteArray) (k : Nat) : (tx (es E nonce (k + 1))).extract 0 16 = tx (enc E 14 zero16) := by
  rw [tx_extract, es_stm, List.drop_zero, List.append_assoc, List.take_append_of_le_length (by rw [enc_length]; omega), List.take_of_length_le (by rw [enc_length]; omega)]
theorem es_second (E : List Nat) (nonce : ByteArray) (k : Nat) : (tx (es E nonce (k + 1))).extract 16 32 = tx (enc E 14 (blk nonce 1)) := by
  have e : (enc E 14 zero16).drop 16 = [] := List.drop_of_length_le (by rw [enc_length]; omega)
  rw [tx_extract, es_stm, List.append_assoc, List.drop_append_of_le_length (by rw [enc_length]; omega), e, List.nil_append, List.take_append_of_le_length (by rw [enc_length]; omega), List.take_of_length_le (by rw [enc_length]; omega)]
theorem es_third (E : List Nat) (nonce : ByteArray) (k : Nat) : (tx (es E nonce (k + 1))).extract 32 (16 * (k + 2)) = tx (stm E nonce k) := by
  have e : (enc E 14 zero16 ++ enc E 14 (blk nonce 1)).drop 32 = [] := List.drop_of_length_le (by rw [List.length_append, enc_length, enc_length]; omega)
  rw [tx_extract, es_stm, List.drop_append_of_le_length (by rw [List.length_append, enc_length, enc_length]; omega), e, List.nil_append, List.take_of_length_le (by rw [stm_length]; omega)]

/-- What hides a text of n bytes. -/
def K (n : Nat) : Nat := (n + 15) / 16
def mask (E : List Nat) (nonce : ByteArray) (n : Nat) : ByteArray := tx (stm E nonce (K n))
def hide (E : List Nat) (nonce s : ByteArray) : ByteArray := xo s (mask E nonce s.size)
def tagT (E : List Nat) (nonce more s : ByteArray) : ByteArray := xo (bt (sumN (bn (tx (enc E 14 zero16))) more s)) (tx (enc E 14 (blk nonce 1)))
theorem mask_size (E : List Nat) (nonce : ByteArray) (n : Nat) : n ≤ (mask E nonce n).size := by rw [mask, tx_size, stm_length, K]; omega
theorem hide_size (E : List Nat) (nonce s : ByteArray) : (hide E nonce s).size = s.size := xo_size _ _
theorem tagT_size (E : List Nat) (nonce more s : ByteArray) : (tagT E nonce more s).size = 16 := by rw [tagT, xo_size, bt_size]
theorem tb_xo' (s t : ByteArray) (j : Nat) (h : j < s.size) : tb (xo s t) j = tb s j ^^^ tb t j := by
  unfold xo
  rw [tb_tx _ (xo_ok s t), mkl_get _ _ j h]
theorem xo_twice (s t : ByteArray) : xo (xo s t) t = s := text_ext (by rw [xo_size, xo_size]) fun j hj => by
  rw [xo_size, xo_size] at hj
  rw [tb_xo' _ _ j (by rw [xo_size]; exact hj), tb_xo' s t j hj, Nat.xor_assoc, Nat.xor_self, Nat.xor_zero]
theorem hide_twice (E : List Nat) (nonce s : ByteArray) : hide E nonce (hide E nonce s) = s := by
  show xo (hide E nonce s) (mask E nonce (hide E nonce s).size) = s
  rw [hide_size]
  exact xo_twice _ _
end Go.Proofs.Ytibdlccaenanmaa.gcm
