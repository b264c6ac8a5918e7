/-
  WHAT the document's own Encrypt and Decrypt share: texts of columns.
-/
import Derived.Test.YtibdlccaenanmaaRefAesOf
namespace Go.Proofs.Ytibdlccaenanmaa.aes
open Go.RowKit
open Go.Proofs.Ytibdlccaenanmaa.gal

theorem tx_extract (l : List Nat) (lo hi : Nat) : (tx l).extract lo hi = tx ((l.drop lo).take (hi - lo)) := by
  apply ByteArray.ext
  rw [ByteArray.data_extract]
  apply Array.ext'
  simp only [tx, Array.toList_extract, List.map_take, List.map_drop, List.extract_eq_take_drop]
theorem tx_one (l : List Nat) (r : Nat) (h : r < l.length) : (tx l).extract r (r + 1) = tx [l.getD r 0] := by
  rw [tx_extract, show r + 1 - r = 1 from by omega]
  congr 1
  refine ext_get (by rw [List.length_take, List.length_drop]; simp; omega) fun k hk => ?_
  rw [List.length_take, List.length_drop] at hk
  obtain rfl : k = 0 := by omega
  rw [List.getD_eq_getElem?_getD, List.getElem?_take, if_pos (by decide), List.getElem?_drop, Nat.add_zero, ← List.getD_eq_getElem?_getD]
  rfl
theorem tx_col (l : List Nat) (c : Nat) (hl : l.length = 16) (hc : c < 4) : (tx l).extract (4 * c) (4 * c + 4) = tx (colN l c) := by
  rw [tx_extract, show 4 * c + 4 - 4 * c = 4 from by omega]
  congr 1
  refine ext_get (by rw [List.length_take, List.length_drop, colN, mk_length]; omega) fun k hk => ?_
  rw [List.length_take, List.length_drop] at hk
  rw [colN, mk_get _ _ _ (by omega), List.getD_eq_getElem?_getD, List.getElem?_take, if_pos (by omega), List.getElem?_drop, ← List.getD_eq_getElem?_getD]
theorem tx_more (l : List Nat) (k : Nat) (h : k < l.length) : tx (l.take k) ++ tx [l.getD k 0] = tx (l.take (k + 1)) := by
  rw [tx_append, take_more l k h]
theorem mulB (a b : Nat) (ha : a < 256) (hb : b < 256) (w : World) : Calls Try.prog 56 #[.int .u8 a, .int .u8 b] w fun e w' => e = .returned (.int .u8 (gm a b)) ∧ Below w.heap.size w w' := by
  refine (mul_any a b ha hb w).mono ?_
  rintro e w' ⟨rfl, n, rfl⟩
  exact ⟨rfl, drew_any (Below.refl _ _) n⟩
theorem gm_3 (x : Nat) (h : x < 256) : gm x 3 = gm 2 x ^^^ x := by
  have : gm x 3 = gm x (2 ^^^ 1) := rfl
  rw [this, gm_dist, gm_comm x 2 h (by decide), gm_one x h]
theorem ref_stir (a : List Nat) (o : Ok a) (r : Nat) (h : r < 4) : gm (a.getD r 0) 2 ^^^ gm (a.getD ((r + 1) % 4) 0) 3 ^^^ a.getD ((r + 2) % 4) 0 ^^^ a.getD ((r + 3) % 4) 0 = (stirN a).getD r 0 := by
  rw [stirN, mk_get _ _ _ h, gm_3 _ (o.get _), gm_comm _ 2 (o.get _) (by decide)]
  simp only [Nat.xor_assoc]
theorem mix_col (M : List Nat) (c r : Nat) (hr : r < 4) (hc : c < 4) : (stirN (colN M c)).getD r 0 = (mixN M).getD (4 * c + r) 0 := by
  rw [mixN, mk_get _ _ _ (by omega), show (4 * c + r) / 4 = c from by omega, show (4 * c + r) % 4 = r from by omega]
theorem mov_five (s : List Nat) : (mk 16 fun q => s.getD (5 * q % 16) 0) = movN 1 s := mk_congr fun q hq => by
  have e : ∀ q, q < 16 → 5 * q % 16 = (q + 4 * 1 * (q % 4)) % 16 := by decide
  rw [e q hq]
theorem take_col (M : List Nat) (c : Nat) (hl : M.length = 16) (hc : c < 4) : tx (M.take (4 * c)) ++ tx (colN M c) = tx (M.take (4 * (c + 1))) := by
  rw [tx_append, show 4 * (c + 1) = 4 * c + 4 from by omega, List.take_add]
  congr 2
  refine ext_get (by rw [List.length_take, List.length_drop, colN, mk_length]; omega) fun k hk => ?_
  rw [colN, mk_length] at hk
  rw [colN, mk_get _ _ _ hk, List.getD_eq_getElem?_getD, List.getD_eq_getElem?_getD, List.getElem?_take, if_pos hk, List.getElem?_drop]
theorem wrap_small (q : Nat) (h : q ≤ 1000000) : IntKind.i64.wrap (q : Int) = (q : Int) := by simp [IntKind.wrap, IntKind.bits, IntKind.signed]; omega
end Go.Proofs.Ytibdlccaenanmaa.aes
