/-
  PLAIN MATHEMATICS OF keys of keys: K in 64 bytes, xored with one byte each; the tag of a text by whatever digest; each next key. No program is named here.
-/
import Derived.Test.YtmkhojaddedpfaaDoorPlainSha
import Derived.Test.YtmkhojaddedpfaaDoorBundle1
import Derived.Test.YtmkhojaddedpfaaDoorPlainBlake
namespace Go.Proofs.YtmkhojaddedpfaaDoor.kdf
open Go.RowKit
open Go.Proofs.YtmkhojaddedpfaaDoor.ghs (tb tb_lt mkl mkl_length mkl_get mkl_congr tx_ext)

/-- The 64 bytes of a text, and bytes 0 behind it. -/
def kk (s : ByteArray) : List Nat := mkl 64 (tb s)
theorem kk_length (s : ByteArray) : (kk s).length = 64 := mkl_length _ _
theorem kk_lt (s : ByteArray) : ∀ x ∈ kk s, x < 256 := fun x hx => by
  obtain ⟨k, _, rfl⟩ := List.mem_map.1 hx
  exact tb_lt _ _
/-- Each byte xored with x. -/
def xd (l : List Nat) (x : Nat) : List Nat := l.map (· ^^^ x)
theorem xd_length (l : List Nat) (x : Nat) : (xd l x).length = l.length := List.length_map _
theorem xd_lt {l : List Nat} {x : Nat} (h : ∀ y ∈ l, y < 256) (hx : x < 256) : ∀ y ∈ xd l x, y < 256 := fun y hy => by
  obtain ⟨z, hz, rfl⟩ := List.mem_map.1 hy
  exact Nat.xor_lt_two_pow (n := 8) (h z hz) hx
/-- What goes for the key: its digest, where it has more than 64 bytes. -/
def kb (D : ByteArray → ByteArray) (key : ByteArray) : ByteArray := if 64 < key.size then D key else key
def pad (D : ByteArray → ByteArray) (key : ByteArray) (x : Nat) : ByteArray := tx (xd (kk (kb D key)) x)
theorem pad_size (D : ByteArray → ByteArray) (key : ByteArray) (x : Nat) : (pad D key x).size = 64 := by unfold pad; rw [tx_size, xd_length, kk_length]
/-- The tag of s by key. -/
def macT (D : ByteArray → ByteArray) (key s : ByteArray) : ByteArray := D (pad D key 92 ++ D (pad D key 54 ++ s))
theorem macT_size {D : ByteArray → ByteArray} (h : ∀ s, (D s).size = 32) (key s : ByteArray) : (macT D key s).size = 32 := h _
/-- Each next key by p: by the one ahead and a byte with its number. -/
def ky (D : ByteArray → ByteArray) (p : ByteArray) : Nat → ByteArray
  | 0 => ⟨#[]⟩
  | n + 1 => macT D p (ky D p n ++ tx [n + 1])
theorem ky_size {D : ByteArray → ByteArray} (h : ∀ s, (D s).size = 32) (p : ByteArray) : ∀ n, (ky D p n).size ≤ 32
  | 0 => by show 0 ≤ 32; omega
  | n + 1 => Nat.le_of_eq (macT_size h _ _)
def kys (D : ByteArray → ByteArray) (p : ByteArray) (n : Nat) : List ByteArray := (List.range n).map fun i => ky D p (i + 1)
theorem kys_length (D : ByteArray → ByteArray) (p : ByteArray) (n : Nat) : (kys D p n).length = n := by simp [kys]
/-- What is behind a text of at most 64 bytes: bytes 0. -/
theorem kk_more (s z : ByteArray) (hz : ∀ i, tb z i = 0) : kk (s ++ z) = kk s := by
  unfold kk
  refine mkl_congr fun j _ => ?_
  rw [sha.tb_append]
  split
  · rfl
  · rename_i h
    rw [hz]
    unfold tb
    rw [List.getD_eq_getElem?_getD, List.getElem?_eq_none (by rw [nb_length]; omega)]
    rfl
theorem mac_more (D : ByteArray → ByteArray) (k z s : ByteArray) (h : k.size + z.size ≤ 64) (hz : ∀ i, tb z i = 0) : macT D (k ++ z) s = macT D k s := by
  have e : ∀ x, pad D (k ++ z) x = pad D k x := fun x => by
    unfold pad kb
    rw [if_neg (by rw [ByteArray.size_append]; omega), if_neg (by omega), kk_more k z hz]
  unfold macT
  rw [e, e]
theorem mac_long (D : ByteArray → ByteArray) (hD : ∀ s, (D s).size = 32) (k s : ByteArray) (h : 64 < k.size) : macT D (D k) s = macT D k s := by
  have e : ∀ x, pad D (D k) x = pad D k x := fun x => by
    unfold pad kb
    rw [if_neg (by rw [hD]; omega), if_pos h]
  unfold macT
  rw [e, e]
/-- What suite 1 or 2 means. -/
def dg : Nat → ByteArray → ByteArray
  | 0, s => bla.blaT ⟨#[]⟩ s 32
  | _ + 1, s => sha.shaT s
theorem dg_size : ∀ (r : Nat) (s : ByteArray), (dg r s).size = 32
  | 0, s => bla.blaT_size _ _ (by decide)
  | _ + 1, s => sha.shaT_size s
end Go.Proofs.YtmkhojaddedpfaaDoor.kdf
