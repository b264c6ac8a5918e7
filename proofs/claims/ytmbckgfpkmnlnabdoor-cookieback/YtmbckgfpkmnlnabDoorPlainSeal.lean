/-
  PLAIN MATHEMATICS OF texts that are sealed by streams: what is tagged, the tag, the key and the nonce of a long nonce. No program is named here.
-/
import Derived.Test.YtmbckgfpkmnlnabDoorBundle6
import Derived.Test.YtmbckgfpkmnlnabDoorBundle2
import Derived.Test.YtmbckgfpkmnlnabDoorBundle3
namespace Go.Proofs.YtmbckgfpkmnlnabDoor.sea
open Go.RowKit
open Go.Proofs.YtmbckgfpkmnlnabDoor.ghs (mkl mkl_length mkl_get tx_ext xo)
open Go.Proofs.YtmbckgfpkmnlnabDoor.pol (dg dg_get dg_length dg_lt T T_size)

/-- Filled up with bytes 0. -/
def fl (s : ByteArray) : ByteArray := s ++ noughts ((16 - s.size % 16) % 16)
theorem fl_size (s : ByteArray) : (fl s).size ≤ s.size + 15 := by
  rw [fl, ByteArray.size_append, noughts_size]
  omega
/-- What is tagged. -/
def made (more h : ByteArray) : ByteArray := fl more ++ fl h ++ T 8 more.size ++ T 8 h.size
def hide (key nonce s : ByteArray) : ByteArray := cha.hid key nonce 1 s
theorem hide_size (key nonce s : ByteArray) : (hide key nonce s).size = s.size := cha.hid_size _ _ _ _
theorem hide_twice (key nonce s : ByteArray) : hide key nonce (hide key nonce s) = s := cha.hid_twice _ _ _ _
theorem hide_both (key nonce a b : ByteArray) (h : a.size = b.size) : xo (hide key nonce a) (hide key nonce b) = xo a b := cha.hid_both _ _ _ _ _ h
/-- The first 32 bytes of block 0. -/
def key0 (key nonce : ByteArray) : ByteArray := (cha.blk key nonce 0).extract 0 32
theorem key0_size (key nonce : ByteArray) : (key0 key nonce).size = 32 := by
  rw [key0, ByteArray.size_extract, cha.blk_size]
  rfl
def tagT (key nonce more h : ByteArray) : ByteArray := pol.tag (key0 key nonce) (made more h)
theorem tagT_size (key nonce more h : ByteArray) : (tagT key nonce more h).size = 16 := pol.tag_size _ _
/-- A long nonce's key and nonce. -/
def key2 (key nonce : ByteArray) : ByteArray := cha.sub key (nonce.extract 0 16)
def nonce2 (nonce : ByteArray) : ByteArray := noughts 4 ++ nonce.extract 16 nonce.size
theorem key2_size (key nonce : ByteArray) : (key2 key nonce).size = 32 := by
  rw [key2, cha.sub, cha.told_size, List.length_append, List.length_take, List.length_drop, cha.stirred_length, cha.beg_length]
  rfl
theorem nonce2_size (nonce : ByteArray) (h : nonce.size = 24) : (nonce2 nonce).size = 12 := by
  rw [nonce2, ByteArray.size_append, noughts_size, ByteArray.size_extract, h]
  rfl
/-- Eight bytes of a number, k of them told. -/
def part (n k : Nat) : List Nat := mkl 8 fun j => if j < k then n / 256 ^ j % 256 else 0
theorem part_length (n k : Nat) : (part n k).length = 8 := mkl_length _ _
theorem part_ok (n k : Nat) : ∀ x ∈ part n k, x < 256 := fun x hx => by
  obtain ⟨j, _, rfl⟩ := List.mem_map.1 hx
  split
  · exact Nat.mod_lt _ (by decide)
  · decide
theorem part_zero (n : Nat) : part n 0 = [0, 0, 0, 0, 0, 0, 0, 0] := rfl
theorem part_step (n k : Nat) : (part n k).set k (n / 256 ^ k % 256) = part n (k + 1) := by
  refine tx_ext (by rw [List.length_set, part_length, part_length]) fun j hj => ?_
  rw [List.length_set, part_length] at hj
  rw [ghs.getD_set _ _ _ _ (by rw [part_length]; exact hj), part, part, mkl_get _ _ _ hj, mkl_get _ _ _ hj]
  by_cases c : k = j
  · subst c
    rw [if_pos rfl, if_pos (by omega)]
  · rw [if_neg c]
    by_cases d : j < k
    · rw [if_pos d, if_pos (by omega)]
    · rw [if_neg d, if_neg (by omega)]
theorem part_all (n : Nat) : tx (part n 8) = T 8 n := by
  unfold T
  congr 1
  refine tx_ext (by rw [part_length, dg_length]) fun j hj => ?_
  rw [part_length] at hj
  rw [part, mkl_get _ _ _ hj, dg_get _ _ _ _ hj, if_pos hj]
end Go.Proofs.YtmbckgfpkmnlnabDoor.sea
