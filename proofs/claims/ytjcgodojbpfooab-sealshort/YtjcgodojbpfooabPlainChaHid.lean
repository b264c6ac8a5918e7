/-
  PLAIN MATHEMATICS OF texts that are hidden by a stream: hidden twice they are as they were; two that are hidden so; cut at 64 bytes.
-/
import Derived.Test.YtjcgodojbpfooabPlainChacha
namespace Go.Proofs.Ytjcgodojbpfooab.cha
open Go.RowKit
open Go.Proofs.Ytjcgodojbpfooab.ghs (tb tb_lt tb_tx mkl mkl_length mkl_get text_ext xo xo_size)

theorem tb_xo (a b : ByteArray) (j : Nat) (h : j < a.size) : tb (xo a b) j = tb a j ^^^ tb b j := by
  rw [xo, tb_tx _ (fun x hx => by
    obtain ⟨k, _, rfl⟩ := List.mem_map.1 hx
    exact Nat.xor_lt_two_pow (n := 8) (tb_lt _ _) (tb_lt _ _)), mkl_get _ _ _ h]
theorem hid_twice (key nonce : ByteArray) (n : Nat) (s : ByteArray) : hid key nonce n (hid key nonce n s) = s :=
  text_ext (by rw [hid_size, hid_size]) fun j hj => by
    rw [hid_size, hid_size] at hj
    rw [tb_hid _ _ _ _ _ (by rw [hid_size]; exact hj), tb_hid _ _ _ _ _ hj, xor_back]
theorem xor_both (a b m : Nat) : (a ^^^ m) ^^^ (b ^^^ m) = a ^^^ b := by
  rw [Nat.xor_comm b m, Nat.xor_assoc, ← Nat.xor_assoc m m b, Nat.xor_self, Nat.zero_xor]
theorem hid_both (key nonce : ByteArray) (n : Nat) (a b : ByteArray) (h : a.size = b.size) : xo (hid key nonce n a) (hid key nonce n b) = xo a b :=
  text_ext (by rw [xo_size, xo_size, hid_size]) fun j hj => by
    rw [xo_size, hid_size] at hj
    rw [tb_xo _ _ _ (by rw [hid_size]; exact hj), tb_xo _ _ _ hj, tb_hid _ _ _ _ _ hj, tb_hid _ _ _ _ _ (by rw [← h]; exact hj), xor_both]
/-- Cut at whole blocks. -/
theorem hid_split (key nonce : ByteArray) (n m : Nat) (a b : ByteArray) (ha : a.size = 64 * m) : hid key nonce n (a ++ b) = hid key nonce n a ++ hid key nonce ((n + m) % 4294967296) b :=
  text_ext (by rw [hid_size, ByteArray.size_append, ByteArray.size_append, hid_size, hid_size]) fun j hj => by
    rw [hid_size] at hj
    rw [tb_hid _ _ _ _ _ hj]
    rw [ByteArray.size_append] at hj
    by_cases c : j < a.size
    · rw [tb_app1 _ _ _ c, tb_app1 _ _ _ (by rw [hid_size]; exact c), tb_hid _ _ _ _ _ c]
    · obtain ⟨i, rfl⟩ : ∃ i, j = a.size + i := ⟨j - a.size, by omega⟩
      rw [tb_app2]
      have e : (hid key nonce n a).size + i = a.size + i := by rw [hid_size]
      rw [← e, tb_app2, tb_hid _ _ _ _ _ (by omega), e]
      refine congrArg (tb b i ^^^ ·) ?_
      rw [str, str, show (a.size + i) / 64 = m + i / 64 from by omega, show (a.size + i) % 64 = i % 64 from by omega, show (n + (m + i / 64)) % 4294967296 = ((n + m) % 4294967296 + i / 64) % 4294967296 from by omega]
/-- Noughts hidden are the stream. -/
theorem hid_zero (key nonce : ByteArray) (n : Nat) (hn : n < 4294967296) (z : ByteArray) (hz : z.size = 64) (h0 : ∀ j, tb z j = 0) : hid key nonce n z = blk key nonce n :=
  text_ext (by rw [hid_size, blk_size, hz]) fun j hj => by
    rw [hid_size, hz] at hj
    rw [tb_hid _ _ _ _ _ (by omega), h0, Nat.zero_xor, str, show j / 64 = 0 from by omega, show j % 64 = j from by omega, Nat.add_zero, Nat.mod_eq_of_lt hn]
end Go.Proofs.Ytjcgodojbpfooab.cha
