/-
  PLAIN MATHEMATICS OF texts that are hidden by a stream: hidden twice they are as they were; two that are hidden so; cut at 64 bytes.
  PLAIN: sealed and opened, whatever hides a text and whatever its tag is.
-/
import Derived.Test.YtjcgodojbpfooaaPlainChacha
import Derived.WalkKit
namespace Go.Proofs.Ytjcgodojbpfooaa.cha
open Go.RowKit
open Go.Proofs.Ytjcgodojbpfooaa.ghs (tb tb_lt tb_tx mkl mkl_length mkl_get text_ext xo xo_size)

theorem tb_xo (a b : ByteArray) (j : Nat) (h : j < a.size) : tb (xo a b) j = tb a j ^^^ tb b j := by
  rw [xo, tb_tx _ (fun x hx => by
    obtain ⟨k, _, rfl⟩ := List.mem_map.1 hx
    exact Nat.xor_lt_two_pow (n := 8) (tb_lt _ _) (tb_lt _ _)), mkl_get _ _ _ h]
theorem hid_twice (key nonce : ByteArray) (n : Nat) (s : ByteArray) : hid key nonce n (hid key nonce n s) = s :=
  text_ext (by rw [hid_size, hid_size]) fun j hj => by
    rw [hid_size, hid_size] at hj
    rw [tb_hid _ _ _ _ _ (by rw [hid_size]; exact hj), tb_hid _ _ _ _ _ hj, xor_back]
theorem xor_both (a b m : Nat) : (a ^^^ m) ^^^ (b ^^^ m) = a ^^^ b := by
  rw [Nat.xor_comm b m, Nat.xor_assoc, ← Nat.xor_assoc m m b, Nat.xor_self, Nat.zero_xor]
theorem hid_both (key nonce : ByteArray) (n : Nat) (a b : ByteArray) (h : a.size = b.size) : xo (hid key nonce n a) (hid key nonce n b) = xo a b :=
  text_ext (by rw [xo_size, xo_size, hid_size]) fun j hj => by
    rw [xo_size, hid_size] at hj
    rw [tb_xo _ _ _ (by rw [hid_size]; exact hj), tb_xo _ _ _ hj, tb_hid _ _ _ _ _ hj, tb_hid _ _ _ _ _ (by rw [← h]; exact hj), xor_both]
/-- Cut at whole blocks. -/
theorem hid_split (key nonce : ByteArray) (n m : Nat) (a b : ByteArray) (ha : a.size = 64 * m) : hid key nonce n (a ++ b) = hid key nonce n a ++ hid key nonce ((n + m) % 4294967296) b :=
  text_ext (by rw [hid_size, ByteArray.size_append, ByteArray.size_append, hid_size, hid_size]) fun j hj => by
    rw [hid_size] at hj
    rw [tb_hid _ _ _ _ _ hj]
    rw [ByteArray.size_append] at hj
    by_cases c : j < a.size
    · rw [tb_app1 _ _ _ c, tb_app1 _ _ _ (by rw [hid_size]; exact c), tb_hid _ _ _ _ _ c]
    · obtain ⟨i, rfl⟩ : ∃ i, j = a.size + i := ⟨j - a.size, by omega⟩
      rw [tb_app2]
      have e : (hid key nonce n a).size + i = a.size + i := by rw [hid_size]
      rw [← e, tb_app2, tb_hid _ _ _ _ _ (by omega), e]
      refine congrArg (tb b i ^^^ ·) ?_
      rw [str, str, show (a.size + i) / 64 = m + i / 64 from by omega, show (a.size + i) % 64 = i % 64 from by omega, show (n + (m + i / 64)) % 4294967296 = ((n + m) % 4294967296 + i / 64) % 4294967296 from by omega]
/-- Noughts hidden are the stream. -/
theorem hid_zero (key nonce : ByteArray) (n : Nat) (hn : n < 4294967296) (z : ByteArray) (hz : z.size = 64) (h0 : ∀ j, tb z j = 0) : hid key nonce n z = blk key nonce n :=
  text_ext (by rw [hid_size, blk_size, hz]) fun j hj => by
    rw [hid_size, hz] at hj
    rw [tb_hid _ _ _ _ _ (by omega), h0, Nat.zero_xor, str, show j / 64 = 0 from by omega, show j % 64 = j from by omega, Nat.add_zero, Nat.mod_eq_of_lt hn]
end Go.Proofs.Ytjcgodojbpfooaa.cha
namespace Go.Proofs.Ytjcgodojbpfooaa.box

/-- What is refused: 1 (no key, or no nonce), 2 (too long). -/
def chk (key nonce more text : ByteArray) (most : Nat) : Nat :=
  if key.size = 32 ∧ nonce.size = 12 then (if more.size ≤ 2000 ∧ text.size ≤ most then 0 else 2) else 1
theorem chk_zero {key nonce more text : ByteArray} {most : Nat} (h : chk key nonce more text most = 0) : key.size = 32 ∧ nonce.size = 12 ∧ more.size ≤ 2000 ∧ text.size ≤ most := by
  unfold chk at h
  split at h
  · rename_i h1
    split at h
    · rename_i h2
      exact ⟨h1.1, h1.2, h2.1, h2.2⟩
    · cases h
  · cases h
theorem chk_le (key nonce more text : ByteArray) (most : Nat) : chk key nonce more text most ≤ 2 := by
  unfold chk
  split
  · split <;> omega
  · omega
def sealT (hide tag : ByteArray → ByteArray) (c : Nat) (text : ByteArray) : ByteArray := if c = 0 then hide text ++ tag (hide text) else ⟨#[]⟩
def front (s : ByteArray) : ByteArray := s.extract 0 (s.size - 16)
def back (s : ByteArray) : ByteArray := s.extract (s.size - 16) s.size
theorem front_size (s : ByteArray) : (front s).size = s.size - 16 := by unfold front; rw [ByteArray.size_extract]; omega
theorem back_size (s : ByteArray) (h : 16 ≤ s.size) : (back s).size = 16 := by unfold back; rw [ByteArray.size_extract]; omega
theorem front_back (s : ByteArray) : front s ++ back s = s := by
  apply ByteArray.ext
  unfold front back
  rw [ByteArray.data_append, ByteArray.data_extract, ByteArray.data_extract]
  apply Array.toList_inj.1
  rw [Array.toList_append, Array.toList_extract, Array.toList_extract, List.extract_eq_take_drop, List.extract_eq_take_drop]
  rw [Nat.sub_zero, List.drop_zero, List.take_of_length_le (l := List.drop _ _) (by rw [List.length_drop]; exact Nat.le_refl _), List.take_append_drop]
theorem app_inj {a b c d : ByteArray} (h : a ++ b = c ++ d) (hs : a.size = c.size) : a = c ∧ b = d := by
  have h1 := congrArg (fun x : ByteArray => x.data.toList) h
  simp only [ByteArray.data_append, Array.toList_append] at h1
  have h2 := List.append_inj h1 (by rw [Array.length_toList, Array.length_toList]; exact hs)
  exact ⟨ByteArray.ext (Array.toList_inj.1 h2.1), ByteArray.ext (Array.toList_inj.1 h2.2)⟩
theorem front_app (a b : ByteArray) (hb : b.size = 16) : front (a ++ b) = a ∧ back (a ++ b) = b :=
  app_inj (front_back (a ++ b)) (by rw [front_size, ByteArray.size_append]; omega)
def openE (tag : ByteArray → ByteArray) (c : Nat) (s : ByteArray) : Nat :=
  if c = 0 then (if s.size < 16 then 4 else if tag (front s) = back s then 0 else 6) else c
def openT (hide tag : ByteArray → ByteArray) (c : Nat) (s : ByteArray) : ByteArray := if openE tag c s = 0 then hide (front s) else ⟨#[]⟩
theorem ne_list {a b : ByteArray} (h : a ≠ b) : (a.toList == b.toList) = false := by
  rw [ByteArray.toList_eq, ByteArray.toList_eq, beq_eq_false_iff_ne]
  intro e
  exact h (ByteArray.ext (Array.toList_inj.1 e))
theorem sealed_is (hide tag : ByteArray → ByteArray) (hh : ∀ s, hide (hide s) = s) (s : ByteArray) : hide (hide (front s)) ++ tag (hide (hide (front s))) = s ↔ tag (front s) = back s := by
  rw [hh]
  constructor
  · intro h
    have e : front s ++ tag (front s) = front s ++ back s := by
      rw [front_back]
      exact h
    rw [(app_inj e rfl).2]
  · intro h
    rw [h, front_back]
end Go.Proofs.Ytjcgodojbpfooaa.box
