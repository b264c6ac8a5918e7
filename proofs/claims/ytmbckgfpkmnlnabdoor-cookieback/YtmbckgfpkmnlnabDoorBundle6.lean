/-
  PLAIN MATHEMATICS OF tags: bits that count, blocks, what A comes to. No program is named here.
  PLAIN MATHEMATICS OF texts that are hidden by a stream: hidden twice they are as they were; two that are hidden so; cut at 64 bytes.
-/
import Derived.Test.YtmbckgfpkmnlnabDoorPlainPoly
import Derived.Test.YtmbckgfpkmnlnabDoorPlainChacha
namespace Go.Proofs.YtmbckgfpkmnlnabDoor.pol
open Go.Proofs.YtmbckgfpkmnlnabDoor.ghs (tb tb_lt tb_out tb_tx dr dr_size tb_dr dr_0 dr_dr mkl mkl_length mkl_get mkl_succ mkl_congr text_ext)

/-- The bits of a byte of R that count. -/
def tr (j x : Nat) : Nat := if j % 4 = 3 then x % 16 else if j % 4 = 0 ∧ j ≠ 0 then x / 4 * 4 else x
theorem tr_lt {j x : Nat} (h : x < 256) : tr j x < 256 := by
  unfold tr
  split
  · omega
  · split <;> omega
def trim (s : ByteArray) : ByteArray := tx (mkl 16 fun j => tr j (tb s j))
theorem trim_ok (s : ByteArray) (n : Nat) : ∀ x ∈ mkl n (fun j => tr j (tb s j)), x < 256 := fun x hx => by
  simp only [mkl, List.mem_map] at hx
  obtain ⟨j, _, rfl⟩ := hx
  exact tr_lt (tb_lt s j)
theorem trim_size (s : ByteArray) : (trim s).size = 16 := by rw [trim, tx_size, mkl_length]
theorem trim_congr {s t : ByteArray} (h : ∀ j, j < 16 → tr j (tb s j) = tr j (tb t j)) : trim s = trim t := by
  unfold trim
  rw [mkl_congr h]

/-! ### Texts, one behind the other -/
theorem nb_app (s t : ByteArray) : nb (s ++ t) = nb s ++ nb t := by
  simp [nb]
theorem N_app (s t : ByteArray) : N (s ++ t) = N s + 256 ^ s.size * N t := by
  unfold N
  rw [nb_app, val_append, nb_length]
theorem tb_cut (s : ByteArray) (a b j : Nat) (h : j < b - a) : tb (s.extract a b) j = tb s (a + j) := by
  unfold tb
  have e : nb (s.extract a b) = ((nb s).drop a).take (b - a) := by
    simp [nb, List.map_take, List.map_drop]
  rw [e, List.getD_eq_getElem?_getD, List.getElem?_take, if_pos h, List.getElem?_drop, List.getD_eq_getElem?_getD]
def one : ByteArray := ⟨#[1]⟩
theorem N_one : N one = 1 := by decide
/-- A block's bytes, a byte 1 behind them. -/
def piece (s : ByteArray) (k : Nat) : ByteArray := (dr s (16 * k)).extract 0 (min 16 (dr s (16 * k)).size) ++ one
theorem piece_size (s : ByteArray) (k : Nat) : (piece s k).size ≤ 17 := by
  unfold piece
  rw [ByteArray.size_append, ByteArray.size_extract]
  show _ + 1 ≤ 17
  omega
theorem piece_lt (s : ByteArray) (k : Nat) : N (piece s k) < 2 ^ 129 := by
  unfold piece
  generalize hx : (dr s (16 * k)).extract 0 (min 16 (dr s (16 * k)).size) = x
  have hxs : x.size ≤ 16 := by rw [← hx, ByteArray.size_extract]; omega
  rw [N_app, N_one, Nat.mul_one]
  have h1 := N_lt x
  have h2 : 256 ^ x.size ≤ 256 ^ 16 := Nat.pow_le_pow_right (by decide) hxs
  have h3 : (256 : Nat) ^ 16 * 2 = 2 ^ 129 := by decide
  omega
def nbk (s : ByteArray) : Nat := (s.size + 15) / 16
/-- What A comes to. -/
def acc (r : Nat) (s : ByteArray) : Nat → Nat
  | 0 => 0
  | k + 1 => (acc r s k + N (piece s k)) * r % P
theorem acc_lt (r : Nat) (s : ByteArray) : ∀ k, acc r s k < P
  | 0 => P_pos
  | _ + 1 => Nat.mod_lt _ P_pos
def tagN (key s : ByteArray) : Nat := acc (N (trim key)) s (nbk s) + N (dr key 16)
def tag (key s : ByteArray) : ByteArray := T 16 (tagN key s)
theorem tag_size (key s : ByteArray) : (tag key s).size = 16 := T_size 16 _
theorem step_acc {u v a r x : Nat} (hu : u % P = a) (hv : v % P = (u + x) * r % P) : v % P = (a + x) * r % P := by
  rw [hv, ← hu, Nat.mul_mod (u + x) r, Nat.add_mod u x, Nat.mul_mod (u % P + x) r, Nat.add_mod (u % P) x, Nat.mod_mod]
end Go.Proofs.YtmbckgfpkmnlnabDoor.pol
namespace Go.Proofs.YtmbckgfpkmnlnabDoor.cha
open Go.RowKit
open Go.Proofs.YtmbckgfpkmnlnabDoor.ghs (tb tb_lt tb_tx mkl mkl_length mkl_get text_ext xo xo_size)

theorem tb_xo (a b : ByteArray) (j : Nat) (h : j < a.size) : tb (xo a b) j = tb a j ^^^ tb b j := by
  rw [xo, tb_tx _ (fun x hx => by
    obtain ⟨k, _, rfl⟩ := List.mem_map.1 hx
    exact Nat.xor_lt_two_pow (n := 8) (tb_lt _ _) (tb_lt _ _)), mkl_get _ _ _ h]
theorem hid_twice (key nonce : ByteArray) (n : Nat) (s : ByteArray) : hid key nonce n (hid key nonce n s) = s :=
  text_ext (by rw [hid_size, hid_size]) fun j hj => by
    rw [hid_size, hid_size] at hj
    rw [tb_hid _ _ _ _ _ (by rw [hid_size]; exact hj), tb_hid _ _ _ _ _ hj, xor_back]
theorem xor_both (a b m : Nat) : (a ^^^ m) ^^^ (b ^^^ m) = a ^^^ b := by
  rw [Nat.xor_comm b m, Nat.xor_assoc, ← Nat.xor_assoc m m b, Nat.xor_self, Nat.zero_xor]
theorem hid_both (key nonce : ByteArray) (n : Nat) (a b : ByteArray) (h : a.size = b.size) : xo (hid key nonce n a) (hid key nonce n b) = xo a b :=
  text_ext (by rw [xo_size, xo_size, hid_size]) fun j hj => by
    rw [xo_size, hid_size] at hj
    rw [tb_xo _ _ _ (by rw [hid_size]; exact hj), tb_xo _ _ _ hj, tb_hid _ _ _ _ _ hj, tb_hid _ _ _ _ _ (by rw [← h]; exact hj), xor_both]
/-- Cut at whole blocks. -/
theorem hid_split (key nonce : ByteArray) (n m : Nat) (a b : ByteArray) (ha : a.size = 64 * m) : hid key nonce n (a ++ b) = hid key nonce n a ++ hid key nonce ((n + m) % 4294967296) b :=
  text_ext (by rw [hid_size, ByteArray.size_append, ByteArray.size_append, hid_size, hid_size]) fun j hj => by
    rw [hid_size] at hj
    rw [tb_hid _ _ _ _ _ hj]
    rw [ByteArray.size_append] at hj
    by_cases c : j < a.size
    · rw [tb_app1 _ _ _ c, tb_app1 _ _ _ (by rw [hid_size]; exact c), tb_hid _ _ _ _ _ c]
    · obtain ⟨i, rfl⟩ : ∃ i, j = a.size + i := ⟨j - a.size, by omega⟩
      rw [tb_app2]
      have e : (hid key nonce n a).size + i = a.size + i := by rw [hid_size]
      rw [← e, tb_app2, tb_hid _ _ _ _ _ (by omega), e]
      refine congrArg (tb b i ^^^ ·) ?_
      rw [str, str, show (a.size + i) / 64 = m + i / 64 from by omega, show (a.size + i) % 64 = i % 64 from by omega, show (n + (m + i / 64)) % 4294967296 = ((n + m) % 4294967296 + i / 64) % 4294967296 from by omega]
/-- Noughts hidden are the stream. -/
theorem hid_zero (key nonce : ByteArray) (n : Nat) (hn : n < 4294967296) (z : ByteArray) (hz : z.size = 64) (h0 : ∀ j, tb z j = 0) : hid key nonce n z = blk key nonce n :=
  text_ext (by rw [hid_size, blk_size, hz]) fun j hj => by
    rw [hid_size, hz] at hj
    rw [tb_hid _ _ _ _ _ (by omega), h0, Nat.zero_xor, str, show j / 64 = 0 from by omega, show j % 64 = j from by omega, Nat.add_zero, Nat.mod_eq_of_lt hn]
end Go.Proofs.YtmbckgfpkmnlnabDoor.cha
