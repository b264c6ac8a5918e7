/-
  PLAIN MATHEMATICS OF tags: bits that count, blocks, what A comes to. No program is named here.
-/
import Derived.Test.YtjcgodojbpfooaaPlainPoly
namespace Go.Proofs.Ytjcgodojbpfooaa.pol
open Go.Proofs.Ytjcgodojbpfooaa.ghs (tb tb_lt tb_out tb_tx dr dr_size tb_dr dr_0 dr_dr mkl mkl_length mkl_get mkl_succ mkl_congr text_ext)

/-- The bits of a byte of R that count. -/
def tr (j x : Nat) : Nat := if j % 4 = 3 then x % 16 else if j % 4 = 0 ∧ j ≠ 0 then x / 4 * 4 else x
theorem tr_lt {j x : Nat} (h : x < 256) : tr j x < 256 := by
  unfold tr
  split
  · omega
  · split <;> omega
def trim (s : ByteArray) : ByteArray := tx (mkl 16 fun j => tr j (tb s j))
theorem trim_ok (s : ByteArray) (n : Nat) : ∀ x ∈ mkl n (fun j => tr j (tb s j)), x < 256 := fun x hx => by
  simp only [mkl, List.mem_map] at hx
  obtain ⟨j, _, rfl⟩ := hx
  exact tr_lt (tb_lt s j)
theorem trim_size (s : ByteArray) : (trim s).size = 16 := by rw [trim, tx_size, mkl_length]
theorem trim_congr {s t : ByteArray} (h : ∀ j, j < 16 → tr j (tb s j) = tr j (tb t j)) : trim s = trim t := by
  unfold trim
  rw [mkl_congr h]

/-! ### Texts, one behind the other -/
theorem nb_app (s t : ByteArray) : nb (s ++ t) = nb s ++ nb t := by
  simp [nb]
theorem N_app (s t : ByteArray) : N (s ++ t) = N s + 256 ^ s.size * N t := by
  unfold N
  rw [nb_app, val_append, nb_length]
theorem tb_cut (s : ByteArray) (a b j : Nat) (h : j < b - a) : tb (s.extract a b) j = tb s (a + j) := by
  unfold tb
  have e : nb (s.extract a b) = ((nb s).drop a).take (b - a) := by
    simp [nb, List.map_take, List.map_drop]
  rw [e, List.getD_eq_getElem?_getD, List.getElem?_take, if_pos h, List.getElem?_drop, List.getD_eq_getElem?_getD]
def one : ByteArray := ⟨#[1]⟩
theorem N_one : N one = 1 := by decide
/-- A block's bytes, a byte 1 behind them. -/
def piece (s : ByteArray) (k : Nat) : ByteArray := (dr s (16 * k)).extract 0 (min 16 (dr s (16 * k)).size) ++ one
theorem piece_size (s : ByteArray) (k : Nat) : (piece s k).size ≤ 17 := by
  unfold piece
  rw [ByteArray.size_append, ByteArray.size_extract]
  show _ + 1 ≤ 17
  omega
theorem piece_lt (s : ByteArray) (k : Nat) : N (piece s k) < 2 ^ 129 := by
  unfold piece
  generalize hx : (dr s (16 * k)).extract 0 (min 16 (dr s (16 * k)).size) = x
  have hxs : x.size ≤ 16 := by rw [← hx, ByteArray.size_extract]; omega
  rw [N_app, N_one, Nat.mul_one]
  have h1 := N_lt x
  have h2 : 256 ^ x.size ≤ 256 ^ 16 := Nat.pow_le_pow_right (by decide) hxs
  have h3 : (256 : Nat) ^ 16 * 2 = 2 ^ 129 := by decide
  omega
def nbk (s : ByteArray) : Nat := (s.size + 15) / 16
/-- What A comes to. -/
def acc (r : Nat) (s : ByteArray) : Nat → Nat
  | 0 => 0
  | k + 1 => (acc r s k + N (piece s k)) * r % P
theorem acc_lt (r : Nat) (s : ByteArray) : ∀ k, acc r s k < P
  | 0 => P_pos
  | _ + 1 => Nat.mod_lt _ P_pos
def tagN (key s : ByteArray) : Nat := acc (N (trim key)) s (nbk s) + N (dr key 16)
def tag (key s : ByteArray) : ByteArray := T 16 (tagN key s)
theorem tag_size (key s : ByteArray) : (tag key s).size = 16 := T_size 16 _
theorem step_acc {u v a r x : Nat} (hu : u % P = a) (hv : v % P = (u + x) * r % P) : v % P = (a + x) * r % P := by
  rw [hv, ← hu, Nat.mul_mod (u + x) r, Nat.add_mod u x, Nat.mul_mod (u % P + x) r, Nat.add_mod (u % P) x, Nat.mod_mod]
end Go.Proofs.Ytjcgodojbpfooaa.pol
