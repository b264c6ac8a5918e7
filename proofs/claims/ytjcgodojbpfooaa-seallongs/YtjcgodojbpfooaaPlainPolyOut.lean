/-
  PLAIN MATHEMATICS OF tags: a sum of pieces of 13 bits told in bytes, a piece at a time. No program is named here.
-/
import Derived.Test.YtjcgodojbpfooaaPlainPolyRef
namespace Go.Proofs.Ytjcgodojbpfooaa.pol

theorem tx_app (a b : List Nat) : tx (a ++ b) = tx a ++ tx b := by
  apply ByteArray.ext
  rw [ByteArray.data_append]
  simp [tx]
theorem carry_get (B : Nat) (S : List Nat) : ∀ (c k : Nat), k < S.length → (carry B S c).getD k 0 = (S.getD k 0 + cout B (S.take k) c) % B := by
  induction S with
  | nil => intro c k h; simp at h
  | cons a l ih =>
    intro c k h
    cases k with
    | zero => simp [carry, cout]
    | succ k =>
      have := ih ((a + c) / B) k (by simpa using h)
      simp only [carry, List.getD_cons_succ, List.take_succ_cons, cout, this]
/-- A piece of a sum. -/
theorem sum_piece (S : List Nat) (k : Nat) (hS : S.length = 10) (hk : k < 10) : (S.getD k 0 + cout 8192 (S.take k) 0) % 8192 = val 8192 S / 8192 ^ k % 8192 ∧ cout 8192 (S.take (k + 1)) 0 = (S.getD k 0 + cout 8192 (S.take k) 0) / 8192 := by
  refine ⟨?_, (carry_step (by decide) S S 0 k (by omega) rfl).2⟩
  rw [← carry_get _ _ _ _ (by omega), carry_dg (by decide), Nat.add_zero, hS, dg_get _ _ _ _ hk]
theorem T_dvd (n v M : Nat) (h : 256 ^ n ∣ M) : T n (v % M) = T n v := by
  unfold T
  rw [← dg_mod (by decide) n (v % M) n (Nat.le_refl _), ← dg_mod (by decide) n v n (Nat.le_refl _), Nat.mod_mod_of_dvd _ h]
theorem two8 (n : Nat) : 256 ^ n = 2 ^ (8 * n) := by rw [Nat.pow_mul]
theorem two13 (n : Nat) : 8192 ^ n = 2 ^ (13 * n) := by rw [Nat.pow_mul]
theorem out_same (v k L : Nat) (h : 8 * L ≤ 13 * k) : T L (v % 2 ^ (13 * k)) = T L (v % 2 ^ (13 * (k + 1))) := by
  rw [T_dvd _ _ _ (by rw [two8]; exact Nat.pow_dvd_pow 2 h), T_dvd _ _ _ (by rw [two8]; exact Nat.pow_dvd_pow 2 (by omega))]
theorem bits_step (v k : Nat) : v % 2 ^ (13 * k) / 256 ^ (13 * k / 8) < 2 ^ (13 * k % 8) ∧ v % 2 ^ (13 * (k + 1)) / 256 ^ (13 * k / 8) = v % 2 ^ (13 * k) / 256 ^ (13 * k / 8) + v / 8192 ^ k % 8192 * 2 ^ (13 * k % 8) := by
  have e : 2 ^ (13 * k) = 256 ^ (13 * k / 8) * 2 ^ (13 * k % 8) := by rw [two8, ← Nat.pow_add, Nat.div_add_mod]
  have hp : 0 < 256 ^ (13 * k / 8) := Nat.pow_pos (by decide)
  refine ⟨?_, ?_⟩
  · rw [Nat.div_lt_iff_lt_mul hp, Nat.mul_comm (2 ^ _), ← e]
    exact Nat.mod_lt _ (Nat.pow_pos (by decide))
  · rw [two13, show 13 * (k + 1) = 13 * k + 13 from by omega, Nat.pow_add, Nat.mod_mul, show (2 : Nat) ^ 13 = 8192 from rfl]
    generalize v % 2 ^ (13 * k) = X
    generalize v / 2 ^ (13 * k) % 8192 = d
    rw [e, Nat.mul_assoc, Nat.add_mul_div_left _ _ hp, Nat.mul_comm d]
theorem out_more (V L : Nat) : T (L + 1) V = T L V ++ tx [V / 256 ^ L % 256] ∧ V / 256 ^ (L + 1) = V / 256 ^ L / 256 := by
  refine ⟨?_, ?_⟩
  · unfold T
    rw [dg_snoc, tx_app]
  · rw [Nat.div_div_eq_div_mul, Nat.pow_succ]
theorem bits_lt (V L m : Nat) (h : V < 2 ^ m) (hL : 8 * L ≤ m) : V / 256 ^ L < 2 ^ (m - 8 * L) := by
  rw [Nat.div_lt_iff_lt_mul (Nat.pow_pos (by decide)), two8, ← Nat.pow_add, show m - 8 * L + 8 * L = m from by omega]
  exact h
theorem out_end (v : Nat) : T (13 * 10 / 8) (v % 2 ^ (13 * 10)) = T 16 v := T_dvd 16 v _ (by decide)
end Go.Proofs.Ytjcgodojbpfooaa.pol
