/-
  PLAIN MATHEMATICS OF what Write tells and what Read makes of it.
-/
import Derived.Test.YtkkechklpijgkaaStampRead
namespace Go.Proofs.Ytkkechklpijgkaa.stm

theorem rd_told (n m : Nat) (hn : n ≤ 1099511627776) (hm : m ≤ 999999999) : rdA (told n m) = n ∧ rdB (told n m) = m ∧ rdE (told n m) = 0 := by
  have e1 := secOf_told n m hn
  have e2 := nanoOf_told n m hm
  have e3 := told_size n m
  have hc : (told n m).size = 12 ∧ 4611686018427387904 ≤ secOf (told n m) ∧ secOf (told n m) ≤ 4611687117939015680 ∧ nanoOf (told n m) ≤ 999999999 := ⟨e3, by omega, by omega, by omega⟩
  unfold rdA rdB rdE
  rw [if_pos hc, if_pos hc, if_neg (by omega), if_pos hc, e1, e2]
  exact ⟨by omega, rfl, rfl⟩
theorem rd_not {s : ByteArray} (h : rdE s ≠ 0) : rdA s = 0 ∧ rdB s = 0 := by
  have hc : ¬ (s.size = 12 ∧ 4611686018427387904 ≤ secOf s ∧ secOf s ≤ 4611687117939015680 ∧ nanoOf s ≤ 999999999) := by
    intro hc
    apply h
    unfold rdE
    rw [if_neg (by omega), if_pos hc]
  unfold rdA rdB
  rw [if_neg hc, if_neg hc]
  exact ⟨rfl, rfl⟩
theorem rd_is {s : ByteArray} (h : rdE s = 0) : wrT (rdA s) (rdB s) = s ∧ wrE (rdA s) (rdB s) = 0 := by
  have hc : s.size = 12 ∧ 4611686018427387904 ≤ secOf s ∧ secOf s ≤ 4611687117939015680 ∧ nanoOf s ≤ 999999999 := by
    unfold rdE at h
    split at h
    · cases h
    · split at h
      · assumption
      · cases h
  unfold rdA rdB
  rw [if_pos hc, if_pos hc]
  have hk : ok ((secOf s - 4611686018427387904 : Nat) : Int) ((nanoOf s : Nat) : Int) = true := decide_eq_true (by omega)
  unfold wrT wrE
  rw [if_pos hk, if_pos hk, Int.toNat_natCast, Int.toNat_natCast]
  exact ⟨told_of s hc.1 _ (by omega), rfl⟩
end Go.Proofs.Ytkkechklpijgkaa.stm
