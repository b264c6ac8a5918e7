/-
  PLAIN MATHEMATICS OF streams (ChaCha): two that are well known (RFC 8439), reckoned by the kernel. No program is named here.
-/
import Derived.Test.YtjcgodojbpfooaaPlainChacha
namespace Go.Proofs.Ytjcgodojbpfooaa.cha
open Go.RowKit
open Go.Proofs.Ytjcgodojbpfooaa.ghs (tb mkl)

/-- A number, then a list, reckoned ahead of what is made of it. -/
def frcN {α : Type} (n : Nat) (k : Nat → α) : α := Nat.rec (k 0) (fun m _ => k (m + 1)) n
theorem frcN_eq {α : Type} (n : Nat) (k : Nat → α) : frcN n k = k n := by cases n <;> rfl
def frc {α : Type} : List Nat → (List Nat → α) → α
  | [], k => k []
  | a :: l, k => frcN a fun b => frc l fun m => k (b :: m)
theorem frc_eq {α : Type} : ∀ (l : List Nat) (k : List Nat → α), frc l k = k l
  | [], _ => rfl
  | a :: l, k => by rw [frc, frcN_eq, frc_eq l]
/-- Rounds, each list reckoned ahead of the next. -/
def rdsG : Nat → Nat → List Nat → List Nat
  | 0, _, l => l
  | m + 1, i, l => frc (step l i) fun l' => rdsG m (i + 1) l'
theorem rdsG_eq (l : List Nat) : ∀ m i, rdsG m i (rds l i) = rds l (i + m)
  | 0, _ => rfl
  | m + 1, i => by
    rw [rdsG, frc_eq]
    have := rdsG_eq l m (i + 1)
    rw [show i + 1 + m = i + (m + 1) from by omega] at this
    exact this
theorem stirred_fast (l : List Nat) : stirred l = frc l fun l' => rdsG 80 0 l' := by
  rw [frc_eq]
  have := rdsG_eq l 80 0
  rw [Nat.zero_add] at this
  exact this.symm
def kK : ByteArray := ⟨#[0, 1, 2, 3, 4, 5, 6, 7, 8, 9, 10, 11, 12, 13, 14, 15, 16, 17, 18, 19, 20, 21, 22, 23, 24, 25, 26, 27, 28, 29, 30, 31]⟩
def kN : ByteArray := ⟨#[0, 0, 0, 9, 0, 0, 0, 74, 0, 0, 0, 0]⟩
def kL : ByteArray := ⟨#[0, 0, 0, 9, 0, 0, 0, 74, 0, 0, 0, 0, 49, 65, 89, 39]⟩
def kE : List Nat := [1634760805, 857760878, 2036477234, 1797285236, 50462976, 117835012, 185207048, 252579084, 319951120, 387323156, 454695192, 522067228, 1, 150994944, 1241513984, 0]
def kF : List Nat := [1634760805, 857760878, 2036477234, 1797285236, 50462976, 117835012, 185207048, 252579084, 319951120, 387323156, 454695192, 522067228, 150994944, 1241513984, 0, 660160817]
def kD : List Nat := [2205644971, 3795375971, 2793071134, 1498463023, 3304247495, 4234328879, 2409634044, 1063176119, 861041090, 4069820915, 3938298108, 2196008637, 3516666548, 2957907678, 2659438795, 1312575650]
def kG : List Nat := [1111179650, 4269519399, 1346506451, 1937606538, 178742344, 2035600883, 2221591863, 2067552429, 2011387267, 2212985874, 3758582317, 3161247973, 3588553120, 1403548810, 331624129, 3706508070]
def kB : ByteArray := ⟨#[16, 241, 231, 228, 209, 59, 89, 21, 80, 15, 221, 31, 163, 32, 113, 196, 199, 209, 244, 199, 51, 192, 104, 3, 4, 34, 170, 154, 195, 212, 108, 78, 210, 130, 100, 70, 7, 159, 170, 9, 20, 194, 215, 5, 217, 139, 2, 162, 181, 18, 156, 209, 222, 22, 78, 185, 203, 208, 131, 232, 162, 80, 60, 78]⟩
def kP : ByteArray := ⟨#[16, 241, 231, 228, 209, 59, 89, 21, 80, 15, 221, 31, 163, 32, 113, 196]⟩
def kS : ByteArray := ⟨#[130, 65, 59, 66, 39, 178, 123, 254, 211, 14, 66, 80, 138, 135, 125, 115, 160, 249, 228, 213, 138, 116, 168, 83, 193, 46, 196, 19, 38, 211, 236, 220]⟩
theorem S_k : S kK kN 1 = kE := by decide +kernel
theorem D_k : (stirred kE == kD) = true := by
  rw [stirred_fast]
  decide +kernel
theorem blk_k : blk kK kN 1 = kB := by
  unfold blk block summed
  rw [S_k, eq_of_beq D_k]
  decide +kernel
theorem F_k : beg (kK ++ kL) = kF := by decide +kernel
theorem G_k : (stirred kF == kG) = true := by
  rw [stirred_fast]
  decide +kernel
theorem sub_k : sub kK kL = kS := by
  unfold sub
  rw [F_k, eq_of_beq G_k]
  decide +kernel
end Go.Proofs.Ytjcgodojbpfooaa.cha
