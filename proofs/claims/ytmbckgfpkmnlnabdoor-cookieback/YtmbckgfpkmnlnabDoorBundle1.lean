/-
  THE FRAME OF THE LAWS OVER TEXTS: what the bound on the arguments' letters gives.
  PLAIN MATHEMATICS OF bytes as polynomials over two elements, modulo x^8 + x^4 + x^3 + x + 1. No program is named here.
-/
import Derived.Test.YtmbckgfpkmnlnabDoorRows
import Derived.WalkKit
import Derived.ProofKit
import Derived.OpenShut
import Derived.JoinedCond
import Derived.Laws.BitsAllLaws
namespace Go.Proofs.YtmbckgfpkmnlnabDoor
open Go.RowKit

theorem own : ownKnob Tryd.prog.godebug = none := by kernel_rfl

/-- Two texts: their letters. -/
theorem short2 {H : Type} {s t : ByteArray} (hk : Rows.uptoSmall H [.lit (.string s.data.toList), .lit (.string t.data.toList)] = true) : s.size + t.size ≤ 1048576 := by
  have h : Rows.uptoBulkAll [DataW.lit (H := H) (.string s.data.toList), DataW.lit (H := H) (.string t.data.toList)] ≤ 1048576 := of_decide_eq_true hk
  simp only [Rows.uptoBulkAll, Rows.uptoBulk] at h
  have e : s.data.toList.length = s.size := by rw [Array.length_toList]; rfl
  have e' : t.data.toList.length = t.size := by rw [Array.length_toList]; rfl
  omega
/-- A byte. -/
theorem u8_bd {n : Int} (h : (Lit.int .u8 n).wf = true) : 0 ≤ n ∧ n < 256 := by
  simp [Lit.wf] at h
  have h0 : IntKind.u8.min = 0 := rfl
  have h1 : IntKind.u8.max = 255 := rfl
  omega
/-- A number of 32 bits. -/
theorem u32_bd {n : Int} (h : (Lit.int .u32 n).wf = true) : 0 ≤ n ∧ n < 4294967296 := by
  simp [Lit.wf] at h
  have h0 : IntKind.u32.min = 0 := rfl
  have h1 : IntKind.u32.max = 4294967295 := rfl
  omega
/-- A number of 64 bits. -/
theorem u64_bd {n : Int} (h : (Lit.int .u64 n).wf = true) : 0 ≤ n ∧ n < 18446744073709551616 := by
  simp [Lit.wf] at h
  have h0 : IntKind.u64.min = 0 := rfl
  have h1 : IntKind.u64.max = 18446744073709551615 := rfl
  omega
end Go.Proofs.YtmbckgfpkmnlnabDoor
namespace Go.Proofs.YtmbckgfpkmnlnabDoor.gal
open Go.RowKit

/-- All products of bits, the first k rows. -/
def rows (a b : Nat) : Nat → Nat
  | 0 => 0
  | k + 1 => rows a b k ^^^ a * 2 ^ k * (b / 2 ^ k % 2)
/-- Less the polynomial, from bit 14 on, k times. -/
def cuts (n : Nat) : Nat → Nat
  | 0 => n
  | k + 1 => cuts n k ^^^ 283 * 2 ^ (6 - k) * (cuts n k / 2 ^ (14 - k) % 2)
/-- The product. -/
def gm (a b : Nat) : Nat := cuts (rows a b 8) 7 % 256

/-- The first below n. -/
def srch (p : Nat → Bool) : Nat → Option Nat
  | 0 => none
  | n + 1 => match srch p n with
    | some k => some k
    | none => if p n then some n else none
theorem srch_found (p : Nat → Bool) (k : Nat) (h0 : srch p k = none) (h1 : p k = true) : ∀ n, k < n → srch p n = some k := by
  intro n
  induction n with
  | zero => intro h; omega
  | succ n ih =>
    intro h
    by_cases e : k = n
    · subst e; simp [srch, h0, h1]
    · simp [srch, ih (by omega)]
theorem srch_none (p : Nat → Bool) (k : Nat) (h0 : srch p k = none) (h1 : p k = false) : srch p (k + 1) = none := by simp [srch, h0, h1]
/-- The inverse. -/
def ginv (a : Nat) : Nat := (srch (fun b => gm a b == 1) 256).getD 0
def ks : List Nat := [0, 4, 5, 6, 7]
def accB (b i : Nat) : Nat → Nat
  | 0 => 99 / 2 ^ i
  | k + 1 => accB b i k + b / 2 ^ ((i + ks.getD k 0) % 8)
def affs (b : Nat) : Nat → Nat
  | 0 => 0
  | i + 1 => affs b i + accB b i 5 % 2 * 2 ^ i
def gaff (b : Nat) : Nat := affs b 8 % 256
/-- What a byte stands for. -/
def gsub (a : Nat) : Nat := gaff (ginv a)
def gback (a : Nat) : Nat := (srch (fun b => gsub b == a) 256).getD 0
theorem srch_lt (p : Nat → Bool) : ∀ n k, srch p n = some k → k < n
  | 0, k, h => by simp [srch] at h
  | n + 1, k, h => by
    unfold srch at h
    cases e : srch p n with
    | some j => rw [e] at h; have := srch_lt p n j e; simp at h; omega
    | none =>
      rw [e] at h
      by_cases hp : p n = true
      · simp [hp] at h; omega
      · simp [hp] at h
theorem getD_lt (p : Nat → Bool) : (srch p 256).getD 0 < 256 := by
  cases e : srch p 256 with
  | none => decide
  | some k => exact srch_lt p 256 k e
theorem ginv_lt (a : Nat) : ginv a < 256 := getD_lt _
theorem gaff_lt (a : Nat) : gaff a < 256 := Nat.mod_lt _ (by decide)
theorem gsub_lt (a : Nat) : gsub a < 256 := gaff_lt _
theorem gback_lt (a : Nat) : gback a < 256 := getD_lt _
theorem accB_le (b i : Nat) (hb : b < 256) : ∀ k, accB b i k ≤ 99 + 255 * k
  | 0 => by show 99 / 2 ^ i ≤ _; have := Nat.div_le_self 99 (2 ^ i); omega
  | k + 1 => by
    show accB b i k + b / 2 ^ ((i + ks.getD k 0) % 8) ≤ _
    have h1 := accB_le b i hb k
    have h2 := Nat.div_le_self b (2 ^ ((i + ks.getD k 0) % 8))
    omega
theorem affs_lt (b : Nat) : ∀ i, affs b i < 2 ^ i
  | 0 => by show 0 < 1; decide
  | i + 1 => by
    show affs b i + accB b i 5 % 2 * 2 ^ i < 2 ^ (i + 1)
    have h1 := affs_lt b i
    have h2 : accB b i 5 % 2 * 2 ^ i ≤ 1 * 2 ^ i := Nat.mul_le_mul_right _ (by omega)
    rw [Nat.pow_succ]; omega

theorem xor_lt {a b n : Nat} (ha : a < 2 ^ n) (hb : b < 2 ^ n) : a ^^^ b < 2 ^ n := Nat.xor_lt_two_pow ha hb
theorem pow_le {k n : Nat} (h : k ≤ n) : 2 ^ k ≤ 2 ^ n := Nat.pow_le_pow_right (by decide) h
theorem row_lt (a b k : Nat) (ha : a < 256) (hk : k < 8) : a * 2 ^ k * (b / 2 ^ k % 2) < 2 ^ 15 := by
  have h1 : a * 2 ^ k ≤ 255 * 2 ^ k := Nat.mul_le_mul_right _ (by omega)
  have h2 : 2 ^ k ≤ 2 ^ 7 := pow_le (by omega)
  have h3 : b / 2 ^ k % 2 ≤ 1 := by omega
  have h4 : a * 2 ^ k * (b / 2 ^ k % 2) ≤ a * 2 ^ k * 1 := Nat.mul_le_mul_left _ h3
  omega
theorem rows_lt (a b : Nat) (ha : a < 256) : ∀ k, k ≤ 8 → rows a b k < 2 ^ 15
  | 0, _ => by show 0 < 2 ^ 15; decide
  | k + 1, h => xor_lt (rows_lt a b ha k (by omega)) (row_lt a b k ha (by omega))
theorem cut_lt (n k : Nat) (hk : k < 7) : 283 * 2 ^ (6 - k) * (n / 2 ^ (14 - k) % 2) < 2 ^ 15 := by
  have h2 : 2 ^ (6 - k) ≤ 2 ^ 6 := pow_le (by omega)
  have h3 : n / 2 ^ (14 - k) % 2 ≤ 1 := by omega
  have h4 : 283 * 2 ^ (6 - k) * (n / 2 ^ (14 - k) % 2) ≤ 283 * 2 ^ (6 - k) * 1 := Nat.mul_le_mul_left _ h3
  omega
theorem cuts_lt (n : Nat) (h : n < 2 ^ 15) : ∀ k, k ≤ 7 → cuts n k < 2 ^ 15
  | 0, _ => h
  | k + 1, hk => xor_lt (cuts_lt n h k (by omega)) (cut_lt _ k (by omega))
theorem gm_lt (a b : Nat) : gm a b < 256 := Nat.mod_lt _ (by decide)

/-! ### The model's words for it -/
theorem wrap_in (n : Int) (h : -9223372036854775808 ≤ n ∧ n ≤ 9223372036854775807) : wrap64 n = n := by unfold wrap64; omega
theorem ofInt64 (a : Nat) (h : a < 9223372036854775808) : (BitVec.ofInt 64 (a : Int)).toNat = a := by
  rw [BitVec.ofInt_natCast, BitVec.toNat_ofNat]; exact Nat.mod_eq_of_lt (by omega)
theorem wrapI64 (n : Nat) (h : n < 9223372036854775808) : IntKind.i64.wrap (n : Int) = (n : Int) := by
  simp [IntKind.wrap, IntKind.bits, IntKind.signed]
  omega
theorem xor64 (a b : Nat) (ha : a < 9223372036854775808) (hb : b < 9223372036854775808) : bits .xor .i64 (a : Int) (b : Int) = ((a ^^^ b : Nat) : Int) := by
  have hx : a ^^^ b < 2 ^ 63 := Nat.xor_lt_two_pow (by omega) (by omega)
  show IntKind.i64.wrap ((BitVec.ofInt 64 (a : Int) ^^^ BitVec.ofInt 64 (b : Int)).toNat : Int) = _
  rw [BitVec.toNat_xor, ofInt64 a ha, ofInt64 b hb]
  exact wrapI64 _ (by omega)
theorem row_int (a b k : Nat) (ha : a < 256) (hk : k < 8) : wrap64 (wrap64 ((a : Int) * 2 ^ k) * ((b : Int) / 2 ^ k).tmod 2) = ((a * 2 ^ k * (b / 2 ^ k % 2) : Nat) : Int) := by
  have e : ((b : Int) / 2 ^ k).tmod 2 = ((b / 2 ^ k % 2 : Nat) : Int) := by
    rw [Int.tmod_eq_emod_of_nonneg (Int.ediv_nonneg (by omega) (Int.pow_nonneg (by decide)))]
    simp
  have h1 : a * 2 ^ k ≤ 255 * 2 ^ k := Nat.mul_le_mul_right _ (by omega)
  have h2 : 2 ^ k ≤ 2 ^ 7 := pow_le (by omega)
  have e2 : (a : Int) * 2 ^ k = ((a * 2 ^ k : Nat) : Int) := by simp
  have h5 := row_lt a b k ha hk
  have h6 : a * 2 ^ k < 32768 := by omega
  rw [e, e2]
  generalize a * 2 ^ k = X at *
  generalize b / 2 ^ k % 2 = Y at *
  have e3 : wrap64 (X : Int) = (X : Int) := wrap_in _ (by omega)
  rw [e3, ← Int.natCast_mul]
  generalize X * Y = Z at *
  exact wrap_in _ (by omega)
theorem cut_int (n k : Nat) (hk : k < 7) : wrap64 (wrap64 (283 * 2 ^ (6 - k)) * ((n : Int) / 2 ^ (14 - k)).tmod 2) = ((283 * 2 ^ (6 - k) * (n / 2 ^ (14 - k) % 2) : Nat) : Int) := by
  have e : ((n : Int) / 2 ^ (14 - k)).tmod 2 = ((n / 2 ^ (14 - k) % 2 : Nat) : Int) := by
    rw [Int.tmod_eq_emod_of_nonneg (Int.ediv_nonneg (by omega) (Int.pow_nonneg (by decide)))]
    simp
  have h2 : 2 ^ (6 - k) ≤ 2 ^ 6 := pow_le (by omega)
  have e2 : (283 : Int) * 2 ^ (6 - k) = ((283 * 2 ^ (6 - k) : Nat) : Int) := by simp
  have h5 := cut_lt n k hk
  have h6 : 283 * 2 ^ (6 - k) < 32768 := by omega
  rw [e, e2]
  generalize 283 * 2 ^ (6 - k) = X at *
  generalize n / 2 ^ (14 - k) % 2 = Y at *
  have e3 : wrap64 (X : Int) = (X : Int) := wrap_in _ (by omega)
  rw [e3, ← Int.natCast_mul]
  generalize X * Y = Z at *
  exact wrap_in _ (by omega)
end Go.Proofs.YtmbckgfpkmnlnabDoor.gal
