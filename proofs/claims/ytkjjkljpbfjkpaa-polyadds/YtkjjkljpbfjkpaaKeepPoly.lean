/-
  THE WALK OF the verifier's number: a text of 16 bytes as two numbers of 64 bits; what it makes of tags.
-/
import Derived.Test.YtkjjkljpbfjkpaaPlainTag
import Derived.Test.YtkjjkljpbfjkpaaSized
import Derived.Test.YtkjjkljpbfjkpaaWu
import Derived.Test.YtkjjkljpbfjkpaaProg
import Derived.WalkKit
import Derived.BigRegion
import Derived.WalkSmall
import Derived.PlainAid
namespace Go.Proofs.Ytkjjkljpbfjkpaa.pol
open Go.RowKit
open Go.Proofs.Ytkjjkljpbfjkpaa.u64
open Go.Proofs.Ytkjjkljpbfjkpaa.ghs (tb tb_lt tb_tx bt_nb dr dr_size tb_dr mkl mkl_length mkl_get mkl_succ mkl_congr text_ext)

theorem byte_step (v k : Nat) : v % 256 ^ k < 2 ^ (8 * k) ∧ v % 256 ^ (k + 1) = v % 256 ^ k + v / 256 ^ k % 256 * 2 ^ (8 * k) := by
  have e : (2 : Nat) ^ (8 * k) = 256 ^ k := by rw [Nat.pow_mul]
  rw [e]
  refine ⟨Nat.mod_lt _ (Nat.pow_pos (by decide)), ?_⟩
  rw [Nat.pow_succ, Nat.mod_mul, Nat.mul_comm (256 ^ k)]
set_option maxRecDepth 100000 in
set_option maxHeartbeats 800000 in
theorem number_any (s : ByteArray) (hs : s.size = 16) (w : World) :
    Calls Try.prog 11 #[.string s] w fun e w' => e = .returned (.tuple #[.int .u64 ((N s % 18446744073709551616 : Nat) : Int), .int .u64 ((N s / 18446744073709551616 : Nat) : Int)]) ∧ w' = w := by
  have hgb := PlainAid.get_bt s
  have k1 : (s.size : Int) = 16 := by omega
  have hN := N_lt s
  rw [hs] at hN
  go_enter Try.func11, Try.ntmps11
  go_wp2_with fail
  go_loopw [4, 5, 7] (fun a b i wr => ∃ k : Nat, k ≤ 8 ∧ i = .int .i64 k ∧ a = .int .u64 ((N s % 256 ^ k : Nat) : Int) ∧ b = .int .u64 ((N s / 256 ^ 8 % 256 ^ k : Nat) : Int) ∧ wr = w) (fun _ _ i _ => 8 - (intOf i).toNat)
  case atStart => exact ⟨0, by omega, rfl, by rw [Nat.pow_zero, Nat.mod_one]; rfl, by rw [Nat.pow_zero, Nat.mod_one]; rfl, rfl⟩
  case round =>
    obtain ⟨k, hk, rfl, rfl, rfl, rfl⟩ := hrel
    by_cases hlt : k < 8
    · have eb1 := bt_nb s k (by omega)
      have eb2 := bt_nb s (8 + k) (by omega)
      obtain ⟨ho1, hs1⟩ := byte_step (N s) k
      obtain ⟨ho2, hs2⟩ := byte_step (N s / 256 ^ 8) k
      rw [Nat.div_div_eq_div_mul, ← Nat.pow_add, tb_N s (8 + k) (by omega)] at hs2
      rw [tb_N s k (by omega)] at hs1
      have l1 := tb_lt s k
      have l2 := tb_lt s (8 + k)
      generalize tb s k = x1 at *
      generalize tb s (8 + k) = x2 at *
      have HS : Hid (k < 8) := hlt
      obtain ⟨o1, h1⟩ : ∃ o1, N s % 256 ^ k = o1 := ⟨_, rfl⟩
      obtain ⟨o2, h2⟩ : ∃ o2, N s / 256 ^ 8 % 256 ^ k = o2 := ⟨_, rfl⟩
      obtain ⟨r1, h3⟩ : ∃ r1, N s % 256 ^ (k + 1) = r1 := ⟨_, rfl⟩
      obtain ⟨r2, h4⟩ : ∃ r2, N s / 256 ^ 8 % 256 ^ (k + 1) = r2 := ⟨_, rfl⟩
      rw [h1] at ho1 hs1
      rw [h2] at ho2 hs2
      rw [h3] at hs1
      rw [h4] at hs2
      rw [h1, h2]
      have HR : Hid (N s % 256 ^ (k + 1) = r1 ∧ N s / 256 ^ 8 % 256 ^ (k + 1) = r2) := ⟨h3, h4⟩
      obtain ⟨q, hq⟩ : ∃ q, q = 8 * k := ⟨_, rfl⟩
      rw [← hq] at ho1 ho2 hs1 hs2
      have hp : 2 ^ q ≤ 2 ^ 56 := Nat.pow_le_pow_right (by decide) (by omega)
      obtain ⟨y1, hy1⟩ : ∃ y1, y1 = x1 * 2 ^ q := ⟨_, rfl⟩
      obtain ⟨y2, hy2⟩ : ∃ y2, y2 = x2 * 2 ^ q := ⟨_, rfl⟩
      have b1 : y1 ≤ 255 * 2 ^ 56 := by rw [hy1]; exact Nat.mul_le_mul (by omega) hp
      have b2 : y2 ≤ 255 * 2 ^ 56 := by rw [hy2]; exact Nat.mul_le_mul (by omega) hp
      have b3 : o1 < 2 ^ 56 := Nat.lt_of_lt_of_le ho1 hp
      have b4 : o2 < 2 ^ 56 := Nat.lt_of_lt_of_le ho2 hp
      have e0 : 8 * (k : Int) = (q : Int) := by omega
      have e1 : IntKind.u64.wrap ((x1 : Int) * 2 ^ q) = (y1 : Int) := by
        rw [show (x1 : Int) * 2 ^ q = (y1 : Int) from by rw [hy1]; simp]; exact wrap64u y1 (by omega)
      have e2 : IntKind.u64.wrap ((x2 : Int) * 2 ^ q) = (y2 : Int) := by
        rw [show (x2 : Int) * 2 ^ q = (y2 : Int) from by rw [hy2]; simp]; exact wrap64u y2 (by omega)
      have e3 : bits .or .u64 (o1 : Int) (y1 : Int) = (r1 : Int) := by
        rw [or64 o1 y1 (by omega) (by omega), hy1, or_add o1 x1 q ho1, ← hs1]
      have e4 : bits .or .u64 (o2 : Int) (y2 : Int) = (r2 : Int) := by
        rw [or64 o2 y2 (by omega) (by omega), hy2, or_add o2 x2 q ho2, ← hs2]
      have k0 : (0 : Int) ≤ (k : Int) := by omega
      have kz : (k : Int) < 8 := by omega
      have q0 : (0 : Int) ≤ (q : Int) := by omega
      have q1 : (q : Int) ≤ 64 := by omega
      have n1 : (8 + (k : Int)).toNat = 8 + k := by omega
      have HZ : Hid (s.size = 16) := hs
      clear ho1 ho2 hs1 hs2 h1 h2 h3 h4 hp hy1 hy2 b1 b2 b3 b4 hq hlt hN hs
      go_wp2_with fail
      go_roundw
      case rel => exact ⟨k + 1, HS.out, by go_num, by rw [HR.out.1], by rw [HR.out.2], trivial⟩
      case measure => have := HS.out; simp [intOf]; omega
    · obtain rfl : k = 8 := by omega
      have e1 : N s % 256 ^ 8 = N s % 18446744073709551616 := by rw [show (256 : Nat) ^ 8 = 18446744073709551616 from by decide]
      have e2 : N s / 256 ^ 8 % 256 ^ 8 = N s / 18446744073709551616 := by
        rw [show (256 : Nat) ^ 8 = 18446744073709551616 from by decide]
        refine Nat.mod_eq_of_lt ?_
        have hN : N s < 256 ^ 16 := hN
        rw [show (256 : Nat) ^ 16 = 340282366920938463463374607431768211456 from by decide] at hN
        omega
      rw [e1, e2]
      clear e1 e2 hN
      go_wp2_with fail
      go_ret2
      exact ⟨rfl, rfl⟩

/-! ### What tags come to -/
theorem trim_app (k n m : ByteArray) (hk : k.size = 16) : trim (k ++ n) = trim (k ++ m) :=
  trim_congr fun j hj => by
    have e : ∀ x : ByteArray, tb (k ++ x) j = tb k j := fun x => by
      unfold tb
      rw [nb_app, List.getD_eq_getElem?_getD, List.getElem?_append_left (by rw [nb_length, hk]; exact hj), List.getD_eq_getElem?_getD]
    rw [e n, e m]
theorem dr_app (k n : ByteArray) (hk : k.size = 16) : dr (k ++ n) 16 = n := by
  refine text_ext (by rw [dr_size, ByteArray.size_append, hk]; omega) fun j hj => ?_
  rw [tb_dr]
  unfold tb
  rw [nb_app, List.getD_eq_getElem?_getD, List.getElem?_append_right (by rw [nb_length, hk]; omega), nb_length, hk, Nat.add_sub_cancel_left, List.getD_eq_getElem?_getD]
theorem N_noughts (n : Nat) : N (noughts n) = 0 := by
  have e : nb (noughts n) = List.replicate n 0 := by simp [nb, noughts]
  rw [N, e, val_zeros]
/-- What the key's second half says is added, and no more. -/
theorem tag_adds (k n s : ByteArray) (hk : k.size = 16) : ∃ A, N (tag (k ++ n) s) = (A + N n) % 340282366920938463463374607431768211456 ∧ N (tag (k ++ noughts 16) s) = A % 340282366920938463463374607431768211456 := by
  refine ⟨acc (N (trim (k ++ n))) s (nbk s), ?_, ?_⟩
  · rw [tag, N_T, tagN, dr_app k n hk, show (256 : Nat) ^ 16 = 340282366920938463463374607431768211456 from by decide]
  · rw [tag, N_T, tagN, dr_app k _ hk, N_noughts, Nat.add_zero, trim_app k (noughts 16) n hk, show (256 : Nat) ^ 16 = 340282366920938463463374607431768211456 from by decide]
end Go.Proofs.Ytkjjkljpbfjkpaa.pol
