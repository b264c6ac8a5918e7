/-
  THE WALKS OF package stamp's After, isTime and number.
-/
import Derived.Test.YtkkechklpijgkaaPlainStamp
import Derived.Test.YtkkechklpijgkaaPlainGhashText
import Derived.Test.YtkkechklpijgkaaWu
import Derived.Test.YtkkechklpijgkaaConv
import Derived.Test.YtkkechklpijgkaaTail
namespace Go.Proofs.Ytkkechklpijgkaa.stm
open Go.RowKit
open Go.Proofs.Ytkkechklpijgkaa.ghs (bt_nb tb tb_lt)
open Go.Proofs.Ytkkechklpijgkaa.u64 (or64 or_add wrap_u wrap64u)

/-- A time, as a value. -/
abbrev st (a b : Int) : Value := .agg #[.int .i64 a, .int .i64 b]
/-- Is it later? -/
def later (a b c d : Int) : Bool := decide (c < a ∨ a = c ∧ d < b)
theorem after_any (a b c d : Int) (w : World) :
    Calls Try.prog 9 #[st a b, st c d] w fun e w' => e = .returned (.bool (later a b c d)) ∧ Below w.heap.size w w' := by
  by_cases h : a = c
  · subst h
    have h0 : (a != a) = false := by simp
    have h1 : later a b a d = decide (b > d) := decide_eq_decide.2 (by omega)
    rw [h1]
    go_enter Try.func9, Try.ntmps9
    go_wp2
    go_ret
    exact ⟨rfl, ((Below.refl _ _).alloc (Nat.le_refl _) _).alloc (by simp) _⟩
  · have h0 : (a != c) = true := by simpa using h
    have h1 : later a b c d = decide (a > c) := decide_eq_decide.2 (by omega)
    rw [h1]
    go_enter Try.func9, Try.ntmps9
    go_wp2
    go_ret
    exact ⟨rfl, ((Below.refl _ _).alloc (Nat.le_refl _) _).alloc (by simp) _⟩

/-- Is it one that Write tells of? -/
def ok (a b : Int) : Bool := decide (0 ≤ a ∧ a ≤ 1099511627776 ∧ 0 ≤ b ∧ b ≤ 999999999)
theorem isTime_any (a b : Int) (w : World) :
    Calls Try.prog 13 #[st a b] w fun e w' => e = .returned (.bool (ok a b)) ∧ Below w.heap.size w w' := by
  by_cases c1 : 0 ≤ a
  · by_cases c2 : a ≤ 1099511627776
    · by_cases c3 : 0 ≤ b
      · have d1 : decide (0 ≤ a) = true := by simpa using c1
        have d2 : decide (a ≤ 1099511627776) = true := by simpa using c2
        have d3 : decide (0 ≤ b) = true := by simpa using c3
        have h1 : ok a b = decide (b ≤ 999999999) := decide_eq_decide.2 (by omega)
        rw [h1]
        go_enter Try.func13, Try.ntmps13
        go_wp2
        go_ret
        exact ⟨rfl, (Below.refl _ _).alloc (Nat.le_refl _) _⟩
      · have d1 : decide (0 ≤ a) = true := by simpa using c1
        have d2 : decide (a ≤ 1099511627776) = true := by simpa using c2
        have d3 : decide (0 ≤ b) = false := by simpa using c3
        have h1 : ok a b = false := decide_eq_false (by omega)
        rw [h1]
        go_enter Try.func13, Try.ntmps13
        go_wp2
        go_ret
        exact ⟨rfl, (Below.refl _ _).alloc (Nat.le_refl _) _⟩
    · have d1 : decide (0 ≤ a) = true := by simpa using c1
      have d2 : decide (a ≤ 1099511627776) = false := by simpa using c2
      have h1 : ok a b = false := decide_eq_false (by omega)
      rw [h1]
      go_enter Try.func13, Try.ntmps13
      go_wp2
      go_ret
      exact ⟨rfl, (Below.refl _ _).alloc (Nat.le_refl _) _⟩
  · have d1 : decide (0 ≤ a) = false := by simpa using c1
    have h1 : ok a b = false := decide_eq_false (by omega)
    rw [h1]
    go_enter Try.func13, Try.ntmps13
    go_wp2
    go_ret
    exact ⟨rfl, (Below.refl _ _).alloc (Nat.le_refl _) _⟩

theorem hv_tb (s : ByteArray) (k : Nat) (h : k < s.size) : hv ((nb s).take (k + 1)) = hv ((nb s).take k) * 256 + tb s k := by
  have hl : k < (nb s).length := by rw [nb_length]; exact h
  rw [List.take_succ_eq_append_getElem hl, hv_snoc]
  unfold tb
  rw [List.getD_eq_getElem?_getD, List.getElem?_eq_getElem hl]
  rfl
theorem hv_take_lt (s : ByteArray) (k : Nat) (h : k ≤ s.size) : hv ((nb s).take k) < 256 ^ k := by
  have := hv_lt ((nb s).take k) fun x hx => nb_lt s x (List.mem_of_mem_take hx)
  rw [List.length_take, nb_length, Nat.min_eq_left h] at this
  exact this
set_option maxHeartbeats 800000 in
theorem number_any (s : ByteArray) (hs : s.size ≤ 8) (w : World) :
    Calls Try.prog 17 #[.string s] w fun e w' => e = .returned (.int .u64 (hv (nb s) : Nat)) ∧ w' = w := by
  have hgb := PlainAid.get_bt s
  go_enter Try.func17, Try.ntmps17
  go_wp2_with fail
  go_loopw [3, 4] (fun n i wr => ∃ k : Nat, k ≤ s.size ∧ i = .int .i64 k ∧ n = .int .u64 (hv ((nb s).take k) : Nat) ∧ wr = w) (fun _ i _ => s.size - (intOf i).toNat)
  case atStart => exact ⟨0, by omega, rfl, rfl, rfl⟩
  case round =>
    obtain ⟨k, hk, rfl, rfl, rfl⟩ := hrel
    by_cases hlt : k < s.size
    · have d0 : decide ((k : Int) < (s.size : Int)) = true := by simp; omega
      have e1 := bt_nb s k hlt
      have l1 := tb_lt s k
      have l2 := hv_take_lt s k hk
      have l3 : 256 ^ k ≤ 256 ^ 7 := Nat.pow_le_pow_right (by decide) (by omega)
      have HU : Hid (hv ((nb s).take (k + 1)) = hv ((nb s).take k) * 256 + tb s k) := hv_tb s k hlt
      generalize tb s k = x at *
      generalize hv ((nb s).take k) = y at *
      have yb : y < 72057594037927936 := Nat.lt_of_lt_of_le l2 l3
      have o1 := or64 (y * 256) x (by omega) (by omega)
      rw [Nat.or_comm, or_add x y 8 (by omega)] at o1
      obtain ⟨z, hz⟩ : ∃ z, z = y * 256 := ⟨_, rfl⟩
      obtain ⟨q, hq⟩ : ∃ q, q = x + z := ⟨_, rfl⟩
      rw [← hz, ← hq] at o1
      have w1 : IntKind.u64.wrap ((y : Int) * 2 ^ 8) = (z : Int) := by rw [show (y : Int) * 2 ^ 8 = (z : Int) from by omega]; exact wrap64u z (by omega)
      have w1' : IntKind.u64.wrap ((y : Int) * 256) = (z : Int) := w1
      have HQ : Hid (q = hv ((nb s).take (k + 1))) := by show _ = _; rw [HU.out]; omega
      have kz : (k : Int) < (s.size : Int) := by omega
      have k8 : (k : Int) < 8 := by omega
      have HK : Hid (k < s.size) := hlt
      clear hz hq l2 l3 HU yb
      go_wp2_with fail
      go_roundw
      case rel => exact ⟨k + 1, HK.out, by go_num, by rw [← HQ.out], by first | rfl | trivial⟩
      case measure => have := HK.out; simp [intOf]; omega
    · obtain rfl : k = s.size := by omega
      rw [List.take_of_length_le (by rw [nb_length]; exact Nat.le_refl _)]
      go_wp2_with fail
      go_ret
      exact ⟨rfl, rfl⟩
end Go.Proofs.Ytkkechklpijgkaa.stm
