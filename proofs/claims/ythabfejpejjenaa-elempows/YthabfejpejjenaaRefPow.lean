/-
  THE WALK OF the document's own powers, of an exponent that is a number.
-/
import Derived.Test.YthabfejpejjenaaRefElem
namespace Go.Proofs.Ythabfejpejjenaa.num
open Go.RowKit

theorem ex_acc (l : List UInt8) : ∀ n : Nat, l.foldl (fun n c => 2 * n + (if c = 49 then 1 else 0)) n = n * 2 ^ l.length + ex l := by
  induction l with
  | nil => intro n; simp [ex]
  | cons c l ih =>
    intro n
    have h1 : ex (c :: l) = (2 * 0 + (if c = 49 then 1 else 0)) * 2 ^ l.length + ex l := ih _
    rw [List.foldl_cons, ih, h1, List.length_cons, Nat.pow_succ, Nat.mul_zero, Nat.zero_add, Nat.add_mul]
    have : 2 * n * 2 ^ l.length = n * (2 ^ l.length * 2) := by rw [Nat.mul_comm 2 n, Nat.mul_assoc, Nat.mul_comm 2]
    omega
theorem ex_cons (c : UInt8) (l : List UInt8) : ex (c :: l) = (if c = 49 then 1 else 0) * 2 ^ l.length + ex l := by
  have h : ex (c :: l) = (2 * 0 + (if c = 49 then 1 else 0)) * 2 ^ l.length + ex l := ex_acc l (2 * 0 + (if c = 49 then 1 else 0))
  rw [Nat.mul_zero, Nat.zero_add] at h
  exact h

set_option maxHeartbeats 400000 in
theorem elempow_bad (a : ByteArray) (n : Int) (h : a.size ≠ 32) (w : World) :
    Calls Try.prog 10 #[.string a, .int .u64 n] w fun e w' => e = .returned (.tuple #[.string ⟨#[]⟩, .int .i64 1]) ∧ w' = w := by
  have t1 : ((a.size : Int) != 32) = true := by rw [bne_iff_ne]; omega
  clear h
  go_enter Try.func10, Try.ntmps10
  go_wp2
  go_ret2
  exact ⟨rfl, rfl⟩

set_option maxRecDepth 100000 in
set_option maxHeartbeats 1600000 in
theorem elempow_any (a : ByteArray) (n : Nat) (hn : n < 18446744073709551616) (ha : a.size = 32) (w : World) :
    Calls Try.prog 10 #[.string a, .int .u64 n] w fun e w' => e = .returned (.tuple #[.string (text (N a ^ n)), .int .i64 0]) ∧ Below w.heap.size w w' := by
  have oa := N_ok a ha
  have t1 : ((a.size : Int) != 32) = false := by rw [bne_eq_false_iff_eq]; omega
  have HA : Hid (a.size = 32) := ha
  clear ha
  go_enter Try.func10, Try.ntmps10
  go_wp2_with fail
  go_loopw [1, 6] (fun q v wr => ∃ (m : Nat) (l : List UInt8), m ≤ n ∧ q = .int .u64 m ∧ v = .string ⟨l.toArray⟩ ∧ (∀ c ∈ l, c = 48 ∨ c = 49) ∧ n = m * 2 ^ l.length + ex l ∧ Below w.heap.size w wr) (fun q _ _ => (intOf q).toNat)
  case atStart => exact ⟨n, [], Nat.le_refl _, rfl, rfl, by simp, by simp [ex], Below.refl _ _⟩
  case round =>
    obtain ⟨m, l, hm, rfl, rfl, hl, he, hnx⟩ := hrel
    by_cases h0 : 0 < m
    · have hd : decide ((m : Int) > 0) = true := by simp; omega
      have hr : (m : Int).tmod 2 = ((m % 2 : Nat) : Int) := by rw [Int.tmod_eq_emod_of_nonneg (by omega)]; rfl
      have hq : (m : Int).tdiv 2 = ((m / 2 : Nat) : Int) := by rw [Int.tdiv_eq_ediv_of_nonneg (by omega)]; rfl
      have hr2 : m % 2 < 2 := Nat.mod_lt _ (by decide)
      have hmd := Nat.div_add_mod m 2
      have hlen : l.length < 64 := by
        rcases Nat.lt_or_ge l.length 64 with h | h
        · exact h
        · have h1 : 2 ^ 64 ≤ 2 ^ l.length := Nat.pow_le_pow_right (by decide) h
          have h2 : 1 * 2 ^ l.length ≤ m * 2 ^ l.length := Nat.mul_le_mul_right _ h0
          have h3 : (2 : Nat) ^ 64 = 18446744073709551616 := by decide
          omega
      have HE : Hid (n = m * 2 ^ l.length + ex l) := he
      have HL : Hid (∀ c ∈ l, c = 48 ∨ c = 49) := hl
      clear he hl
      obtain ⟨r, hrr⟩ : ∃ r, m % 2 = r := ⟨_, rfl⟩
      obtain ⟨q, hqq⟩ : ∃ q, m / 2 = q := ⟨_, rfl⟩
      rw [hrr] at hr hr2 hmd
      rw [hqq] at hq hmd
      clear hrr hqq
      go_wp2_with (go_at_call 22; refine (chr_any (48 + (r : Int)) (by omega) (by omega) _).mono ?_; rintro e w1 ⟨rfl, hb1⟩)
      go_roundw
      case rel =>
        have hcc : ∃ c : UInt8, (c = 48 ∨ c = 49) ∧ (if c = 49 then 1 else 0) = r ∧ UInt8.ofNat (48 + r) = c := by
          rcases (by omega : r = 0 ∨ r = 1) with rfl | rfl
          · exact ⟨48, .inl rfl, rfl, rfl⟩
          · exact ⟨49, .inr rfl, rfl, rfl⟩
        obtain ⟨c, h1, h2, h3⟩ := hcc
        rw [h3]
        refine ⟨q, c :: l, by omega, rfl, ?_, ?_, ?_, hnx.trans (hb1.mono hnx.size)⟩
        · congr 1
        · intro d hd
          rcases List.mem_cons.1 hd with rfl | h
          · exact h1
          · exact HL.out d h
        · rw [ex_cons, h2, List.length_cons, Nat.pow_succ, HE.out, ← hmd, Nat.add_mul]
          have : 2 * q * 2 ^ l.length = q * (2 ^ l.length * 2) := by rw [Nat.mul_comm 2 q, Nat.mul_assoc, Nat.mul_comm 2]
          omega
      case measure => simp [intOf]; omega
    · obtain rfl : m = 0 := by omega
      have hd : decide (((0 : Nat) : Int) > 0) = false := rfl
      have HE : Hid (n = ex l) := by show n = ex l; omega
      have HL : Hid (∀ c ∈ l, c = 48 ∨ c = 49) := hl
      clear he hl
      go_wp2_with (first | (go_at_call 13; refine (numOf_any a HA.out _).mono ?_; rintro e w1 ⟨rfl, hb1⟩) | (go_at_call 23; refine (power_any (N a) oa ⟨l.toArray⟩ HL.out _).mono ?_; rintro e w2 ⟨⟨v, hv, hvm, rfl⟩, hb2⟩) | (go_at_call 17; refine (text_any v hv _).mono ?_; rintro e w3 ⟨rfl, hb3⟩))
      go_ret2
      have hB1 := hnx.trans (hb1.mono hnx.size)
      have hB2 := hB1.trans (hb2.mono hB1.size)
      refine ⟨?_, hB2.trans (hb3.mono hB2.size)⟩
      rw [text_congr v _ hvm, HE.out]
      rfl
end Go.Proofs.Ythabfejpejjenaa.num
