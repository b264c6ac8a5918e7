/-
  THE WALKS OF package window: New, Check, Next, Take and what they call, over one plain state (PlainWindow).
-/
import Derived.Test.YtcbneedlkhiahaaPlainWindow
import Derived.Test.YtcbneedlkhiahaaBlk
import Derived.Test.YtcbneedlkhiahaaBut
import Derived.Test.YtcbneedlkhiahaaWu
namespace Go.Proofs.Ytcbneedlkhiahaa.win
open Go.RowKit
open Go.Proofs.Ytcbneedlkhiahaa.u64 (or64 and64 wrap64u)

/-- Block b is a window: one more than the highest number, and 64 bits. -/
abbrev W2 (w : World) (b N T : Nat) : Prop := Blk w b 39 [.int .i64 (N : Int), .int .u64 (T : Int)]

theorem New_any (w : World) :
    Calls Try.prog 7 #[] w fun e w' => e = .returned (.pointer (some ⟨w.heap.size, 0, none⟩)) ∧ w' = w.alloc (.cells #[.int .i64 0, .int .u64 0] 39) := by
  go_enter Try.func7, Try.ntmps7
  go_wp2
  go_ret
  exact ⟨rfl, rfl⟩
theorem Next_any (b N T : Nat) (w : World) (hB : W2 w b N T) :
    Calls Try.prog 12 #[.pointer (some ⟨b, 0, none⟩)] w fun e w' => e = .returned (.int .i64 (N : Int)) ∧ w' = w := by
  have c0 := hB.cell 0 _ rfl
  go_enter Try.func12, Try.ntmps12
  go_wp2
  go_ret
  exact ⟨rfl, rfl⟩
theorem below_any (b N T n k : Nat) (hk : k + n + 1 = N) (hN : N ≤ 1099511627777) (w : World) (hB : W2 w b N T) :
    Calls Try.prog 20 #[.pointer (some ⟨b, 0, none⟩), .int .i64 (n : Int)] w fun e w' => e = .returned (.int .i64 (k : Int)) ∧ w' = w := by
  have c0 := hB.cell 0 _ rfl
  have h1 : (N : Int) ≤ 1099511627777 := by omega
  have h2 : (0 : Int) ≤ (N : Int) := by omega
  have h3 : (0 : Int) ≤ (n : Int) := by omega
  have h4 : (n : Int) ≤ 1099511627777 := by omega
  have HK : Hid ((N : Int) - 1 - (n : Int) = (k : Int)) := by show _ = _; omega
  clear hk hN
  go_enter Try.func20, Try.ntmps20
  go_wp2
  go_ret
  exact ⟨by rw [HK.out]; rfl, rfl⟩
theorem isOld_any (b N T n : Nat) (hn : n < N) (hN : N ≤ 1099511627777) (hT : T < 18446744073709551616) (w : World) (hB : W2 w b N T) :
    Calls Try.prog 16 #[.pointer (some ⟨b, 0, none⟩), .int .i64 (n : Int)] w fun e w' => e = .returned (.bool (old N T n)) ∧ w' = w := by
  obtain ⟨k, hk⟩ : ∃ k, k = N - 1 - n := ⟨_, rfl⟩
  have f1 := below_any b N T n k (by omega) hN
  have c1 := hB.cell 1 _ rfl
  have hO : old N T n = (decide (64 ≤ k) || T.testBit k) := by unfold old; rw [hk]
  rw [hO]
  have k1 : (k : Int) ≤ 1099511627777 := by omega
  have k0 : (0 : Int) ≤ (k : Int) := by omega
  clear hO hk hn hN
  by_cases c : 64 ≤ k
  · have d0 : decide ((64 : Int) ≤ (k : Int)) = true := decide_eq_true (by omega)
    have d1 : decide ((k : Int) ≥ 64) = true := decide_eq_true (by omega)
    rw [decide_eq_true c, Bool.true_or]
    clear c
    go_enter Try.func16, Try.ntmps16
    go_wp2_with (go_at_call 20; (with_reducible refine (f1 _ (by assumption)).mono ?_); rintro e w1 ⟨rfl, hq⟩; have hq := hq.symm; subst hq)
    go_ret
    exact ⟨rfl, rfl⟩
  · have d0 : decide ((64 : Int) ≤ (k : Int)) = false := decide_eq_false (by omega)
    have d1 : decide ((k : Int) ≥ 64) = false := decide_eq_false (by omega)
    have k2 : (k : Int) ≤ 64 := by omega
    rw [decide_eq_false c, Bool.false_or]
    obtain ⟨q, hq⟩ : ∃ q, q = T / 2 ^ k := ⟨_, rfl⟩
    have q1 : (T : Int) / 2 ^ k = (q : Int) := by rw [hq]; norm_cast
    have qlt : q < 18446744073709551616 := by rw [hq]; exact Nat.lt_of_le_of_lt (Nat.div_le_self _ _) hT
    obtain ⟨r, hr⟩ : ∃ r, r = q % 2 := ⟨_, rfl⟩
    have a1 : bits .and .u64 (q : Int) 1 = (r : Int) := by
      have := and64 q 1 qlt (by decide)
      rw [Nat.and_one_is_mod, ← hr] at this
      exact this
    have HT : Hid (T.testBit k = ((r : Int) == 1)) := by
      show _ = _
      rw [Nat.testBit_eq_decide_div_mod_eq, ← hq, ← hr]
      show decide (r = 1) = decide ((r : Int) = 1)
      apply decide_eq_decide.2
      omega
    clear hq hr qlt c hT
    go_enter Try.func16, Try.ntmps16
    go_wp2_with (go_at_call 20; (with_reducible refine (f1 _ (by assumption)).mono ?_); rintro e w1 ⟨rfl, hq⟩; have hq := hq.symm; subst hq)
    go_ret
    exact ⟨by rw [HT.out]; rfl, rfl⟩
theorem Check_any (b N T : Nat) (n : Int) (hN : N ≤ 1099511627777) (hT : T < 18446744073709551616) (w : World) (hB : W2 w b N T) :
    Calls Try.prog 8 #[.pointer (some ⟨b, 0, none⟩), .int .i64 n] w fun e w' => e = .returned (.int .i64 (chk N T n)) ∧ w' = w := by
  have c0 := hB.cell 0 _ rfl
  by_cases h1 : n < 0
  · rw [chk_arg (.inl h1)]
    have d0 : decide (n < 0) = true := decide_eq_true h1
    clear h1
    go_enter Try.func8, Try.ntmps8
    go_wp2
    go_ret
    exact ⟨rfl, rfl⟩
  · have d0 : decide (n < 0) = false := decide_eq_false h1
    by_cases h2 : n > 1099511627776
    · rw [chk_arg (.inr h2)]
      have d1 : decide (n > 1099511627776) = true := decide_eq_true h2
      clear h1 h2
      go_enter Try.func8, Try.ntmps8
      go_wp2
      go_ret
      exact ⟨rfl, rfl⟩
    · have d1 : decide (n > 1099511627776) = false := decide_eq_false h2
      obtain ⟨m, rfl⟩ : ∃ m : Nat, n = m := ⟨n.toNat, by omega⟩
      rw [chk_nat (by omega)]
      by_cases h3 : m < N
      · have d2 : decide ((m : Int) < (N : Int)) = true := decide_eq_true (by omega)
        have f1 := isOld_any b N T m h3 hN hT
        cases ho : old N T m
        · rw [ho] at f1
          rw [if_neg (fun h => by cases h.2)]
          clear h1 h2 ho
          go_enter Try.func8, Try.ntmps8
          go_wp2_with (go_at_call 16; (with_reducible refine (f1 _ (by assumption)).mono ?_); rintro e w1 ⟨rfl, hq⟩; have hq := hq.symm; subst hq)
          go_ret
          exact ⟨rfl, rfl⟩
        · rw [ho] at f1
          rw [if_pos ⟨h3, rfl⟩]
          clear h1 h2 ho
          go_enter Try.func8, Try.ntmps8
          go_wp2_with (go_at_call 16; (with_reducible refine (f1 _ (by assumption)).mono ?_); rintro e w1 ⟨rfl, hq⟩; have hq := hq.symm; subst hq)
          go_ret
          exact ⟨rfl, rfl⟩
      · have d2 : decide ((m : Int) < (N : Int)) = false := decide_eq_false (by omega)
        rw [if_neg (fun h => h3 h.1)]
        clear h1 h2
        go_enter Try.func8, Try.ntmps8
        go_wp2
        go_ret
        exact ⟨rfl, rfl⟩
end Go.Proofs.Ytcbneedlkhiahaa.win
