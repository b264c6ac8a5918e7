/-
  THE WALKS OF package window's moveTo and Take.
-/
import Derived.Test.YtcbneedlkhiahaaWinLow
import Derived.Deep.RegionWith
namespace Go.Proofs.Ytcbneedlkhiahaa.win
open Go.RowKit
open Go.Proofs.Ytcbneedlkhiahaa.u64 (or64 and64 wrap64u wrap_u)

theorem shl_any (T s : Nat) : Op.shift .shl .u64 (T : Int) .i64 (s : Int) = pure (.int .u64 ((mv T s : Nat) : Int)) := by
  have h1 : ¬ (s : Int) < 0 := by omega
  have e : IntKind.u64.wrap ((T : Int) * 2 ^ min s 64) = ((mv T s : Nat) : Int) := by
    rw [wrap_u]
    unfold mv
    rw [Int.natCast_emod, Int.natCast_mul, Int.natCast_pow]
    rfl
  show (if (s : Int) < 0 then _ else _) = _
  rw [if_neg h1, Int.toNat_natCast]
  show pure (Value.int .u64 (IntKind.u64.wrap ((T : Int) * 2 ^ min s 64))) = _
  rw [e]
set_option maxHeartbeats 800000 in
theorem moveTo_any (b N T n : Nat) (hn : N ≤ n) (hm : n ≤ 1099511627776) (w : World) (hB : W2 w b N T) :
    Calls Try.prog 19 #[.pointer (some ⟨b, 0, none⟩), .int .i64 (n : Int)] w fun e w' => e = .returned (.tuple #[]) ∧ W2 w' b (n + 1) (mv T (n + 1 - N)) ∧ w.grownBy w' (some b) := by
  have c0 := hB.cell 0 _ rfl
  have c1 := hB.cell 1 _ rfl
  have z0 := hB.frozen 0
  have z1 := hB.frozen 1
  have lb := hB.lt
  obtain ⟨x, hx⟩ : ∃ x, x = n + 1 := ⟨_, rfl⟩
  obtain ⟨s, hs⟩ : ∃ s, s = n + 1 - N := ⟨_, rfl⟩
  have e1 : (n : Int) + 1 = (x : Int) := by omega
  have e2 : (x : Int) - (N : Int) = (s : Int) := by omega
  have sh := shl_any T s
  rw [← hs, ← hx]
  have n1 : (n : Int) ≤ 1099511627776 := by omega
  have n0 : (0 : Int) ≤ (n : Int) := by omega
  have N0 : (0 : Int) ≤ (N : Int) := by omega
  have x1 : (x : Int) ≤ 1099511627777 := by omega
  have x0 : (0 : Int) ≤ (x : Int) := by omega
  have NX : (N : Int) ≤ (x : Int) := by omega
  clear hx hs hn hm
  generalize mv T s = R at *
  go_enter Try.func19, Try.ntmps19
  go_wp2_with fail
  go_region
  go_wp2
  go_end0
  exact ⟨rfl, ((hB.set 1 _).set 0 _).drew, but_drew (but_set (but_set (but_refl _ _) 1 _) 0 _)⟩

set_option maxHeartbeats 1600000 in
theorem Take_any (b N T : Nat) (n : Int) (hN : N ≤ 1099511627777) (hT : T < 18446744073709551616) (w : World) (hB : W2 w b N T) :
    Calls Try.prog 10 #[.pointer (some ⟨b, 0, none⟩), .int .i64 n] w fun e w' => e = .returned (.int .i64 (chk N T n)) ∧ W2 w' b (tN N T n) (tT N T n) ∧ w.grownBy w' (some b) := by
  have f1 := Check_any b N T n hN hT
  by_cases hc : chk N T n = 0
  · obtain ⟨m, rfl, hm, hlo⟩ := chk_zero hc
    have eN : tN N T (m : Int) = uN N m := by unfold tN; rw [if_pos hc, Int.toNat_natCast]
    have eT : tT N T (m : Int) = uT N T m := by unfold tT; rw [if_pos hc, Int.toNat_natCast]
    rw [eN, eT]
    rw [hc] at f1 ⊢
    by_cases h : m < N
    · obtain ⟨k, hk⟩ : ∃ k, k = N - 1 - m := ⟨_, rfl⟩
      have hk64 : k < 64 := by have := (hlo h).1; omega
      have f2 := below_any b N T m k (by omega) hN
      have uN' : uN N m = N := by unfold uN; rw [if_pos h]
      have uT' : uT N T m = T ||| 2 ^ k := by unfold uT; rw [if_pos h, uN', ← hk]
      rw [uN', uT']
      have c0 := hB.cell 0 _ rfl
      have c1 := hB.cell 1 _ rfl
      have z1 := hB.frozen 1
      have lb := hB.lt
      have p1 : 2 ^ k < 18446744073709551616 := Nat.pow_lt_pow_right (a := 2) (n := 64) (by decide) hk64
      obtain ⟨p, hp⟩ : ∃ p, p = 2 ^ k := ⟨_, rfl⟩
      rw [← hp] at p1 ⊢
      have s1 : IntKind.u64.wrap ((2 : Int) ^ k) = (p : Int) := by
        rw [hp]
        have := wrap64u (2 ^ k) (by rw [← hp]; exact p1)
        rw [Int.natCast_pow] at this
        rw [Int.natCast_pow]
        exact this
      have o1 := or64 T p hT p1
      have d2 : decide ((m : Int) ≥ (N : Int)) = false := decide_eq_false (by omega)
      have k1 : (k : Int) ≤ 64 := by omega
      have k0 : (0 : Int) ≤ (k : Int) := by omega
      generalize T ||| p = R at *
      clear uN' uT' hk hp p1 hlo eN eT hk64 hc hm
      go_enter Try.func10, Try.ntmps10
      go_wp2_with (go_at_call 8; (with_reducible refine (f1 _ (by assumption)).mono ?_); rintro e w1 ⟨rfl, hq⟩; have hq := hq.symm; subst hq)
      go_region_with (go_at_call 20; (with_reducible refine (f2 _ (by first | exact hB.drew | exact hB)).mono ?_); rintro e w1 ⟨rfl, rfl⟩)
      all_goals go_wp2
      all_goals go_ret
      all_goals exact ⟨rfl, (hB.set 1 _).drew, but_drew (but_set (but_refl _ _) 1 _)⟩
    · have f2 := moveTo_any b N T m (by omega) hm
      have uN' : uN N m = m + 1 := by unfold uN; rw [if_neg h]
      have uT' : uT N T m = mv T (m + 1 - N) ||| 1 := by unfold uT; rw [if_neg h, uN', show m + 1 - 1 - m = 0 from by omega]
      rw [uN', uT']
      have R0 := mv_lt T (m + 1 - N)
      generalize mv T (m + 1 - N) = R at *
      have f3 : ∀ W, W2 W b (m + 1) R → Calls Try.prog 20 #[.pointer (some ⟨b, 0, none⟩), .int .i64 (m : Int)] W fun e w' => e = .returned (.int .i64 0) ∧ w' = W := below_any b (m + 1) R m 0 (by omega) (by omega)
      obtain ⟨x, hx⟩ : ∃ x, x = m + 1 := ⟨_, rfl⟩
      rw [← hx] at f2 f3 ⊢
      have c0 := hB.cell 0 _ rfl
      have o1 : bits .or .u64 (R : Int) 1 = ((R ||| 1 : Nat) : Int) := or64 R 1 R0 (by decide)
      have u1 : IntKind.u64.wrap 1 = 1 := by decide
      have d2 : decide ((m : Int) ≥ (N : Int)) = true := decide_eq_true (by omega)
      have hN2 : N ≤ m := by omega
      generalize R ||| 1 = S at *
      clear uN' uT' hx hlo eN eT hc hm h R0
      go_enter Try.func10, Try.ntmps10
      go_wp2_with (first
        | (go_at_call 8; (with_reducible refine (f1 _ (by assumption)).mono ?_); rintro e w1 ⟨rfl, hq⟩; have hq := hq.symm; subst hq)
        | (go_at_call 19; (with_reducible refine (f2 _ (by assumption)).mono ?_); rintro e w1 ⟨rfl, hB1, hG1⟩; clear c0; have c1 := hB1.cell 1 _ rfl; have z1 := hB1.frozen 1))
      go_region_with (go_at_call 20; (with_reducible refine (f3 _ (by first | exact hB1.drew | exact hB1)).mono ?_); rintro e w2 ⟨rfl, rfl⟩)
      all_goals go_wp2
      all_goals go_ret
      all_goals exact ⟨rfl, (hB1.set 1 _).drew, but_drew (but_set hG1 1 _)⟩
  · have eN : tN N T n = N := by unfold tN; rw [if_neg hc]
    have eT : tT N T n = T := by unfold tT; rw [if_neg hc]
    rw [eN, eT]
    have tE : (chk N T n == 0) = false := by rw [beq_eq_false_iff_ne]; exact hc
    have tF : (chk N T n != 0) = true := by rw [bne_iff_ne]; exact hc
    generalize chk N T n = E at *
    clear eN eT hc
    go_enter Try.func10, Try.ntmps10
    go_wp2_with (go_at_call 8; (with_reducible refine (f1 _ (by assumption)).mono ?_); rintro e w1 ⟨rfl, hq⟩; have hq := hq.symm; subst hq)
    go_ret
    exact ⟨rfl, hB, but_refl _ _⟩
end Go.Proofs.Ytcbneedlkhiahaa.win
