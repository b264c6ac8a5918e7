/-
  THE WALK OF the document's own Rest.
-/
import Derived.Test.YtnomfkmdckmjeaaProg
import Derived.WalkKit
namespace Go.Proofs.Ytnomfkmdckmjeaa
open Go.RowKit

set_option maxHeartbeats 400000 in
theorem rest_any (n : Int) (m : Nat) (hm : 0 < m) (hm2 : m ≤ 1099511627776) (h : -9223372036854775808 ≤ n ∧ n ≤ 9223372036854775807) (w : World) :
    Calls Try.prog 12 #[.int .i64 n, .int .i64 m] w fun e w' => e = .returned (.int .i64 (((n % (m : Int)).toNat : Nat) : Int)) ∧ w' = w := by
  obtain ⟨r, hr⟩ : ∃ r, r = n.tmod (m : Int) := ⟨_, rfl⟩
  have hlt := Int.emod_lt_of_pos n (show (0 : Int) < m by omega)
  have hge := Int.emod_nonneg n (show (m : Int) ≠ 0 by omega)
  have hz : (m : Int) ≠ 0 := by omega
  have hz2 : ((m : Int) == 0) = false := by rw [beq_eq_false_iff_ne]; omega
  have hm0 : m ≠ 0 := by omega
  obtain ⟨q, hq⟩ : ∃ q : Nat, ((n % (m : Int)).toNat) = q := ⟨_, rfl⟩
  rw [hq]
  have hcase : (0 ≤ r ∧ r = (q : Int)) ∨ (r < 0 ∧ r + (m : Int) = (q : Int)) := by
    have h1 := Int.tmod_add_mul_tdiv n (m : Int)
    have h2 := Int.emod_add_mul_ediv n (m : Int)
    rcases Int.lt_or_le n 0 with hn | hn
    · have e := Int.tmod_eq_emod (a := n) (b := (m : Int))
      rw [← hr] at e
      rcases Int.decEq (n % (m : Int)) 0 with hd | hd
      · have hnd : ¬ (0 ≤ n ∨ (m : Int) ∣ n) := by
          rintro (h | h)
          · omega
          · exact hd (Int.emod_eq_zero_of_dvd h)
        rw [if_neg hnd] at e
        right
        have : ((m : Int).natAbs : Int) = m := by omega
        omega
      · have hd' : (m : Int) ∣ n := Int.dvd_of_emod_eq_zero hd
        rw [if_pos (.inr hd')] at e
        left; omega
    · left
      rw [Int.tmod_eq_emod_of_nonneg hn] at hr
      omega
  have hrw : n.tmod (m : Int) = r := hr.symm
  have hql : q < m := by omega
  clear hr hq hlt hge
  rcases hcase with ⟨c1, c2⟩ | ⟨c1, c2⟩
  · have d0 : decide (r < 0) = false := by simp; omega
    have hb : -9223372036854775808 ≤ r ∧ r ≤ 9223372036854775807 := by omega
    subst c2
    go_enter Try.func12, Try.ntmps12
    go_wp2_with fail
    go_ret
    exact ⟨rfl, rfl⟩
  · have d0 : decide (r < 0) = true := by simp; omega
    have hb : -9223372036854775808 ≤ r ∧ r ≤ 9223372036854775807 := by omega
    go_enter Try.func12, Try.ntmps12
    go_wp2_with fail
    go_ret
    exact ⟨rfl, rfl⟩
end Go.Proofs.Ytnomfkmdckmjeaa
