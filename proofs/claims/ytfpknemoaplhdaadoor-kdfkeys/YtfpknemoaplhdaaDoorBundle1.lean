/-
  THE WALK OF the document's own Rest.
  THE WALKS OF 'zeros' and 'sized' of the verifier's own package.
-/
import Derived.Test.YtfpknemoaplhdaaDoorProg
import Derived.WalkKit
import Derived.Test.YtfpknemoaplhdaaDoorShelf
import Derived.PlainAid
namespace Go.Proofs.YtfpknemoaplhdaaDoor
open Go.RowKit

set_option maxHeartbeats 400000 in
theorem rest_any (n : Int) (m : Nat) (hm : 0 < m) (hm2 : m ≤ 1000000) (h : -9223372036854775808 ≤ n ∧ n ≤ 9223372036854775807) (w : World) :
    Calls Tryd.prog 9 #[.int .i64 n, .int .i64 m] w fun e w' => e = .returned (.int .i64 (((n % (m : Int)).toNat : Nat) : Int)) ∧ w' = w := by
  obtain ⟨r, hr⟩ : ∃ r, r = n.tmod (m : Int) := ⟨_, rfl⟩
  have hlt := Int.emod_lt_of_pos n (show (0 : Int) < m by omega)
  have hge := Int.emod_nonneg n (show (m : Int) ≠ 0 by omega)
  have hz : (m : Int) ≠ 0 := by omega
  have hz2 : ((m : Int) == 0) = false := by rw [beq_eq_false_iff_ne]; omega
  have hm0 : m ≠ 0 := by omega
  obtain ⟨q, hq⟩ : ∃ q : Nat, ((n % (m : Int)).toNat) = q := ⟨_, rfl⟩
  rw [hq]
  have hcase : (0 ≤ r ∧ r = (q : Int)) ∨ (r < 0 ∧ r + (m : Int) = (q : Int)) := by
    have h1 := Int.tmod_add_mul_tdiv n (m : Int)
    have h2 := Int.emod_add_mul_ediv n (m : Int)
    rcases Int.lt_or_le n 0 with hn | hn
    · have e := Int.tmod_eq_emod (a := n) (b := (m : Int))
      rw [← hr] at e
      rcases Int.decEq (n % (m : Int)) 0 with hd | hd
      · have hnd : ¬ (0 ≤ n ∨ (m : Int) ∣ n) := by
          rintro (h | h)
          · omega
          · exact hd (Int.emod_eq_zero_of_dvd h)
        rw [if_neg hnd] at e
        right
        have : ((m : Int).natAbs : Int) = m := by omega
        omega
      · have hd' : (m : Int) ∣ n := Int.dvd_of_emod_eq_zero hd
        rw [if_pos (.inr hd')] at e
        left; omega
    · left
      rw [Int.tmod_eq_emod_of_nonneg hn] at hr
      omega
  have hrw : n.tmod (m : Int) = r := hr.symm
  have hql : q < m := by omega
  clear hr hq hlt hge
  rcases hcase with ⟨c1, c2⟩ | ⟨c1, c2⟩
  · have d0 : decide (r < 0) = false := by simp; omega
    have hb : -9223372036854775808 ≤ r ∧ r ≤ 9223372036854775807 := by omega
    subst c2
    go_enter Tryd.func9, Tryd.ntmps9
    go_wp2_with fail
    go_ret
    exact ⟨rfl, rfl⟩
  · have d0 : decide (r < 0) = true := by simp; omega
    have hb : -9223372036854775808 ≤ r ∧ r ≤ 9223372036854775807 := by omega
    go_enter Tryd.func9, Tryd.ntmps9
    go_wp2_with fail
    go_ret
    exact ⟨rfl, rfl⟩
end Go.Proofs.YtfpknemoaplhdaaDoor
namespace Go.Proofs.YtfpknemoaplhdaaDoor
open Go.RowKit

/-- Cut, or with bytes 0 behind it. -/
def sz (s : ByteArray) (n : Nat) : ByteArray := ⟨(s.data.toList.take n ++ List.replicate (n - s.size) 0).toArray⟩
theorem sz_size (s : ByteArray) (n : Nat) : (sz s n).size = n := by
  show (s.data.toList.take n ++ List.replicate (n - s.size) 0).toArray.size = n
  have h : s.data.toList.length = s.size := by rw [Array.length_toList]; rfl
  rw [List.size_toArray, List.length_append, List.length_take, List.length_replicate, h]
  omega
/-- Bytes 0. -/
def noughts (n : Nat) : ByteArray := ⟨(List.replicate n 0).toArray⟩
theorem noughts_size (n : Nat) : (noughts n).size = n := by
  show (List.replicate n 0).toArray.size = n
  rw [List.size_toArray, List.length_replicate]
theorem repeat_zero (n : Nat) : Lib.repeatL [0] n = List.replicate n 0 := by
  induction n with
  | zero => rfl
  | succ n ih => rw [Lib.repeatL, ih]; rfl
theorem sz_long (s : ByteArray) (n : Nat) (h : n ≤ s.size) : s.extract 0 n = sz s n := by
  unfold sz
  rw [show n - s.size = 0 from by omega, List.replicate_zero, List.append_nil]
  apply ByteArray.ext
  rw [ByteArray.data_extract]
  apply Array.ext'
  simp
theorem sz_short (s : ByteArray) (n : Nat) (h : s.size ≤ n) : s ++ noughts (n - s.size) = sz s n := by
  unfold sz noughts
  rw [List.take_of_length_le (by rw [Array.length_toList]; exact h)]
  apply ByteArray.ext
  simp

theorem zeros_any (n : Nat) (h : n ≤ 140737488355328) (w : World) :
    Calls Tryd.prog 10 #[.int .i64 n] w fun e w' => e = .returned (.string (noughts n)) ∧ Below w.heap.size w w' := by
  go_enter Tryd.func10, Tryd.ntmps10
  go_wp2_with fail
  refine (Tryd.strings_Repeat ⟨#[0]⟩ n w (by omega) (by show 1 * n ≤ _; omega)).mono ?_
  rintro e w1 ⟨rfl, hb1⟩
  go_wp2
  go_ret
  exact ⟨by rw [repeat_zero]; rfl, hb1⟩

end Go.Proofs.YtfpknemoaplhdaaDoor
