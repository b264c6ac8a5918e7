/-
  THE WALKS OF 'zeros' and 'sized' of the verifier's own package.
-/
import Derived.Test.YtmbckgfpkmnlnabDoorShelf
import Derived.WalkKit
import Derived.PlainAid
namespace Go.Proofs.YtmbckgfpkmnlnabDoor
open Go.RowKit

/-- Cut, or with bytes 0 behind it. -/
def sz (s : ByteArray) (n : Nat) : ByteArray := ⟨(s.data.toList.take n ++ List.replicate (n - s.size) 0).toArray⟩
theorem sz_size (s : ByteArray) (n : Nat) : (sz s n).size = n := by
  show (s.data.toList.take n ++ List.replicate (n - s.size) 0).toArray.size = n
  have h : s.data.toList.length = s.size := by rw [Array.length_toList]; rfl
  rw [List.size_toArray, List.length_append, List.length_take, List.length_replicate, h]
  omega
/-- Bytes 0. -/
def noughts (n : Nat) : ByteArray := ⟨(List.replicate n 0).toArray⟩
theorem noughts_size (n : Nat) : (noughts n).size = n := by
  show (List.replicate n 0).toArray.size = n
  rw [List.size_toArray, List.length_replicate]
theorem repeat_zero (n : Nat) : Lib.repeatL [0] n = List.replicate n 0 := by
  induction n with
  | zero => rfl
  | succ n ih => rw [Lib.repeatL, ih]; rfl
theorem sz_long (s : ByteArray) (n : Nat) (h : n ≤ s.size) : s.extract 0 n = sz s n := by
  unfold sz
  rw [show n - s.size = 0 from by omega, List.replicate_zero, List.append_nil]
  apply ByteArray.ext
  rw [ByteArray.data_extract]
  apply Array.ext'
  simp
theorem sz_short (s : ByteArray) (n : Nat) (h : s.size ≤ n) : s ++ noughts (n - s.size) = sz s n := by
  unfold sz noughts
  rw [List.take_of_length_le (by rw [Array.length_toList]; exact h)]
  apply ByteArray.ext
  simp

theorem zeros_any (n : Nat) (h : n ≤ 140737488355328) (w : World) :
    Calls Tryd.prog 11 #[.int .i64 n] w fun e w' => e = .returned (.string (noughts n)) ∧ Below w.heap.size w w' := by
  go_enter Tryd.func11, Tryd.ntmps11
  go_wp2_with fail
  refine (Tryd.strings_Repeat ⟨#[0]⟩ n w (by omega) (by show 1 * n ≤ _; omega)).mono ?_
  rintro e w1 ⟨rfl, hb1⟩
  go_wp2
  go_ret
  exact ⟨by rw [repeat_zero]; rfl, hb1⟩

theorem sized_any (s : ByteArray) (n : Nat) (h : s.size ≤ maxLen) (hn : n ≤ 140737488355328) (w : World) :
    Calls Tryd.prog 5 #[.string s, .int .i64 n] w fun e w' => e = .returned (.string (sz s n)) ∧ Below w.heap.size w w' := by
  have hm : maxLen ≤ 9223372036854775807 := by decide
  replace h : s.size ≤ 9223372036854775807 := Nat.le_trans h hm
  clear hm
  by_cases hc : n ≤ s.size
  · have hd : decide ((s.size : Int) ≥ (n : Int)) = true := by simp; omega
    have hsl : ∀ u : World, (Instr.slice 9 (.string s) none (some (.int .i64 (n : Int))) none).run Tryd.prog u = .ok (.string (sz s n)) u := fun u => by
      have h := run_slice_string_to_if (P := Tryd.prog) u 9 s .i64 (n : Int) Tryd.underlying9
      rw [if_pos ⟨by omega, by omega⟩] at h
      rw [h, Int.toNat_natCast, sz_long s n hc]
    go_enter Tryd.func5, Tryd.ntmps5
    go_wp2
    go_ret
    exact ⟨rfl, Below.refl _ _⟩
  · have hd : decide ((s.size : Int) ≥ (n : Int)) = false := by simp; omega
    have h0 : (0 : Int) ≤ s.size := by omega
    have h1 : (s.size : Int) < n := by omega
    have he : (n : Int) - (s.size : Int) = ((n - s.size : Nat) : Int) := by omega
    have hb : n - s.size ≤ 140737488355328 := by omega
    have HS : Hid (s.size ≤ n) := by show s.size ≤ n; omega
    go_enter Tryd.func5, Tryd.ntmps5
    go_wp2_with fail
    refine (zeros_any (n - s.size) hb _).mono ?_
    rintro e w1 ⟨rfl, hb1⟩
    have hns : (noughts (n - s.size)).size = n - s.size := noughts_size _
    go_wp2
    go_ret
    exact ⟨by rw [sz_short s n HS.out]; rfl, hb1⟩
end Go.Proofs.YtmbckgfpkmnlnabDoor
