/-
  THE WALK OF the verifier's windows: a new window into which a list of numbers came.
-/
import Derived.Test.YtcbneedlkhiahaaWinTake
import Derived.Test.YtcbneedlkhiahaaInts
namespace Go.Proofs.Ytcbneedlkhiahaa.win
open Go.RowKit

set_option maxHeartbeats 800000 in
theorem windows_any (w : World) (a : Option Addr) (n cap : Nat) (zs : List Int) (h : Ints w w.heap.size a n zs) (hn : n < 140737488355328) :
    Calls Try.prog 14 #[.slice a n cap] w fun e w' => e = .returned (.pointer (some ⟨w.heap.size, 0, none⟩)) ∧ (∃ N T, W2 w' w.heap.size N T ∧ Inv (rAll zs []) N T) ∧ Below w.heap.size w w' := by
  have f1 := New_any w
  have hB0 : W2 (w.alloc (.cells #[.int .i64 0, .int .u64 0] 39)) w.heap.size 0 0 := Blk.new w 39 _ _ rfl
  have hX0 : Below w.heap.size w (w.alloc (.cells #[.int .i64 0, .int .u64 0] 39)) := (Below.refl _ _).alloc (Nat.le_refl _) _
  have f2 : ∀ W, W2 W w.heap.size 0 0 → Calls Try.prog 8 #[.pointer (some ⟨w.heap.size, 0, none⟩), .int .i64 (-1)] W fun e w' => e = .returned (.int .i64 1) ∧ w' = W := Check_any w.heap.size 0 0 (-1) (by decide) (by decide)
  have hI : Inv (rAll (zs.take 0) []) 0 0 := Inv.nil
  have hl := h.len
  generalize w.alloc (.cells #[.int .i64 0, .int .u64 0] 39) = w1 at *
  obtain ⟨B, hBd⟩ : ∃ B, w.heap.size = B := ⟨_, rfl⟩
  rw [hBd] at h f1 f2 hB0 hX0 ⊢
  clear hBd
  go_enter Try.func14, Try.ntmps14
  go_wp2_with (first
    | (go_at_call 7; (with_reducible refine f1.mono ?_); rintro e w2 ⟨rfl, hq⟩; have hq := hq.symm; subst hq)
    | (go_at_call 8; (with_reducible refine (f2 _ (by assumption)).mono ?_); rintro e w2 ⟨rfl, hq⟩; have hq := hq.symm; subst hq))
  clear f1 f2
  go_loopw [16] (fun i wr => ∃ k N T : Nat, k ≤ n ∧ i = .int .i64 k ∧ W2 wr B N T ∧ Inv (rAll (zs.take k) []) N T ∧ Below B w wr) (fun i _ => n - (intOf i).toNat)
  case atStart => exact ⟨0, 0, 0, Nat.zero_le _, rfl, hB0, hI, hX0⟩
  case round =>
    clear hB0 hI hX0
    obtain ⟨k, N, T, hk, rfl, hB, hI, hX⟩ := hrel
    by_cases hlt : k < n
    · obtain ⟨b, off, hix, hbB, hc⟩ := (h.below hX (Nat.le_refl _)).at cap k hlt (by omega)
      have hI' := hI.step (zs[k]'(by omega))
      rw [← rAll_snoc, ← take_snoc (by omega)] at hI'
      have f3 := Take_any B N T (zs[k]'(by omega)) hI.nb hI.tb
      generalize zs[k]'(by omega) = x at *
      have HI : Hid (Inv (rAll (zs.take (k + 1)) []) (tN N T x) (tT N T x)) := hI'
      have HL : Hid (Ints w B a n zs) := h
      generalize chk N T x = E at *
      generalize tN N T x = N' at *
      generalize tT N T x = T' at *
      clear hI' hI h hl
      go_wp2_with (go_at_call 10; (with_reducible refine (f3 _ (by assumption)).mono ?_); rintro e w2 ⟨rfl, hB1, hG1⟩)
      go_roundw
      case rel => exact ⟨k + 1, N', T', by omega, by go_num, hB1, HI.out, hX.grown hG1 (Nat.le_of_lt hB.lt) (fun j hj => by cases hj; exact Nat.le_refl _)⟩
      case measure => simp [intOf]; omega
    · obtain rfl : k = n := by omega
      rw [List.take_of_length_le (by omega)] at hI
      clear h
      go_wp2_with fail
      go_ret
      exact ⟨rfl, ⟨N, T, hB, hI⟩, hX⟩
end Go.Proofs.Ytcbneedlkhiahaa.win
