/-
  THE WALKS OF package aes's isKey, turned, subbed.
-/
import Derived.Test.YtibdlccaenanmaaPlainAes
import Derived.Test.YtibdlccaenanmaaRow
import Derived.Test.YtibdlccaenanmaaBlk
import Derived.Test.YtibdlccaenanmaaGaloisSub
import Derived.BigRegion
namespace Go.Proofs.Ytibdlccaenanmaa.aes
open Go.RowKit
open Go.Proofs.Ytibdlccaenanmaa.gal

theorem isKey_yes (k : ByteArray) (h : k.size = 16 ∨ k.size = 32) (w : World) :
    Calls Try.prog 47 #[.string k] w fun e w' => e = .returned (.bool true) ∧ w' = w := by
  rcases h with h | h
  · have t1 : ((k.size : Int) == 16) = true := by rw [beq_iff_eq]; omega
    clear h
    go_enter Try.func47, Try.ntmps47
    go_wp2
    go_ret
    exact ⟨rfl, rfl⟩
  · have t1 : ((k.size : Int) == 16) = false := by rw [beq_eq_false_iff_ne]; omega
    have t2 : ((k.size : Int) == 32) = true := by rw [beq_iff_eq]; omega
    clear h
    go_enter Try.func47, Try.ntmps47
    go_wp2
    go_ret
    exact ⟨rfl, rfl⟩
theorem isKey_no (k : ByteArray) (h : k.size ≠ 16) (h2 : k.size ≠ 32) (w : World) :
    Calls Try.prog 47 #[.string k] w fun e w' => e = .returned (.bool false) ∧ w' = w := by
  have t1 : ((k.size : Int) == 16) = false := by rw [beq_eq_false_iff_ne]; omega
  have t2 : ((k.size : Int) == 32) = false := by rw [beq_eq_false_iff_ne]; omega
  clear h h2
  go_enter Try.func47, Try.ntmps47
  go_wp2
  go_ret
  exact ⟨rfl, rfl⟩

theorem infoWD : (Try.prog.info? 110).map (·.size) = some 4 := by kernel_rfl
theorem infoU8 : (Try.prog.info? 5).map (fun i => (i.zero, i.size, i.bytes)) = some (some (.int .u8 0), 1, 1) := by kernel_rfl
theorem idx4 (l : List Nat) (hl : l.length = 4) (k : Nat) (hk : k < 4) (w : World) : (Instr.index 110 (.agg (by8 l).toArray) (.int .i64 (k : Int))).run Try.prog w = .ok (.int .u8 ((l.getD k 0 : Nat) : Int)) w := by
  obtain ⟨j0, hj, _, hj1, _⟩ := info_parts infoU8
  exact run_index_by8 Try.underlying110 Try.underlying5 hj hj1 l k hk (by omega) w
def zero4 : List Nat := [0, 0, 0, 0]
set_option maxHeartbeats 400000 in
theorem turned_any (a b c d : Nat) (w : World) :
    Calls Try.prog 84 #[.agg #[.int .u8 a, .int .u8 b, .int .u8 c, .int .u8 d]] w fun e w' => e = .returned (.agg #[.int .u8 b, .int .u8 c, .int .u8 d, .int .u8 a]) ∧ Below w.heap.size w w' := by
  go_enter Try.func84, Try.ntmps84
  go_wp2
  have hW := Blk.new (w.alloc (.cells #[.int .u8 a, .int .u8 b, .int .u8 c, .int .u8 d] 110)) 110 [.int .u8 b, .int .u8 c, .int .u8 d, .int .u8 a] _ rfl
  rw [World.size_alloc] at hW
  exact bodyPost_ret (results_blk1 Try.results84 _ rfl hW _ Try.underlying110 rfl infoWD) rfl ⟨rfl, ((Below.refl _ _).alloc (Nat.le_refl _) _).alloc (by simp) _⟩
theorem turned_list (l : List Nat) (hl : l.length = 4) (w : World) :
    Calls Try.prog 84 #[.agg (by8 l).toArray] w fun e w' => e = .returned (.agg (by8 (turn l)).toArray) ∧ Below w.heap.size w w' := by
  match l, hl with
  | [a, b, c, d], _ => exact turned_any a b c d w

set_option maxRecDepth 100000 in
set_option maxHeartbeats 800000 in
theorem subbed_any (l : List Nat) (hl : l.length = 4) (bl : Ok l) (w : World) :
    Calls Try.prog 83 #[.agg (by8 l).toArray] w fun e w' => e = .returned (.agg (by8 (subN 4 l)).toArray) ∧ Below w.heap.size w w' := by
  have hL : Blk ((w.alloc (.cells (by8 l).toArray 110)).alloc (.cells (by8 zero4).toArray 110)) w.heap.size 110 (by8 l) := (Blk.new w 110 (by8 l) _ rfl).alloc _
  have hZ : Blk ((w.alloc (.cells (by8 l).toArray 110)).alloc (.cells (by8 zero4).toArray 110)) (w.heap.size + 1) 110 (by8 zero4) := by
    have h := Blk.new (w.alloc (.cells (by8 l).toArray 110)) 110 (by8 zero4) _ rfl
    rw [World.size_alloc] at h
    exact h
  have hX : Below w.heap.size w ((w.alloc (.cells (by8 l).toArray 110)).alloc (.cells (by8 zero4).toArray 110)) := ((Below.refl _ _).alloc (Nat.le_refl _) _).alloc (by simp) _
  go_enter Try.func83, Try.ntmps83
  go_wp2_with (refine wpList_load_blk rfl 110 (.tmp 1) rfl w.heap.size 0 rfl hL (by8 l) (by simp) _ Try.underlying110 rfl (by rw [by8_length, hl]; exact infoWD) ?_)
  go_loopw [6] (fun i wr => ∃ k : Nat, k ≤ 4 ∧ i = .int .i64 k ∧ Blk wr w.heap.size 110 (by8 (upto l (fun j => gsub (l.getD j 0)) k)) ∧ Blk wr (w.heap.size + 1) 110 (by8 zero4) ∧ Below w.heap.size w wr) (fun i _ => 4 - (intOf i).toNat)
  case atStart => exact ⟨0, by omega, rfl, hL, hZ, hX⟩
  case round =>
    clear hL hZ hX
    obtain ⟨k, hk, rfl, hA, hZ, hnx⟩ := hrel
    by_cases hlt : k < 4
    · have hix := idx4 l hl k hlt
      have f1 := sub_good (l.getD k 0) (bl.get k)
      have hc := hA.cell k _ (by8_get _ k (by rw [upto_length]; omega))
      have hf := hA.frozen k
      have HU : Hid (upto l (fun j => gsub (l.getD j 0)) (k + 1) = (upto l (fun j => gsub (l.getD j 0)) k).set k (gsub (l.getD k 0))) := rfl
      generalize upto l (fun j => gsub (l.getD j 0)) k = L at *
      generalize gsub (l.getD k 0) = s at *
      generalize l.getD k 0 = x at *
      have kz : (k : Int) < 4 := by omega
      have k0 : (0 : Int) ≤ (k : Int) := by omega
      go_wp2_with (go_at_call 81; refine (f1 _).mono ?_; rintro e w1 ⟨rfl, rfl⟩)
      go_roundw
      case rel => exact ⟨k + 1, by omega, by go_num, by rw [HU.out, ← by8_set]; exact hA.set k _, hZ.other (by simp) _, hnx.setCell (by simp) _⟩
      case measure => simp [intOf]; omega
    · obtain rfl : k = 4 := by omega
      have hD : upto l (fun j => gsub (l.getD j 0)) 4 = subN 4 l := upto_all _ _ _ hl
      rw [hD] at hA
      have hd : (by8 (subN 4 l)).length = 4 := by rw [by8_length]; exact mk_length _ _
      clear hD
      obtain ⟨D, HD⟩ : ∃ D, Hid (D = subN 4 l) := ⟨_, rfl⟩
      rw [← HD.out] at hA hd
      go_wp2_with (first | (refine wpList_load_blk rfl 110 (.tmp 1) rfl w.heap.size 0 rfl hA (by8 D) (by simp) _ Try.underlying110 rfl (by rw [hd]; exact infoWD) ?_) | (refine wpList_store_blk rfl 110 (.tmp 2) (.tmp 15) rfl (w.heap.size + 1) (by8 D) rfl rfl (by8 zero4) hZ (by rw [hd]; rfl) (by8_one _) infoWD ?_; intro W hW))
      exact bodyPost_ret (results_blk1 Try.results83 _ rfl hW.blk _ Try.underlying110 rfl (by rw [hd]; exact infoWD)) rfl ⟨by rw [HD.out], hW.below _ _ (by omega) hnx⟩
end Go.Proofs.Ytibdlccaenanmaa.aes
