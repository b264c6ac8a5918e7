/-
  THE WALKS OF package code's Hex, Unhex: each returns what its plain function of lists of bytes says (PlainHex), in every world, and nothing that was there has turned.
-/
import Derived.Test.YteoiijiiccecfaaProg
import Derived.Test.YteoiijiiccecfaaPlainHex
import Derived.WalkKit
import Derived.ProofKit
import Derived.Deep.RegionHeld3
import Derived.Deep.AppendLies
namespace Go.Proofs.Yteoiijiiccecfaa
open Go.RowKit

theorem infoB : (Try.prog.info? 5).map (fun i => (i.zero, i.size, i.bytes)) = some (some (.int .u8 0), 1, 1) := by kernel_rfl

/-- The text of a row of bytes that the call owns. -/
theorem conv_own {w : World} {base g n cap : Nat} {l : List UInt8} (hown : w.ownsRow base 5 1 (.slice (some ⟨g, 0, none⟩) n cap) n (cellsOf l)) :
    (convert 31 9 (.slice (some ⟨g, 0, none⟩) n cap)).run Try.prog w = .ok (.string ⟨l.toArray⟩) w := by
  have hn : l.length = n := by have := hown.1; simpa [cellsOf] using this
  subst hn
  refine run_convert_bytes_back w 31 9 5 ⟨g, 0, none⟩ cap l Try.underlying31 Try.underlying5 Try.underlying9 fun j hj => ?_
  have h := hown.cellAt j (by omega)
  have hadd : (⟨g, 0, none⟩ : Addr).add j = ⟨g, j, none⟩ := by unfold Addr.add; split <;> simp_all
  rw [hadd, h]
  simp [cellsOf, List.getElem?_eq_getElem hj]

set_option maxHeartbeats 400000 in
theorem hex_any (s : ByteArray) (hs : s.size ≤ 1073741824) (w : World) :
    Calls Try.prog 12 #[.string s] w fun e w' => e = .returned (.string ⟨(hexL s.data.toList).toArray⟩) ∧ Below w.heap.size w w' := by
  obtain ⟨i0, hi, hz0, hz1, hz2⟩ := info_parts infoB
  go_enter Try.func12, Try.ntmps12
  go_wp2_with (at_make; refine wpList_make_own _ rfl _ _ 31 rfl w.heap.size 5 i0 (.int .u8 0) 1 Try.underlying31 hi hz0 hz1 _ _ _ (2 * s.size) rfl rfl (by omega) (by rw [hz2]; omega) (by unfold maxLen; omega) (Nat.le_refl _) ?_; intro w1 hown hgrow)
  go_loopw [3, 4] (fun v i wr => ∃ k : Nat, k ≤ s.size ∧ i = .int .i64 k ∧ (∃ g cap, v = .slice (some ⟨g, 0, none⟩) (2 * k) cap) ∧ wr.ownsRow w.heap.size 5 1 v (2 * k) (cellsOf (hexL (s.data.toList.take k))) ∧ Below w.heap.size w wr)
    (fun _ i _ => s.size - (intOf i).toNat)
  case atStart =>
    exact ⟨0, Nat.zero_le _, rfl, ⟨_, _, rfl⟩, hown, (Below.refl _ _).grown hgrow (Nat.le_refl _) (fun k hk => by cases hk)⟩
  case round =>
    obtain ⟨k, hk, rfl, ⟨g, cap, rfl⟩, hown1, hnx⟩ := hrel
    by_cases hlt : k < s.size
    · have hc1 := PlainAid.bt_le s k
      have hc0 := PlainAid.bt_nonneg s k
      have hb := PlainAid.get_bt s
      have hd0 : 0 ≤ PlainAid.bt s k / 16 := by omega
      have hd1 : PlainAid.bt s k / 16 < 16 := by omega
      have hx := hexAt
      have hd2 : 0 ≤ PlainAid.bt s k % 16 := by omega
      have hd3 : PlainAid.bt s k % 16 < 16 := by omega
      have he := u8_and15 (x := PlainAid.bt s k) (by omega) (by omega)
      have hsz := hnx.size
      have hkz : (k : Int) < (s.size : Int) := by omega
      go_wp2
      go_region_held3 (fun _ => True) (trivial) ((refine step_append_lies _ (by rfl) _ _ _ (by rfl) w.heap.size 5 i0 _ 1 1 Try.underlying31 hi hz0 hz1 hz2 rfl (by omega) _ (2 * k) _ (by rfl) ((hown1.alloc _).drew) ⟨wr.heap.size, 0, none⟩ 2 2 [.int .u8 (hexD (PlainAid.bt s k / 16).toNat), .int .u8 (hexD (PlainAid.bt s k % 16).toNat)] (by rfl) (by rfl) (World.news_of_block (cs := #[.int .u8 (hexD (PlainAid.bt s k / 16).toNat), .int .u8 (hexD (PlainAid.bt s k % 16).toNat)]) (t := 5) (fr := (0, 0)) (heap_alloc_new wr _)) (by simp [Value.oneCell']) (by omega) (by unfold maxLen; omega) (by omega) (by simp; omega) (wr.heap.size + 1) (by simp) ?_; intro gg cap1 w2 hown2 hgrow2 hat hltg))
      all_goals
        go_wp2
        go_roundw
        case rel => exact ⟨k + 1, by omega, by go_num, ⟨gg, cap1, rfl⟩, by rw [← hex_step s k hlt]; exact hown2, ((hnx.alloc hsz _).drew).grown hgrow2 (by simp; omega) (fun j hj => by cases hj; exact (hown1.lt _ rfl).1)⟩
        case measure => simp [intOf]; omega
    · obtain rfl : k = s.size := by omega
      have hcv := conv_own hown1
      rw [show s.data.toList.take s.size = s.data.toList from List.take_of_length_le (by simp)] at hcv
      go_wp2
      go_ret
      exact ⟨rfl, hnx⟩

theorem ret_hv {a b : Int} {p q : Bool} (h : a = b) (h2 : p = q) : Ending.returned (.tuple #[.int .u8 a, .bool p]) = .returned (.tuple #[.int .u8 b, .bool q]) := by rw [h, h2]
set_option maxHeartbeats 400000 in
theorem hexValue_any (c : Int) (h0 : 0 ≤ c) (h1 : c ≤ 255) (w : World) :
    Calls Try.prog 18 #[.int .u8 c] w fun e w' => e = .returned (.tuple #[.int .u8 (hv c), .bool (hok c)]) ∧ w' = w := by
  go_enter Try.func18, Try.ntmps18
  go_wp2
  all_goals
    go_ret2
    refine ⟨ret_hv ?_ ?_, rfl⟩
  all_goals first | (unfold hv; (first | rw [if_pos (by omega)] | (rw [if_neg (by omega)]; first | rw [if_pos (by omega)] | rw [if_neg (by omega)]))) | (unfold hok; symm; first | (rw [decide_eq_true_eq]; omega) | (rw [decide_eq_false_iff_not]; omega))

set_option maxHeartbeats 400000 in
theorem unhex_odd (s : ByteArray) (hs : s.size ≤ 1073741824) (ho : s.size % 2 = 1) (w : World) :
    Calls Try.prog 10 #[.string s] w fun e w' => e = .returned (.tuple #[.string ⟨#[]⟩, .int .i64 3]) ∧ Below w.heap.size w w' := by
  have h1 : (s.size : Int) % 2 = 1 := by omega
  go_enter Try.func10, Try.ntmps10
  go_wp2
  go_ret2
  exact ⟨rfl, Below.refl _ _⟩

set_option maxHeartbeats 400000 in
theorem unhex_even (s : ByteArray) (hs : s.size ≤ 1073741824) (m : Nat) (ho : s.size = 2 * m) (R : Option (List UInt8)) (hR : unhexL s.data.toList = R) (w : World) :
    Calls Try.prog 10 #[.string s] w fun e w' => e = .returned (.tuple #[.string ⟨(R.getD []).toArray⟩, .int .i64 (if R.isSome then 0 else 3)]) ∧ Below w.heap.size w w' := by
  obtain ⟨i0, hi, hz0, hz1, hz2⟩ := info_parts infoB
  have h1 : (s.size : Int) % 2 = 0 := by omega
  have Ho : Hid (s.size = 2 * m) := ho
  have HR : Hid (unhexL s.data.toList = R) := hR
  clear ho hR
  go_enter Try.func10, Try.ntmps10
  go_wp2_with (at_make; refine wpList_make_own _ rfl _ _ 31 rfl w.heap.size 5 i0 (.int .u8 0) 1 Try.underlying31 hi hz0 hz1 _ _ _ m rfl rfl (by have := Ho.out; omega) (by rw [hz2]; have := Ho.out; omega) (by unfold maxLen; have := Ho.out; omega) (Nat.le_refl _) ?_; intro w1 hown hgrow)
  go_loopw [4, 5] (fun v i wr => ∃ (k : Nat) (l : List UInt8), k ≤ m ∧ i = .int .i64 (2 * k : Nat) ∧ unhexL (s.data.toList.take (2 * k)) = some l ∧ (∃ g cap, v = .slice (some ⟨g, 0, none⟩) k cap) ∧ wr.ownsRow w.heap.size 5 1 v k (cellsOf l) ∧ Below w.heap.size w wr)
    (fun _ i _ => s.size - (intOf i).toNat)
  case atStart =>
    exact ⟨0, [], Nat.zero_le _, rfl, rfl, ⟨_, _, rfl⟩, hown, (Below.refl _ _).grown hgrow (Nat.le_refl _) (fun k hk => by cases hk)⟩
  case round =>
    obtain ⟨k, l, hk, rfl, hl, ⟨g, cap, rfl⟩, hown1, hnx⟩ := hrel
    have Hl : Hid (unhexL (s.data.toList.take (2 * k)) = some l) := hl
    clear hl
    have hsz := hnx.size
    by_cases hlt : k < m
    · have hlt2 : 2 * k + 1 < s.size := by have := Ho.out; omega
      have ha1 := PlainAid.bt_le s (2 * k)
      have ha0 := PlainAid.bt_nonneg s (2 * k)
      have hb1 := PlainAid.bt_le s (2 * k + 1)
      have hb0 := PlainAid.bt_nonneg s (2 * k + 1)
      have hb := PlainAid.get_bt s
      by_cases hab : (hok (PlainAid.bt s (2 * k)) && hok (PlainAid.bt s (2 * k + 1))) = true
      · obtain ⟨ga, gb⟩ := Bool.and_eq_true_iff.1 hab
        have hj := u8_join (hv (PlainAid.bt s (2 * k))) (hv (PlainAid.bt s (2 * k + 1))) (hv_bd _).1 (hv_bd _).2 (hv_bd _).1 (hv_bd _).2
        have v1 := hv_bd (PlainAid.bt s (2 * k))
        have v2 := hv_bd (PlainAid.bt s (2 * k + 1))
        go_wp2_with (first | (go_at_call 18; refine (hexValue_any _ (by omega) (by omega) _).mono ?_; rintro e w' ⟨rfl, hw⟩; rw [hw]; clear hw w') | (at_builtin; refine wpList_append_lies _ rfl _ _ 31 rfl w.heap.size 5 i0 _ 1 1 Try.underlying31 hi hz0 hz1 hz2 rfl (by omega) _ k _ rfl (hown1.alloc _) ⟨wr.heap.size, 0, none⟩ 1 1 [.int .u8 (hv (PlainAid.bt s (2 * k)) * 16 + hv (PlainAid.bt s (2 * k + 1)))] rfl rfl (World.news_of_block (cs := #[.int .u8 (hv (PlainAid.bt s (2 * k)) * 16 + hv (PlainAid.bt s (2 * k + 1)))]) (t := 5) (fr := (0, 0)) (heap_alloc_new wr _)) (by simp [Value.oneCell']) (by omega) (by unfold maxLen; omega) (by omega) (by simp; omega) (wr.heap.size + 1) (by simp) ?_; intro gg cap1 w2 hown2 hgrow2 hat hltg))
        go_roundw
        case rel => exact ⟨k + 1, _, by omega, by go_num, unhex_ok s k l hlt2 Hl.out ga gb, ⟨gg, cap1, rfl⟩, by rw [cells_snoc _ _ (by omega) (by omega)]; exact hown2, (hnx.alloc hsz _).grown hgrow2 (by simp; omega) (fun j hj => by cases hj; exact (hown1.lt _ rfl).1)⟩
        case measure => simp [intOf]; omega
      · obtain rfl : none = R := by rw [← HR.out, unhex_bad s k l hlt2 Hl.out (by simpa using hab)]
        have hab' : (hok (PlainAid.bt s (2 * k)) = false) ∨ (hok (PlainAid.bt s (2 * k)) = true ∧ hok (PlainAid.bt s (2 * k + 1)) = false) := by
          cases h : hok (PlainAid.bt s (2 * k)) <;> simp_all
        rcases hab' with ga | ⟨ga, gb⟩
        all_goals
          clear hab
          go_wp2_with (go_at_call 18; refine (hexValue_any _ (by omega) (by omega) _).mono ?_; rintro e w' ⟨rfl, hw⟩; rw [hw]; clear hw w')
          go_ret2
          exact ⟨rfl, hnx⟩
    · obtain rfl : k = m := by omega
      have hcv := conv_own hown1
      obtain rfl : some l = R := by rw [← HR.out, ← Hl.out, List.take_of_length_le (by have := Ho.out; simp; omega)]
      have hz : s.size ≤ 2 * k := by have := Ho.out; omega
      go_wp2
      go_ret2
      exact ⟨rfl, hnx⟩
theorem hex_calls (s : ByteArray) (hs : s.size ≤ 1073741824) (w : World) :
    Calls Try.prog 12 #[.string s] w fun e w' => e = .returned (.string (hexB s)) ∧ Below w.heap.size w w' := hex_any s hs w
theorem unhex_some (s v : ByteArray) (hs : s.size ≤ 1073741824) (hv : unhexB s = some v) (w : World) :
    Calls Try.prog 10 #[.string s] w fun e w' => e = .returned (.tuple #[.string v, .int .i64 0]) ∧ Below w.heap.size w w' := by
  unfold unhexB at hv
  obtain ⟨l, hl, rfl⟩ := Option.map_eq_some_iff.1 hv
  rcases Nat.mod_two_eq_zero_or_one s.size with h | h
  · exact unhex_even s hs (s.size / 2) (by omega) (some l) hl w
  · rw [unhexL_odd s.data.toList (by simpa using h)] at hl
    cases hl
theorem unhex_none (s : ByteArray) (hs : s.size ≤ 1073741824) (hv : unhexB s = none) (w : World) :
    Calls Try.prog 10 #[.string s] w fun e w' => e = .returned (.tuple #[.string ⟨#[]⟩, .int .i64 3]) ∧ Below w.heap.size w w' := by
  unfold unhexB at hv
  have hl := Option.map_eq_none_iff.1 hv
  rcases Nat.mod_two_eq_zero_or_one s.size with h | h
  · exact unhex_even s hs (s.size / 2) (by omega) none hl w
  · exact unhex_odd s hs h w
end Go.Proofs.Yteoiijiiccecfaa
