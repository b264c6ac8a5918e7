/-
  THE WALKS OF package code's Base, Unbase: each returns what its plain function says (PlainBase), in every world, and nothing that was there has turned.
-/
import Derived.Test.YteoiijiiccecfaaProg
import Derived.Test.YteoiijiiccecfaaPlainBase
import Derived.WalkKit
import Derived.ProofKit
import Derived.Deep.RegionHeld3
import Derived.Deep.AppendLies
import Derived.Deep.QuietTactic
import Derived.BigQuiet
import Derived.WalkSmall
namespace Go.Proofs.Yteoiijiiccecfaa.base
open Go.RowKit

theorem infoB : (Try.prog.info? 5).map (fun i => (i.zero, i.size, i.bytes)) = some (some (.int .u8 0), 1, 1) := by kernel_rfl
/-- The text of a row of bytes that the call owns. -/
theorem conv_own {w : World} {base g n cap : Nat} {l : List UInt8} (hown : w.ownsRow base 5 1 (.slice (some ⟨g, 0, none⟩) n cap) n (cellsOf l)) :
    (convert 31 9 (.slice (some ⟨g, 0, none⟩) n cap)).run Try.prog w = .ok (.string ⟨l.toArray⟩) w := by
  have hn : l.length = n := by have := hown.1; simpa [cellsOf] using this
  subst hn
  refine run_convert_bytes_back w 31 9 5 ⟨g, 0, none⟩ cap l Try.underlying31 Try.underlying5 Try.underlying9 fun j hj => ?_
  have h := hown.cellAt j (by omega)
  have hadd : (⟨g, 0, none⟩ : Addr).add j = ⟨g, j, none⟩ := by unfold Addr.add; split <;> simp_all
  rw [hadd, h]
  simp [cellsOf, List.getElem?_eq_getElem hj]

theorem or_join (i : Nat) (x y : Int) (hi : i = 4 ∨ i = 2) (hx0 : 0 ≤ x) (hx : x % 2 ^ i = 0) (hx1 : x < 256) (hy0 : 0 ≤ y) (hy : y < 2 ^ i) : bits .or .u8 x y = x + y := by
  rcases hi with rfl | rfl
  · exact bits_join .u8 8 (by decide) wraps_u8 4 x y hx0 hx hx1 hy0 hy (by omega)
  · exact bits_join .u8 8 (by decide) wraps_u8 2 x y hx0 hx hx1 hy0 hy (by omega)
theorem u8_and3 (x : Int) (h0 : 0 ≤ x) (h1 : x < 256) : bits .and .u8 x 3 = x % 4 := bits_mask .u8 8 (by decide) wraps_u8 2 (by decide) x h0 h1

set_option maxRecDepth 100000 in
set_option maxHeartbeats 800000 in
theorem four_any (x y z : Int) (x0 : 0 ≤ x) (x1 : x ≤ 255) (y0 : 0 ≤ y) (y1 : y ≤ 255) (z0 : 0 ≤ z) (z1 : z ≤ 255) (w : World) :
    Calls Try.prog 24 #[.int .u8 x, .int .u8 y, .int .u8 z] w fun e w' => e = .returned (.tuple #[.int .u8 (sg (x / 4).toNat), .int .u8 (sg (x % 4 * 16 + y / 16).toNat), .int .u8 (sg (y % 16 * 4 + z / 64).toNat), .int .u8 (sg (z % 64).toNat)]) ∧ ∃ n, w' = w.drewN n := by
  have hx := tabAt
  have a1 := u8_and3 x x0 (by omega)
  have a2 := u8_and15 y y0 (by omega)
  have a3 := u8_and63 z z0 (by omega)
  have b1 : bits .or .u8 (x % 4 * 16) (y / 16) = x % 4 * 16 + y / 16 := or_join 4 _ _ (.inl rfl) (by omega) (by omega) (by omega) (by omega) (by omega)
  have b2 : bits .or .u8 (y % 16 * 4) (z / 64) = y % 16 * 4 + z / 64 := or_join 2 _ _ (.inr rfl) (by omega) (by omega) (by omega) (by omega) (by omega)
  have c0 : 0 ≤ x / 4 := by omega
  have c1 : x / 4 < 64 := by omega
  have c2 : 0 ≤ x % 4 * 16 + y / 16 := by omega
  have c3 : x % 4 * 16 + y / 16 < 64 := by omega
  have c4 : 0 ≤ y % 16 * 4 + z / 64 := by omega
  have c5 : y % 16 * 4 + z / 64 < 64 := by omega
  have c6 : 0 ≤ z % 64 := by omega
  have c7 : z % 64 < 64 := by omega
  have d1 : IntKind.u8.wrap (x % 4 * 16) = x % 4 * 16 := IntWalk.u8_in _ ⟨by omega, by omega⟩
  have d2 : IntKind.u8.wrap (y % 16 * 4) = y % 16 * 4 := IntWalk.u8_in _ ⟨by omega, by omega⟩
  go_enter Try.func24, Try.ntmps24
  go_wp2
  go_quiet (fail)
  go_wp2
  exact bodyPost_ret (v := .tuple #[.int .u8 (sg (x / 4).toNat), .int .u8 (sg (x % 4 * 16 + y / 16).toNat), .int .u8 (sg (y % 16 * 4 + z / 64).toNat), .int .u8 (sg (z % 64).toNat)]) (by simp [results, Try.results24, go_sem]) rfl ⟨rfl, nq, rfl⟩

set_option maxRecDepth 100000 in
set_option maxHeartbeats 800000 in
theorem base_any (s : ByteArray) (hs : s.size ≤ 1073741824) (m r : Nat) (hm : s.size = 3 * m + r) (hr : r < 3) (w : World) :
    Calls Try.prog 16 #[.string s] w fun e w' => e = .returned (.string (baseB s)) ∧ Below w.heap.size w w' := by
  obtain ⟨i0, hi, hz0, hz1, hz2⟩ := info_parts infoB
  have HM : Hid (s.size = 3 * m + r) := hm
  have h4 : (s.size : Int) - (s.size : Int) % 3 = 3 * (m : Int) := by omega
  have h5 : (s.size : Int) - 3 * (m : Int) = (r : Int) := by omega
  have hml : m ≤ 357913942 := by omega
  clear hm
  go_enter Try.func16, Try.ntmps16
  go_wp2_with (at_make; refine wpList_make_own _ rfl _ _ 31 rfl w.heap.size 5 i0 (.int .u8 0) 1 Try.underlying31 hi hz0 hz1 _ _ _ ((s.size + 2) / 3 * 4) rfl rfl (by omega) (by rw [hz2]; omega) (by unfold maxLen; omega) (Nat.le_refl _) ?_; intro w1 hown hgrow)
  go_loopw [3, 5] (fun v i wr => ∃ k : Nat, k ≤ m ∧ i = .int .i64 (3 * (k : Int)) ∧ (∃ g cap, v = .slice (some ⟨g, 0, none⟩) (4 * k) cap) ∧ wr.ownsRow w.heap.size 5 1 v (4 * k) (cellsOf (baseL (s.data.toList.take (3 * k)))) ∧ Below w.heap.size w wr)
    (fun _ i _ => 3 * m - (intOf i).toNat)
  case atStart =>
    exact ⟨0, Nat.zero_le _, rfl, ⟨_, _, rfl⟩, hown, (Below.refl _ _).grown hgrow (Nat.le_refl _) (fun k hk => by cases hk)⟩
  case round =>
    obtain ⟨k, hk, rfl, ⟨g, cap, rfl⟩, hown1, hnx⟩ := hrel
    have hsz := hnx.size
    by_cases hlt : k < m
    · have q2 : 3 * k + 2 < s.size := by have := HM.out; omega
      have x0 := PlainAid.bt_nonneg s (3 * k)
      have x1 := PlainAid.bt_le s (3 * k)
      have y0 := PlainAid.bt_nonneg s (3 * k + 1)
      have y1 := PlainAid.bt_le s (3 * k + 1)
      have z0 := PlainAid.bt_nonneg s (3 * k + 2)
      have z1 := PlainAid.bt_le s (3 * k + 2)
      have hb := PlainAid.get_bt s
      have p0 : 3 * (k : Int) < (s.size : Int) := by omega
      have p1 : 3 * (k : Int) + 1 < (s.size : Int) := by omega
      have p2 : 3 * (k : Int) + 2 < (s.size : Int) := by omega
      have p3 : (0 : Int) ≤ 3 * (k : Int) := by omega
      have p4 : (0 : Int) ≤ 3 * (k : Int) + 1 := by omega
      have p5 : (0 : Int) ≤ 3 * (k : Int) + 2 := by omega
      have n0 : (3 * (k : Int)).toNat = 3 * k := by omega
      have n1 : (3 * (k : Int) + 1).toNat = 3 * k + 1 := by omega
      have n2 : (3 * (k : Int) + 2).toNat = 3 * k + 2 := by omega
      have q3 : IntKind.i64.wrap (3 * (k : Int) + 1) = 3 * (k : Int) + 1 := IntWalk.i64_in _ ⟨by omega, by omega⟩
      have q4 : IntKind.i64.wrap (3 * (k : Int) + 2) = 3 * (k : Int) + 2 := IntWalk.i64_in _ ⟨by omega, by omega⟩
      go_wp2
      go_quiet ((go_at_call 24; exact Calls.quiet_of (four_any _ _ _ x0 x1 y0 y1 z0 z1 _)))
      have hown2 : (wr.drewN nq).ownsRow w.heap.size 5 1 (.slice (some ⟨g, 0, none⟩) (4 * k) cap) (4 * k) (cellsOf (baseL (s.data.toList.take (3 * k)))) := hown1
      go_wp2_with (at_builtin; refine wpList_append_lies _ rfl _ _ 31 rfl w.heap.size 5 i0 _ 1 1 Try.underlying31 hi hz0 hz1 hz2 rfl (by omega) (.slice (some ⟨g, 0, none⟩) (4 * k) cap) (4 * k) _ rfl (hown2.alloc _) ⟨(wr.drewN nq).heap.size, 0, none⟩ 4 4 [Value.int .u8 (sg (PlainAid.bt s (3 * k) / 4).toNat), Value.int .u8 (sg (PlainAid.bt s (3 * k) % 4 * 16 + PlainAid.bt s (3 * k + 1) / 16).toNat), Value.int .u8 (sg (PlainAid.bt s (3 * k + 1) % 16 * 4 + PlainAid.bt s (3 * k + 2) / 64).toNat), Value.int .u8 (sg (PlainAid.bt s (3 * k + 2) % 64).toNat)] rfl rfl (World.news_of_block (cs := #[Value.int .u8 (sg (PlainAid.bt s (3 * k) / 4).toNat), Value.int .u8 (sg (PlainAid.bt s (3 * k) % 4 * 16 + PlainAid.bt s (3 * k + 1) / 16).toNat), Value.int .u8 (sg (PlainAid.bt s (3 * k + 1) % 16 * 4 + PlainAid.bt s (3 * k + 2) / 64).toNat), Value.int .u8 (sg (PlainAid.bt s (3 * k + 2) % 64).toNat)]) (t := 5) (fr := (0, 0)) (heap_alloc_new (wr.drewN nq) _)) (by simp [Value.oneCell']) (by omega) (by unfold maxLen; omega) (by omega) (by simp; omega) ((wr.drewN nq).heap.size + 1) (by simp) ?_; intro gg cap1 w2 hown3 hgrow2 hat hltg)
      go_roundw
      case rel => exact ⟨k + 1, by omega, by go_num, ⟨gg, cap1, rfl⟩, by rw [← base_step s k q2]; exact hown3, ((below_drewN hnx nq).alloc (by simpa using hsz) _).grown hgrow2 (by simp; omega) (fun j hj => by cases hj; exact (hown1.lt _ rfl).1)⟩
      case measure => simp [intOf]; omega
    · obtain rfl : k = m := by omega
      have hb := PlainAid.get_bt s
      rcases (show r = 0 ∨ r = 1 ∨ r = 2 by omega) with rfl | rfl | rfl
      · have hcv := conv_own hown1
        rw [base_end0 s k HM.out] at hcv
        go_wp2
        go_ret
        exact ⟨rfl, hnx⟩
      · have q0 : 3 * k < s.size := by have := HM.out; omega
        have x0 := PlainAid.bt_nonneg s (3 * k)
        have x1 := PlainAid.bt_le s (3 * k)
        have p0 : 3 * (k : Int) < (s.size : Int) := by omega
        have p3 : (0 : Int) ≤ 3 * (k : Int) := by omega
        have n0 : (3 * (k : Int)).toNat = 3 * k := by omega
        go_wp2_with fail
        refine (four_any _ _ _ x0 x1 (by omega) (by omega) (by omega) (by omega) _).mono ?_
        rintro e w5 ⟨rfl, n5, rfl⟩
        have hown2 : (wr.drewN n5).ownsRow w.heap.size 5 1 (.slice (some ⟨g, 0, none⟩) (4 * k) cap) (4 * k) (cellsOf (baseL (s.data.toList.take (3 * k)))) := hown1
        go_wp2_with (at_builtin; refine wpList_append_lies _ rfl _ _ 31 rfl w.heap.size 5 i0 _ 1 1 Try.underlying31 hi hz0 hz1 hz2 rfl (by omega) (.slice (some ⟨g, 0, none⟩) (4 * k) cap) (4 * k) _ rfl (hown2.alloc _) ⟨(wr.drewN n5).heap.size, 0, none⟩ 4 4 [Value.int .u8 (sg (PlainAid.bt s (3 * k) / 4).toNat), Value.int .u8 (sg (PlainAid.bt s (3 * k) % 4 * 16).toNat), Value.int .u8 (61), Value.int .u8 (61)] rfl rfl (World.news_of_block (cs := #[Value.int .u8 (sg (PlainAid.bt s (3 * k) / 4).toNat), Value.int .u8 (sg (PlainAid.bt s (3 * k) % 4 * 16).toNat), Value.int .u8 (61), Value.int .u8 (61)]) (t := 5) (fr := (0, 0)) (heap_alloc_new (wr.drewN n5) _)) (by simp [Value.oneCell']) (by omega) (by unfold maxLen; omega) (by omega) (by simp; omega) ((wr.drewN n5).heap.size + 1) (by simp) ?_; intro gg cap1 w2 hown3 hgrow2 hat hltg; rw [base_end1 s k HM.out] at hown3; have hcv := conv_own hown3)
        go_ret
        exact ⟨rfl, ((below_drewN hnx n5).alloc (by simpa using hsz) _).grown hgrow2 (by simp; omega) (fun j hj => by cases hj; exact (hown1.lt _ rfl).1)⟩
      · have q0 : 3 * k + 1 < s.size := by have := HM.out; omega
        have x0 := PlainAid.bt_nonneg s (3 * k)
        have x1 := PlainAid.bt_le s (3 * k)
        have y0 := PlainAid.bt_nonneg s (3 * k + 1)
        have y1 := PlainAid.bt_le s (3 * k + 1)
        have p0 : 3 * (k : Int) < (s.size : Int) := by omega
        have p1 : 3 * (k : Int) + 1 < (s.size : Int) := by omega
        have p3 : (0 : Int) ≤ 3 * (k : Int) := by omega
        have p4 : (0 : Int) ≤ 3 * (k : Int) + 1 := by omega
        have n0 : (3 * (k : Int)).toNat = 3 * k := by omega
        have n1 : (3 * (k : Int) + 1).toNat = 3 * k + 1 := by omega
        have q3 : IntKind.i64.wrap (3 * (k : Int) + 1) = 3 * (k : Int) + 1 := IntWalk.i64_in _ ⟨by omega, by omega⟩
        go_wp2
        go_quiet ((go_at_call 24; exact Calls.quiet_of (four_any _ _ _ x0 x1 y0 y1 (by omega) (by omega) _)))
        have hown2 : (wr.drewN nq).ownsRow w.heap.size 5 1 (.slice (some ⟨g, 0, none⟩) (4 * k) cap) (4 * k) (cellsOf (baseL (s.data.toList.take (3 * k)))) := hown1
        go_wp2_with (at_builtin; refine wpList_append_lies _ rfl _ _ 31 rfl w.heap.size 5 i0 _ 1 1 Try.underlying31 hi hz0 hz1 hz2 rfl (by omega) (.slice (some ⟨g, 0, none⟩) (4 * k) cap) (4 * k) _ rfl (hown2.alloc _) ⟨(wr.drewN nq).heap.size, 0, none⟩ 4 4 [Value.int .u8 (sg (PlainAid.bt s (3 * k) / 4).toNat), Value.int .u8 (sg (PlainAid.bt s (3 * k) % 4 * 16 + PlainAid.bt s (3 * k + 1) / 16).toNat), Value.int .u8 (sg (PlainAid.bt s (3 * k + 1) % 16 * 4).toNat), Value.int .u8 (61)] rfl rfl (World.news_of_block (cs := #[Value.int .u8 (sg (PlainAid.bt s (3 * k) / 4).toNat), Value.int .u8 (sg (PlainAid.bt s (3 * k) % 4 * 16 + PlainAid.bt s (3 * k + 1) / 16).toNat), Value.int .u8 (sg (PlainAid.bt s (3 * k + 1) % 16 * 4).toNat), Value.int .u8 (61)]) (t := 5) (fr := (0, 0)) (heap_alloc_new (wr.drewN nq) _)) (by simp [Value.oneCell']) (by omega) (by unfold maxLen; omega) (by omega) (by simp; omega) ((wr.drewN nq).heap.size + 1) (by simp) ?_; intro gg cap1 w2 hown3 hgrow2 hat hltg; rw [base_end2 s k HM.out] at hown3; have hcv := conv_own hown3)
        go_ret
        exact ⟨rfl, ((below_drewN hnx nq).alloc (by simpa using hsz) _).grown hgrow2 (by simp; omega) (fun j hj => by cases hj; exact (hown1.lt _ rfl).1)⟩

theorem base_calls (s : ByteArray) (hs : s.size ≤ 1073741824) (w : World) :
    Calls Try.prog 16 #[.string s] w fun e w' => e = .returned (.string (baseB s)) ∧ Below w.heap.size w w' :=
  base_any s hs (s.size / 3) (s.size % 3) (by omega) (by omega) w
end Go.Proofs.Yteoiijiiccecfaa.base
