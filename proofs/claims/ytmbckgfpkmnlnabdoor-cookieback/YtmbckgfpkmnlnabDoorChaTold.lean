/-
  THE WALKS OF package chacha's number and told.
-/
import Derived.Test.YtmbckgfpkmnlnabDoorChaWord
import Derived.Test.YtmbckgfpkmnlnabDoorWd
import Derived.Test.YtmbckgfpkmnlnabDoorConv
import Derived.Test.YtmbckgfpkmnlnabDoorBundle4
namespace Go.Proofs.YtmbckgfpkmnlnabDoor.cha
open Go.RowKit
open Go.Proofs.YtmbckgfpkmnlnabDoor.soft
open Go.Proofs.YtmbckgfpkmnlnabDoor.ghs (bt_nb tb tb_lt)

theorem or_add (a b k : Nat) (ha : a < 2 ^ k) : a ||| b * 2 ^ k = a + b * 2 ^ k := by
  rw [Nat.or_comm, Nat.mul_comm, ← Nat.two_pow_add_eq_or_of_lt ha b, Nat.add_comm]
set_option maxHeartbeats 800000 in
theorem number_any (s : ByteArray) (hs : 4 ≤ s.size) (w : World) : Calls Tryd.prog 62 #[.string s] w fun e w' => e = .returned (.int .u32 (num (tb s) 0 : Nat)) ∧ Below w.heap.size w w' := by
  have hgb := PlainAid.get_bt s
  have e0 := bt_nb s 0 (by omega)
  have e1 := bt_nb s 1 (by omega)
  have e2 := bt_nb s 2 (by omega)
  have e3 := bt_nb s 3 (by omega)
  have l0 := tb_lt s 0
  have l1 := tb_lt s 1
  have l2 := tb_lt s 2
  have l3 := tb_lt s 3
  have HN : Hid (num (tb s) 0 = tb s 0 + 256 * tb s 1 + 65536 * tb s 2 + 16777216 * tb s 3) := rfl
  generalize num (tb s) 0 = N at *
  generalize tb s 0 = x0 at *
  generalize tb s 1 = x1 at *
  generalize tb s 2 = x2 at *
  generalize tb s 3 = x3 at *
  obtain ⟨y1, h1⟩ : ∃ y, y = x0 + x1 * 256 := ⟨_, rfl⟩
  obtain ⟨y2, h2⟩ : ∃ y, y = y1 + x2 * 65536 := ⟨_, rfl⟩
  have o1 : bits .or .u32 (x0 : Int) ((x1 : Int) * 256) = (y1 : Int) := by
    rw [show (x1 : Int) * 256 = ((x1 * 256 : Nat) : Int) from by omega, or32 _ _ (by omega) (by omega), show x0 ||| x1 * 256 = x0 + x1 * 256 from or_add x0 x1 8 l0, h1]
  have o2 : bits .or .u32 (y1 : Int) ((x2 : Int) * 65536) = (y2 : Int) := by
    rw [show (x2 : Int) * 65536 = ((x2 * 65536 : Nat) : Int) from by omega, or32 _ _ (by omega) (by omega), show y1 ||| x2 * 65536 = y1 + x2 * 65536 from or_add y1 x2 16 (by omega), h2]
  have o3 : bits .or .u32 (y2 : Int) ((x3 : Int) * 16777216) = (N : Int) := by
    have := HN.out
    rw [show (x3 : Int) * 16777216 = ((x3 * 16777216 : Nat) : Int) from by omega, or32 _ _ (by omega) (by omega), show y2 ||| x3 * 16777216 = y2 + x3 * 16777216 from or_add y2 x3 24 (by omega)]
    omega
  clear h1 h2
  have hne := Up.some w
  go_enter Tryd.func62, Tryd.ntmps62
  go_wp2_with fail
  refine wp_region_up (by kernel_rfl) (by kernel_rfl) ?_
  repeat (go_big_quiet_step (fail))
  refine wpQuiet_nil ?_
  rintro w1 ⟨y1, rfl⟩
  go_wp2_with fail
  go_ret
  exact ⟨rfl, y1.2⟩

set_option maxRecDepth 100000 in
set_option maxHeartbeats 1600000 in
theorem told_any (b o c n : Nat) (l : List Nat) (hl : l.length = n) (ok : Ws l) (h0 : 0 < n) (hn : n ≤ 16) (w : World) (hb : b < w.heap.size) (hc : ∀ j, j < n → w.cell? ⟨b, o + j, none⟩ = some (.int .u32 ((l.getD j 0 : Nat) : Int))) :
    Calls Tryd.prog 54 #[.slice (some ⟨b, o, none⟩) n c] w fun e w' => e = .returned (.string (told l)) ∧ Below w.heap.size w w' := by
  obtain ⟨i0, hi, hz0, hz1, hz2⟩ := info_parts cv.infoU8
  have HC : Hid (∀ j, j < n → w.cell? ⟨b, o + j, none⟩ = some (.int .u32 ((l.getD j 0 : Nat) : Int))) := hc
  have HB : Hid (b < w.heap.size) := hb
  clear hc hb
  obtain ⟨q, hq⟩ : ∃ q, q = 4 * n := ⟨_, rfl⟩
  have e4 : 4 * (n : Int) = (q : Int) := by omega
  have q0 : q ≤ 64 := by omega
  have HQ : Hid (q = 4 * n) := hq
  clear hq
  go_enter Tryd.func54, Tryd.ntmps54
  go_wp2_with (at_make; refine wpList_make_own _ rfl _ _ 39 rfl w.heap.size 5 i0 (.int .u8 0) 1 Tryd.underlying39 hi hz0 hz1 _ _ _ q rfl rfl rfl (by rw [hz2]; omega) (by unfold maxLen; omega) (Nat.le_refl _) ?_; intro w1 hown0 hgr0)
  have hR0 : Row w1 w.heap.size 1 w.heap.size 0 q (by8 []) := Row.own hown0
  have hX0 : Below w.heap.size w w1 := (Below.refl _ _).grown hgr0 (Nat.le_refl _) (fun k hk => by cases hk)
  clear hown0 hgr0
  go_loopw [3, 12] (fun v i wr => ∃ k g cap : Nat, k ≤ n ∧ i = .int .i64 k ∧ v = .slice (some ⟨g, 0, none⟩) (4 * k) cap ∧ Row wr w.heap.size 1 g (4 * k) cap (by8 (bs4 (l.take k))) ∧ Below w.heap.size w wr) (fun _ i _ => n - (intOf i).toNat)
  case atStart => exact ⟨0, w.heap.size, q, by omega, rfl, rfl, hR0, hX0⟩
  case round =>
    clear hR0 hX0
    obtain ⟨k, g, cap, hk, rfl, rfl, hR, hnx⟩ := hrel
    by_cases hlt : k < n
    · have d0 : decide ((k : Int) < (n : Int)) = true := by simp; omega
      have c1 := (hnx.cell (p := ⟨b, o + k, none⟩) HB.out).trans (HC.out k hlt)
      have lx := ok.get k
      have HU : Hid (bs4 (l.take (k + 1)) = bs4 (l.take k) ++ b4 (l.getD k 0)) := by
        show _ = _
        rw [List.take_succ_eq_append_getElem (by omega), bs4_append, bs4_one, List.getD_eq_getElem?_getD, List.getElem?_eq_getElem (by omega)]
        rfl
      generalize l.getD k 0 = x at *
      have k0 : (0 : Int) ≤ (k : Int) := by omega
      have kz : (k : Int) < (n : Int) := by omega
      obtain ⟨b0, hb0⟩ : ∃ y, y = x % 256 := ⟨_, rfl⟩
      obtain ⟨b1, hb1⟩ : ∃ y, y = x / 256 % 256 := ⟨_, rfl⟩
      obtain ⟨b2, hb2⟩ : ∃ y, y = x / 65536 % 256 := ⟨_, rfl⟩
      obtain ⟨b3, hb3⟩ : ∃ y, y = x / 16777216 % 256 := ⟨_, rfl⟩
      have HB4 : Hid (b4 x = [b0, b1, b2, b3]) := by show _ = _; rw [hb0, hb1, hb2, hb3]; rfl
      have x0 : (x : Int) % 256 = (b0 : Int) := by omega
      have x1 : (x : Int) / 256 % 256 = (b1 : Int) := by omega
      have x2 : (x : Int) / 65536 % 256 = (b2 : Int) := by omega
      have x3 : (x : Int) / 16777216 = (b3 : Int) := by omega
      clear hb0 hb1 hb2 hb3
      have hle := hR.le
      have hsz := hnx.size
      have hgl := hR.lt
      go_wp2_with (at_builtin; refine wpList_append_row rfl _ _ 39 rfl (hR.alloc _) 5 i0 _ 1 Tryd.underlying39 hi hz0 hz1 hz2 rfl (by omega) ⟨wr.heap.size, 0, none⟩ 4 4 [.int .u8 (b0 : Int), .int .u8 (b1 : Int), .int .u8 (b2 : Int), .int .u8 (b3 : Int)] rfl rfl rfl (World.news_of_block (cs := #[.int .u8 (b0 : Int), .int .u8 (b1 : Int), .int .u8 (b2 : Int), .int .u8 (b3 : Int)]) (t := 5) (fr := (0, 0)) (heap_alloc_new wr _)) (by simp [Value.oneCell']) (by unfold maxLen; omega) (by omega) (by omega) (by simp; omega) ?_; intro g2 cap2 w2 hR2 hgr2 hat2)
      go_roundw
      case rel => exact ⟨k + 1, g2, cap2, by omega, by go_num, by rw [show 4 * (k + 1) = 4 * k + 4 from by omega], by
        have e : by8 (bs4 (l.take (k + 1))) = by8 (bs4 (l.take k)) ++ [.int .u8 (b0 : Int), .int .u8 (b1 : Int), .int .u8 (b2 : Int), .int .u8 (b3 : Int)] := by rw [HU.out, HB4.out, by8_append]; rfl
        rw [e, show 4 * (k + 1) = 4 * k + 4 from by omega]; exact hR2, (hnx.alloc hsz _).grown hgr2 (by simp; omega) (fun j hj => by cases hj; exact hR.ge)⟩
      case measure => simp [intOf]; omega
    · obtain rfl : k = n := by omega
      have d0 : decide ((k : Int) < (k : Int)) = false := by simp
      have hcv := cv.conv_row hR (bs4_ok _)
      rw [List.take_of_length_le (by omega)] at hcv
      obtain ⟨T, HT⟩ : ∃ T, Hid (T = told l) := ⟨_, rfl⟩
      rw [show tx (bs4 l) = T from HT.out.symm] at hcv
      go_wp2_with fail
      go_ret
      exact ⟨by rw [HT.out]; rfl, hnx⟩
end Go.Proofs.YtmbckgfpkmnlnabDoor.cha
