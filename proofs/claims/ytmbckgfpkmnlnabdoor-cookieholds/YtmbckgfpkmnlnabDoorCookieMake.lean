/-
  THE WALKS OF package cookie's told and Make.
-/
import Derived.Test.YtmbckgfpkmnlnabDoorCookieLow
import Derived.Test.YtmbckgfpkmnlnabDoorPlainStamp
import Derived.BigRegion
import Derived.OwnWalk
namespace Go.Proofs.YtmbckgfpkmnlnabDoor.coo
open Go.RowKit
open Go.Proofs.YtmbckgfpkmnlnabDoor.bla (Tab)
open Go.Proofs.YtmbckgfpkmnlnabDoor.stm (hb hb_length hb_ok put put_eq)

/-- A number in m bytes, the highest first. -/
def toldT (n m : Nat) : ByteArray := tx (hb n m)
theorem toldT_size (n m : Nat) : (toldT n m).size = m := by rw [toldT, tx_size, hb_length]
theorem put_all (n m : Nat) : put (List.replicate m 0) 0 n m = hb n m := by
  rw [put_eq m _ 0 n (by rw [List.length_replicate]; omega), List.take_zero, List.nil_append, Nat.zero_add, List.drop_of_length_le (by rw [List.length_replicate]; exact Nat.le_refl _), List.append_nil]
theorem own_blk {w : World} {B e g n : Nat} {xs : List Value} (h : w.ownsRow B e 1 (.slice (some ⟨g, 0, none⟩) n n) n xs) : Blk w g e xs := by
  obtain ⟨hl, ⟨h0, _⟩ | ⟨g', cap', cur, hv, hB, hg, hn, hm, hc, ht⟩⟩ := h
  · cases h0
  · injection hv with e1 e2 e3
    injection e1 with e1
    injection e1 with e1
    subst e1 e3
    rw [List.take_of_length_le (by simp; omega)] at ht
    unfold Blk
    rw [hg, ← ht]
theorem by8s_set (l : List Nat) (j n : Nat) : (by8 l).set j (.int .u8 (n : Int)) = by8 (l.set j n) := by simp [by8, List.map_set]

set_option maxRecDepth 100000 in
set_option maxHeartbeats 1600000 in
theorem told_any (n m : Nat) (hn : n ≤ 1099511627776) (h8 : m ≤ 8) (w : World) :
    Calls Tryd.prog 20 #[.int .i64 n, .int .i64 m] w fun e w' => e = .returned (.string (toldT n m)) ∧ Below w.heap.size w w' := by
  obtain ⟨i0, hi, hz0, hz1, hz2⟩ := info_parts cv.infoU8
  have w8 := cv.wrap_8
  have m0 : (0 : Int) ≤ (m : Int) := by omega
  have m8 : (m : Int) ≤ 8 := by omega
  go_enter Tryd.func20, Tryd.ntmps20
  go_wp2_with (at_make; refine wpList_make_full _ rfl _ _ 39 rfl w.heap.size 5 i0 (.int .u8 0) 1 Tryd.underlying39 hi hz0 hz1 _ _ _ _ m rfl rfl rfl rfl (by rw [hz2]; omega) (by unfold maxLen; omega) (Nat.le_refl _) ?_; intro w1 hown0 hgr0)
  rw [cv.made_by8] at hown0
  have hB0 := own_blk hown0
  have hX0 : Below w.heap.size w w1 := (Below.refl _ _).grown hgr0 (Nat.le_refl _) (fun k hk => by cases hk)
  have hP0 := put_all n m
  obtain ⟨b, hb⟩ : ∃ b, b = w.heap.size := ⟨_, rfl⟩
  have HB : Hid (w.heap.size ≤ b) := by show _ ≤ _; omega
  rw [← hb] at hB0 ⊢
  have lZ : (List.replicate m 0 : List Nat).length = m := List.length_replicate
  generalize (List.replicate m 0 : List Nat) = Z at *
  clear hown0 hgr0 hb
  go_loopw [0, 6] (fun x i wr => ∃ (k v : Nat) (Y : List Nat), k ≤ m ∧ i = .int .i64 ((k : Int) - 1) ∧ x = .int .i64 (v : Nat) ∧ v ≤ 1099511627776 ∧ Y.length = m ∧ put Y 0 v k = hb n m ∧ Blk wr b 5 (by8 Y) ∧ Below w.heap.size w wr) (fun _ i _ => (intOf i + 1).toNat)
  case atStart => exact ⟨m, n, Z, Nat.le_refl _, by go_num, rfl, hn, lZ, hP0, hB0, hX0⟩
  case round =>
    clear hB0 hX0 hP0 lZ
    obtain ⟨k, v, Y, hk, rfl, rfl, hv, hY, hP, hB, hX⟩ := hrel
    cases k with
    | zero =>
      have d0 : decide ((-1 : Int) ≥ 0) = false := by decide
      have e0 : ((0 : Nat) : Int) - 1 = -1 := by decide
      rw [e0]
      rw [put] at hP
      subst hP
      have hcv := cv.conv_blk hB hY (hb_ok m n) m
      obtain ⟨T, HT⟩ : ∃ T, Hid (T = toldT n m) := ⟨_, rfl⟩
      rw [show tx (hb n m) = T from HT.out.symm] at hcv
      generalize hb n m = L at *
      go_wp2_with fail
      go_ret
      exact ⟨by rw [← HT.out]; rfl, hX⟩
    | succ j =>
      obtain ⟨x, hx⟩ : ∃ x, x = v % 256 := ⟨_, rfl⟩
      obtain ⟨u, hu⟩ : ∃ u, u = v / 256 := ⟨_, rfl⟩
      have e0 : ((j + 1 : Nat) : Int) - 1 = (j : Int) := by omega
      have d0 : decide ((j : Int) ≥ 0) = true := by simp
      rw [e0]
      have HP : Hid (put (Y.set j x) 0 u j = hb n m) := by
        show _ = _
        rw [hx, hu, ← hP, put, Nat.zero_add]
      have c1 := hB.cell j _ (by8_get Y j (by omega))
      have c2 := hB.frozen j
      have x1 : (v : Int) % 256 = (x : Int) := by omega
      have v1 : IntKind.u8.wrap (v : Int) = (x : Int) := by rw [w8]; exact x1
      have v2 : (v : Int) / 2 ^ 8 = (u : Int) := by show (v : Int) / 256 = _; omega
      have v3 : (v : Int) / 256 = (u : Int) := by omega
      have u1 : u ≤ 1099511627776 := by omega
      have v4 : IntKind.i64.wrap (u : Int) = (u : Int) := IntWalk.i64_in _ ⟨by omega, by omega⟩
      have jm : (j : Int) < (m : Int) := by omega
      have jb : (j : Int) ≤ 1000 := by omega
      have HJ : Hid (j ≤ m) := by show j ≤ m; omega
      generalize Y.getD j 0 = old at *
      clear hx hu w8 hP
      go_wp2_with fail
      go_roundw
      case rel => exact ⟨j, u, _, HJ.out, by go_num, rfl, u1, by rw [List.length_set]; exact hY, HP.out, by rw [← by8s_set]; exact hB.set _ _, hX.setCell HB.out _⟩
      case measure => first | (simp [intOf]; done) | (simp [intOf]; omega)

set_option maxRecDepth 100000 in
set_option maxHeartbeats 800000 in
/-- At second 120 n + a. -/
theorem Make_good (s : ByteArray) (f n a : Nat) (hs : s.size = 32) (hf : f < 4294967296) (hn : n < 1073741824) (ha : a < 120) (w : World) (hT : Tab w) :
    Calls Tryd.prog 10 #[.string s, .int .u32 f, .int .i64 ((120 * n + a : Nat) : Int)] w fun e w' => e = .returned (.tuple #[.string (mk s (toldT n 8 ++ toldT f 4)), .int .i64 0]) ∧ Below w.heap.size w w' := by
  obtain ⟨z, hz⟩ : ∃ z, z = 120 * n + a := ⟨_, rfl⟩
  rw [← hz]
  have t1 : ((s.size : Int) != 32) = false := by rw [bne_eq_false_iff_eq]; omega
  have d1 : decide ((z : Int) < 0) = false := decide_eq_false (by omega)
  have d2 : decide ((z : Int) > 1099511627776) = false := decide_eq_false (by omega)
  have d2' : decide ((1099511627776 : Int) < (z : Int)) = false := decide_eq_false (by omega)
  have q1 : (z : Int).tdiv 120 = (n : Int) := by rw [Int.tdiv_eq_ediv_of_nonneg (by omega)]; omega
  have q2 : (z : Int) / 120 = (n : Int) := by omega
  have z1 : (z : Int) ≤ 1099511627776 := by omega
  have f1 : ∀ W, Calls Tryd.prog 20 #[.int .i64 n, .int .i64 8] W fun e w' => e = .returned (.string (toldT n 8)) ∧ Below W.heap.size W w' := told_any n 8 (by omega) (by decide)
  have f2 : ∀ W, Calls Tryd.prog 20 #[.int .i64 f, .int .i64 4] W fun e w' => e = .returned (.string (toldT f 4)) ∧ Below W.heap.size W w' := told_any f 4 (by omega) (by decide)
  have s1 := toldT_size n 8
  have s2 := toldT_size f 4
  have f3 : ∀ W, Below w.heap.size w W → _ := fun W h => mark_any s (toldT n 8 ++ toldT f 4) (by omega) (by rw [ByteArray.size_append]; omega) W (hT.grown h)
  have b1 : (f : Int) < 4294967296 := by omega
  have b2 : (n : Int) < 1073741824 := by omega
  have c1 : IntKind.i64.wrap (f : Int) = (f : Int) := IntWalk.i64_in _ ⟨by omega, by omega⟩
  have c2 : IntKind.i64.wrap (n : Int) = (n : Int) := IntWalk.i64_in _ ⟨by omega, by omega⟩
  have n3 : (toldT n 8).size + (toldT f 4).size ≤ 100 := by omega
  generalize mk s (toldT n 8 ++ toldT f 4) = R at *
  generalize toldT n 8 = A at *
  generalize toldT f 4 = B at *
  have hX : Below w.heap.size w w := Below.refl _ _
  clear hT hz hs hf hn ha s1 s2
  go_enter Tryd.func10, Tryd.ntmps10
  go_wp2_with (first
    | (go_at_call 20; (first | (with_reducible refine (f1 _).mono ?_) | (with_reducible refine (f2 _).mono ?_)); rintro e wq ⟨rfl, hq⟩; replace hX := hX.trans (hq.mono hX.size); clear hq)
    | (go_at_call 13; (with_reducible refine (f3 _ hX).mono ?_); rintro e wq ⟨rfl, hq⟩; replace hX := hX.trans (hq.mono hX.size); clear hq))
  go_ret2
  exact ⟨rfl, hX⟩
theorem Make_neg (s : ByteArray) (f : Nat) (hs : s.size = 32) (w : World) :
    Calls Tryd.prog 10 #[.string s, .int .u32 f, .int .i64 (-1)] w fun e w' => e = .returned (.tuple #[.string ⟨#[]⟩, .int .i64 1]) ∧ w' = w := by
  have t1 : ((s.size : Int) != 32) = false := by rw [bne_eq_false_iff_eq]; omega
  clear hs
  go_enter Tryd.func10, Tryd.ntmps10
  go_wp2_with fail
  go_ret2
  exact ⟨rfl, rfl⟩
end Go.Proofs.YtmbckgfpkmnlnabDoor.coo
