/-
  THE WALKS OF package seal's told, filled, tagged, xored and tag.
-/
import Derived.Test.YtmbckgfpkmnlnabDoorPlainSeal
import Derived.Test.YtmbckgfpkmnlnabDoorConv
import Derived.Test.YtmbckgfpkmnlnabDoorBundle4
import Derived.Test.YtmbckgfpkmnlnabDoorChaXor
import Derived.Test.YtmbckgfpkmnlnabDoorPolyTag
namespace Go.Proofs.YtmbckgfpkmnlnabDoor.sea
open Go.RowKit
open Go.Proofs.YtmbckgfpkmnlnabDoor.pol (T T_size)

set_option maxRecDepth 100000 in
set_option maxHeartbeats 800000 in
theorem told_any (n : Nat) (w : World) :
    Calls Tryd.prog 72 #[.int .i64 n] w fun e w' => e = .returned (.string (T 8 n)) ∧ Below w.heap.size w w' := by
  have hA0 : Blk (w.alloc (.cells (by8 [0, 0, 0, 0, 0, 0, 0, 0]).toArray 111)) w.heap.size 111 (by8 [0, 0, 0, 0, 0, 0, 0, 0]) := Blk.new w 111 _ _ rfl
  have hX0 : Below w.heap.size w (w.alloc (.cells (by8 [0, 0, 0, 0, 0, 0, 0, 0]).toArray 111)) := (Below.refl _ _).alloc (Nat.le_refl _) _
  have hA1 : Blk (w.alloc (.cells (by8 [0, 0, 0, 0, 0, 0, 0, 0]).toArray 111)) w.heap.size 111 (by8 (part n 0)) := hA0
  clear hA0
  go_enter Tryd.func72, Tryd.ntmps72
  go_wp2
  go_loopw [5] (fun i wr => ∃ k : Nat, k ≤ 8 ∧ i = .int .i64 k ∧ Blk wr w.heap.size 111 (by8 (part n k)) ∧ Below w.heap.size w wr) (fun i _ => 8 - (intOf i).toNat)
  case atStart => exact ⟨0, by omega, rfl, hA1, hX0⟩
  case round =>
    clear hA1 hX0
    obtain ⟨k, hk, rfl, hB, hnx⟩ := hrel
    by_cases hlt : k < 8
    · have d0 : decide ((k : Int) < 8) = true := by simp; omega
      have q0 : IntKind.i64.wrap (8 * (k : Int)) = 8 * (k : Int) := IntWalk.i64_in _ ⟨by omega, by omega⟩
      have HU : Hid ((by8 (part n k)).set k (.int .u8 ((n / 256 ^ k % 256 : Nat) : Int)) = by8 (part n (k + 1))) := by
        show _ = _
        rw [← part_step n k]
        simp [by8, List.map_set]
      obtain ⟨x, hx⟩ : ∃ x, x = n / 256 ^ k % 256 := ⟨_, rfl⟩
      have v1 : IntKind.u8.wrap ((n : Int) / 2 ^ (8 * k)) = (x : Int) := by
        have e : (2 : Int) ^ (8 * k) = ((256 ^ k : Nat) : Int) := by
          have h : (256 ^ k : Nat) = 2 ^ (8 * k) := (Nat.pow_mul 2 8 k).symm
          rw [h]
          simp
        rw [cv.wrap_8, hx, e]
        simp
      rw [← hx] at HU
      have hl : (by8 (part n k)).length = 8 := by simp [by8, part_length]
      have hf := hB.frozen k
      have hc := hB.cell k _ (by8_get _ k (by rw [part_length]; exact hlt))
      generalize (part n k).getD k 0 = old at *
      generalize by8 (part n k) = L at *
      have k0 : (0 : Int) ≤ (k : Int) := by omega
      have kz : (k : Int) < 8 := by omega
      clear hx
      go_wp2
      go_roundw
      case rel => exact ⟨k + 1, by omega, by go_num, by rw [← HU.out]; exact hB.set k _, hnx.setCell (by simp) _⟩
      case measure => simp [intOf]; omega
    · obtain rfl : k = 8 := by omega
      have hcv := cv.conv_blk hB (part_length n 8) (part_ok n 8) 8
      rw [part_all] at hcv
      obtain ⟨X, hX⟩ : ∃ X, X = T 8 n := ⟨_, rfl⟩
      rw [← hX] at hcv
      have HX : Hid (X = T 8 n) := hX
      clear hX
      generalize by8 (part n 8) = Y at *
      go_wp2
      go_ret
      exact ⟨by rw [HX.out]; rfl, hnx⟩

set_option maxRecDepth 100000 in
theorem filled_any (s : ByteArray) (hs : s.size ≤ 140737488355328) (w : World) :
    Calls Tryd.prog 71 #[.string s] w fun e w' => e = .returned (.string (fl s)) ∧ Below w.heap.size w w' := by
  unfold fl
  obtain ⟨r, hr⟩ : ∃ r, r = (16 - s.size % 16) % 16 := ⟨_, rfl⟩
  rw [← hr]
  have f2 := fun W => Tryd.strings_Repeat ⟨#[0]⟩ r W (by omega) (by show 1 * r ≤ _; omega)
  have e : (⟨(Lib.repeatL (⟨#[0]⟩ : ByteArray).data.toList r).toArray⟩ : ByteArray) = noughts r := by
    show (⟨(Lib.repeatL [0] r).toArray⟩ : ByteArray) = _
    rw [repeat_zero]; rfl
  rw [e] at f2
  have hz := noughts_size r
  generalize noughts r = Z at *
  obtain ⟨a, ha⟩ : ∃ a, a = s.size % 16 := ⟨_, rfl⟩
  have e1 : (s.size : Int).tmod 16 = (a : Int) := by rw [Int.tmod_eq_emod_of_nonneg (by omega)]; omega
  have e2 : (16 - (a : Int)).tmod 16 = (r : Int) := by rw [Int.tmod_eq_emod_of_nonneg (by omega)]; omega
  have e3 : (s.size : Int) % 16 = (a : Int) := by omega
  have e4 : (16 - (a : Int)) % 16 = (r : Int) := by omega
  have hr16 : r < 16 := by omega
  have ha16 : a < 16 := by omega
  have n3 : s.size + Z.size ≤ 140737488355360 := by omega
  clear hr ha e
  go_enter Tryd.func71, Tryd.ntmps71
  go_wp2_with (go_at_call 21; refine (f2 _).mono ?_; rintro e w2 ⟨rfl, hb2⟩)
  go_ret
  exact ⟨rfl, hb2⟩

set_option maxRecDepth 100000 in
set_option maxHeartbeats 800000 in
theorem tagged_any (more s : ByteArray) (hm : more.size ≤ 1000000) (hs : s.size ≤ 1000000) (w : World) :
    Calls Tryd.prog 58 #[.string more, .string s] w fun e w' => e = .returned (.string (made more s)) ∧ Below w.heap.size w w' := by
  have f1 := filled_any more (by omega)
  have f2 := filled_any s (by omega)
  have f3 := told_any more.size
  have f4 := told_any s.size
  have s1 := fl_size more
  have s2 := fl_size s
  have s3 := T_size 8 more.size
  have s4 := T_size 8 s.size
  have HM : Hid (made more s = fl more ++ fl s ++ T 8 more.size ++ T 8 s.size) := rfl
  rw [HM.out]
  generalize fl more = A at *
  generalize fl s = B at *
  generalize T 8 more.size = C at *
  generalize T 8 s.size = D at *
  clear HM
  have hX : Below w.heap.size w w := Below.refl _ _
  go_enter Tryd.func58, Tryd.ntmps58
  go_wp2_with (first
    | (go_at_call 71; (first | (with_reducible refine (f1 _).mono ?_) | (with_reducible refine (f2 _).mono ?_)); rintro e wq ⟨rfl, hq⟩; replace hX := hX.trans (hq.mono hX.size); clear hq)
    | (go_at_call 72; (first | (with_reducible refine (f3 _).mono ?_) | (with_reducible refine (f4 _).mono ?_)); rintro e wq ⟨rfl, hq⟩; replace hX := hX.trans (hq.mono hX.size); clear hq))
  go_ret
  exact ⟨rfl, hX⟩

theorem xored_any (key nonce s : ByteArray) (h1 : key.size = 32) (h2 : nonce.size = 12) (hs : s.size ≤ 2000) (w : World) :
    Calls Tryd.prog 46 #[.string key, .string nonce, .string s] w fun e w' => e = .returned (.string (hide key nonce s)) ∧ Below w.heap.size w w' := by
  have f1 := cha.Xor_good key nonce 1 s (by omega) h1 h2 hs
  rw [show ((1 : Nat) : Int) = 1 from rfl] at f1
  have HT : Hid (hide key nonce s = cha.hid key nonce 1 s) := rfl
  rw [HT.out]
  clear HT
  generalize cha.hid key nonce 1 s = T at *
  go_enter Tryd.func46, Tryd.ntmps46
  go_wp2_with (go_at_call 55; (with_reducible refine (f1 _).mono ?_); rintro e w1 ⟨rfl, hb1⟩)
  go_ret
  exact ⟨rfl, hb1⟩

set_option maxRecDepth 100000 in
set_option maxHeartbeats 800000 in
theorem tag_any (key nonce more s : ByteArray) (h1 : key.size = 32) (h2 : nonce.size = 12) (hm : more.size ≤ 1000000) (hs : s.size ≤ 1000000) (w : World) :
    Calls Tryd.prog 47 #[.string key, .string nonce, .string more, .string s] w fun e w' => e = .returned (.string (tagT key nonce more s)) ∧ Below w.heap.size w w' := by
  have f1 := cha.Block_good key nonce 0 (by omega) h1 h2
  rw [show ((0 : Nat) : Int) = 0 from rfl] at f1
  have f2 := tagged_any more s hm hs
  have f3 := pol.Tag_good (key0 key nonce) (made more s) (key0_size key nonce)
  have p1 := cv.sl_to (cha.blk key nonce 0) 32 (by rw [cha.blk_size]; omega)
  rw [show ((32 : Nat) : Int) = 32 from rfl, show (cha.blk key nonce 0).extract 0 32 = key0 key nonce from rfl] at p1
  have HT : Hid (tagT key nonce more s = pol.tag (key0 key nonce) (made more s)) := rfl
  rw [HT.out]
  clear HT
  generalize pol.tag (key0 key nonce) (made more s) = G at *
  generalize key0 key nonce = K at *
  generalize made more s = M at *
  generalize cha.blk key nonce 0 = B at *
  go_enter Tryd.func47, Tryd.ntmps47
  go_wp2_with (go_at_call 56; (with_reducible refine (f1 _).mono ?_); rintro e w1 ⟨rfl, hb1⟩)
  have hne := Up.some w1
  have F2 : Hid (∀ y : Up w1, Calls Tryd.prog 58 #[.string more, .string s] y.1 fun e w' => e = .returned (.string M) ∧ Below y.1.heap.size y.1 w') := fun y => f2 y.1
  have F3 : Hid (∀ y : Up w1, Calls Tryd.prog 57 #[.string K, .string M] y.1 fun e w' => e = .returned (.tuple #[.string G, .int .i64 0]) ∧ Below y.1.heap.size y.1 w') := fun y => f3 y.1
  clear f1 f2 f3
  refine wp_region_up (by kernel_rfl) (by kernel_rfl) ?_
  repeat (go_big_quiet_step (first | (with_reducible exact calls_up (F2.out _)) | (with_reducible exact calls_up (F3.out _))))
  refine wpQuiet_nil ?_
  rintro w2 ⟨y2, rfl⟩
  go_wp2_with fail
  go_ret
  exact ⟨rfl, hb1.trans (y2.2.mono hb1.size)⟩
end Go.Proofs.YtmbckgfpkmnlnabDoor.sea
