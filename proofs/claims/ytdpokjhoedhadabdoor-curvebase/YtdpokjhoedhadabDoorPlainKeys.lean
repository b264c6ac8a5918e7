/-
  PLAIN MATHEMATICS OF keys: what a clamped key's bits are; numbers as texts without their highest bit; shared secrets. No program is walked here.
-/
import Derived.Test.YtdpokjhoedhadabDoorCurveMult
import Derived.Test.YtdpokjhoedhadabDoorPlainMeet
namespace Go.Proofs.YtdpokjhoedhadabDoor.crv
open Go.Proofs.YtdpokjhoedhadabDoor.num Go.Proofs.YtdpokjhoedhadabDoor.edw

/-! ### Bits -/
theorem fold_lt (bs : List Bool) : ∀ n m : Nat, n < 2 ^ m → bs.foldl (fun n b => 2 * n + (if b then 1 else 0)) n < 2 ^ (m + bs.length) := by
  induction bs with
  | nil => intro n m h; exact h
  | cons b bs ih =>
    intro n m h
    have h1 := ih (2 * n + (if b then 1 else 0)) (m + 1) (by rw [Nat.pow_succ]; split <;> omega)
    rw [List.length_cons, show m + (bs.length + 1) = m + 1 + bs.length from by omega]
    exact h1
theorem bval_lt (bs : List Bool) : bval bs < 2 ^ bs.length := by
  have := fold_lt bs 0 0 (by decide)
  rw [Nat.zero_add] at this
  exact this
theorem fold_ge (bs : List Bool) : ∀ n : Nat, n ≤ bs.foldl (fun n b => 2 * n + (if b then 1 else 0)) n := by
  induction bs with
  | nil => intro n; exact Nat.le_refl n
  | cons b bs ih =>
    intro n
    refine Nat.le_trans ?_ (ih _)
    show n ≤ 2 * n + (if b then 1 else 0)
    split <;> omega
theorem bval_cons (bs : List Bool) : 0 < bval (true :: bs) := Nat.lt_of_lt_of_le (by decide) (fold_ge bs (2 * 0 + 1))
theorem kb_length (n : ByteArray) (m : Nat) : (kb n m).length = m := by simp [kb]
theorem kb_head (n : ByteArray) (m : Nat) : kb n (m + 1) = bitAt n 254 :: (List.range m).map (fun j => bitAt n (254 - (j + 1))) := by
  simp [kb, List.range_succ_eq_map]

/-! ### Bytes of what was written -/
theorem bt_mk (l : List UInt8) (k : Nat) (h : k < l.length) : PlainAid.bt ⟨l.toArray⟩ k = ((l[k].toNat : Nat) : Int) := by
  rw [← PlainAid.get_bt ⟨l.toArray⟩ k (by show k < l.toArray.size; simpa using h)]
  rfl
theorem clamp_0 (k : ByteArray) (h : k.size = 32) : PlainAid.bt (clampC k) 0 = PlainAid.bt k 0 / 8 * 8 := by
  have hl : k.data.toList.length = 32 := h
  unfold clampC
  rw [bt_mk _ 0 (by rw [List.length_set, List.length_set]; omega), List.getElem_set_ne (by decide), List.getElem_set_self]
  have := PlainAid.bt_nonneg k 0
  have := PlainAid.bt_le k 0
  exact byte_int _ (by omega) (by omega)
theorem clamp_31 (k : ByteArray) (h : k.size = 32) : PlainAid.bt (clampC k) 31 = PlainAid.bt k 31 % 64 + 64 := by
  have hl : k.data.toList.length = 32 := h
  unfold clampC
  rw [bt_mk _ 31 (by rw [List.length_set, List.length_set]; omega), List.getElem_set_self]
  exact byte_int _ (by omega) (by omega)
theorem clamp_list (k : ByteArray) : (clampC k).data.toList = (k.data.toList.set 0 (UInt8.ofNat (PlainAid.bt k 0 / 8 * 8).toNat)).set 31 (UInt8.ofNat (PlainAid.bt k 31 % 64 + 64).toNat) := rfl
theorem clamp_twice (k : ByteArray) (h : k.size = 32) : clampC (clampC k) = clampC k := by
  have h0 := clamp_0 k h
  have h1 := clamp_31 k h
  have e : (clampC (clampC k)).data.toList = (clampC k).data.toList := by
    rw [clamp_list, h0, h1, show PlainAid.bt k 0 / 8 * 8 / 8 * 8 = PlainAid.bt k 0 / 8 * 8 from by omega, show (PlainAid.bt k 31 % 64 + 64) % 64 + 64 = PlainAid.bt k 31 % 64 + 64 from by omega, clamp_list]
    generalize UInt8.ofNat (PlainAid.bt k 0 / 8 * 8).toNat = a
    generalize UInt8.ofNat (PlainAid.bt k 31 % 64 + 64).toNat = b
    rw [List.set_comm _ _ (by decide : (31 : Nat) ≠ 0), List.set_set, List.set_set]
  generalize clampC (clampC k) = x at *
  generalize clampC k = y at *
  cases x
  cases y
  congr
  exact Array.ext' e
theorem key_8 (k : ByteArray) (h : k.size = 32) : bval (kb (clampC k) 255) % 8 = 0 := by
  have h0 := clamp_0 k h
  have b2 : bitAt (clampC k) 2 = false := by
    unfold bitAt
    rw [show 2 / 8 = 0 from rfl, show 2 % 8 = 2 from rfl, h0]
    exact decide_eq_false (by omega)
  have b1 : bitAt (clampC k) 1 = false := by
    unfold bitAt
    rw [show 1 / 8 = 0 from rfl, show 1 % 8 = 1 from rfl, h0]
    exact decide_eq_false (by omega)
  have b0 : bitAt (clampC k) 0 = false := by
    unfold bitAt
    rw [show 0 / 8 = 0 from rfl, show 0 % 8 = 0 from rfl, h0]
    exact decide_eq_false (by omega)
  rw [show 255 = 252 + 1 + 1 + 1 from rfl, kb_succ, kb_succ, kb_succ, show 254 - (252 + 1 + 1) = 0 from rfl, show 254 - (252 + 1) = 1 from rfl, show 254 - 252 = 2 from rfl, b0, b1, b2, bval_snoc, bval_snoc, bval_snoc]
  simp
  omega
theorem key_pos (k : ByteArray) (h : k.size = 32) : 0 < bval (kb (clampC k) 255) := by
  have h1 := clamp_31 k h
  have b : bitAt (clampC k) 254 = true := by
    unfold bitAt
    rw [show 254 / 8 = 31 from rfl, show 254 % 8 = 6 from rfl, h1]
    exact decide_eq_true (by omega)
  rw [show 255 = 254 + 1 from rfl, kb_head, b]
  exact bval_cons _
theorem key_lt (k : ByteArray) : bval (kb (clampC k) 255) < 2 ^ 255 := by
  have := bval_lt (kb (clampC k) 255)
  rw [kb_length] at this
  exact this

/-! ### Without the highest bit -/
theorem nB_append (a b : List UInt8) : nB (a ++ b) = nB a + 256 ^ a.length * nB b := by
  induction a with
  | nil => simp [nB]
  | cons x a ih =>
    rw [List.cons_append, nB, nB, ih, List.length_cons, Int.pow_succ, Int.mul_add, ← Int.mul_assoc, Int.mul_comm 256 (256 ^ a.length), Int.add_assoc]
theorem last_split (l : List UInt8) (h : l.length = 32) (x : UInt8) : l.set 31 x = l.take 31 ++ [x] := by
  rw [List.set_eq_take_append_cons_drop, if_pos (by omega), List.drop_of_length_le (by omega)]
theorem below_N (u : ByteArray) (h : u.size = 32) : N (belowC u) = N u % 57896044618658097711785492504343953926634992332820282019728792003956564819968 := by
  have hl : u.data.toList.length = 32 := h
  have e1 : u.data.toList = u.data.toList.take 31 ++ [u.data.toList[31]] := by
    conv => lhs; rw [← List.take_append_drop 31 u.data.toList]
    congr 1
    rw [List.drop_eq_getElem_cons (by omega), List.drop_of_length_le (by omega)]
  have hb : PlainAid.bt u 31 = ((u.data.toList[31].toNat : Nat) : Int) := by
    rw [← PlainAid.get_bt u 31 (by omega)]; simp; rfl
  have h0 := PlainAid.bt_nonneg u 31
  have h1 := PlainAid.bt_le u 31
  have hk : (u.data.toList.take 31).length = 31 := by rw [List.length_take]; omega
  have hlow := nB_bd (u.data.toList.take 31)
  rw [hk] at hlow
  have eu : N u = nB (u.data.toList.take 31) + 256 ^ 31 * PlainAid.bt u 31 := by
    show nB u.data.toList = _
    conv => lhs; rw [e1]
    rw [nB_append, hk, hb]
    simp [nB]
  have eb : N (belowC u) = nB (u.data.toList.take 31) + 256 ^ 31 * (PlainAid.bt u 31 % 128) := by
    show nB (belowC u).data.toList = _
    show nB (u.data.toList.set 31 (UInt8.ofNat (PlainAid.bt u 31 % 128).toNat)) = _
    rw [last_split _ hl, nB_append, hk]
    have := byte_int (PlainAid.bt u 31 % 128) (by omega) (by omega)
    simp only [nB]
    rw [this]
    simp
  rw [eu, eb]
  have hp : (256 : Int) ^ 31 = 452312848583266388373324160190187140051835877600158453279131187530910662656 := by decide
  rw [hp] at hlow ⊢
  generalize nB (u.data.toList.take 31) = L at *
  generalize PlainAid.bt u 31 = x at *
  clear hb eu eb e1
  omega
theorem below_kt (v : K) : kap (N (belowC (kt v))) = v := by
  rw [below_N _ (kt_size v)]
  unfold kt
  rw [N_text]
  have := v.isLt
  rw [show (v.val : Int) % P % 57896044618658097711785492504343953926634992332820282019728792003956564819968 = (v.val : Int) from by unfold P; omega, kap_of]
theorem xk_xt (a b u : ByteArray) : xk a (xt b u) = mlt (kb (clampC a) 255) (xk b u) := by
  unfold xk xt
  rw [below_kt]
  rfl
/-- Multiples of multiples. -/
theorem xt_comm (a b u : ByteArray) (ha : a.size = 32) (hb : b.size = 32) : xt b (xt a u) = xt a (xt b u) := by
  have h1 := key_8 a ha
  have h2 := key_8 b hb
  have h : xk b (xt a u) = xk a (xt b u) := by
    rw [xk_xt, xk_xt]
    exact mlt_comm _ _ (by omega) (by omega) _
  unfold xt at *
  rw [h]
theorem nine_val : kap (N (belowC nineT)) = 9 := by decide +kernel
theorem xk_nine (k : ByteArray) (h : k.size = 32) : xk k nineT ≠ 0 := by
  unfold xk
  rw [nine_val]
  exact mlt_nine _ (key_8 k h) (key_pos k h) (key_lt k)
theorem xk_nine2 (a b : ByteArray) (ha : a.size = 32) (hb : b.size = 32) : xk a (xt b nineT) ≠ 0 := by
  rw [xk_xt]
  unfold xk
  rw [nine_val]
  exact mlt_nine2 _ _ (key_8 b hb) (key_pos b hb) (key_lt b) (key_8 a ha) (key_pos a ha) (key_lt a)
theorem xk_low (k u : ByteArray) (h : k.size = 32) (hu : (lad (kap (N (belowC u))) [true, false, false, false]).1.2 = 0) : xk k u = 0 := mlt_low _ (key_8 k h) _ hu
/-- An answer, told by what it makes with the lower rung. -/
theorem mlt_told (bs : List Bool) (x v : K) (h : (lad x bs).1.1 = v * (lad x bs).1.2) (hz : (lad x bs).1.2 ≠ 0) : mlt bs x = v := by
  unfold mlt
  have := kinv_mul _ hz
  rw [h]
  generalize (lad x bs).1.2 = z at *
  generalize kinv z = i at *
  grind -lia -linarith
end Go.Proofs.YtdpokjhoedhadabDoor.crv
