/-
  PLAIN MATHEMATICS OF numbers in pieces: values, digits, carries, products; what is left modulo 2^255 - 19. No program is named here.
-/
import Derived.PlainAid
namespace Go.Proofs.YtdpokjhoedhadaaDoor.num
open Go.RowKit

/-- 2^255 - 19. -/
def P : Int := 57896044618658097711785492504343953926634992332820282019728792003956564819949

/-- The value of pieces of 16 bits, the lowest first. -/
def val : List Int → Int
  | [] => 0
  | a :: l => a + 65536 * val l
/-- n pieces of a number. -/
def dg : Nat → Int → List Int
  | 0, _ => []
  | n + 1, v => v % 65536 :: dg n (v / 65536)
theorem dg_length (n : Nat) (v : Int) : (dg n v).length = n := by
  induction n generalizing v with
  | zero => rfl
  | succ n ih => simp [dg, ih]
/-- Carried: the pieces, and what is left over. -/
def carry : List Int → Int → List Int
  | [], _ => []
  | a :: l, c => (a + c) % 65536 :: carry l ((a + c) / 65536)
def cout : List Int → Int → Int
  | [], c => c
  | a :: l, c => cout l ((a + c) / 65536)
theorem carry_dg (l : List Int) (c : Int) : carry l c = dg l.length (val l + c) := by
  induction l generalizing c with
  | nil => rfl
  | cons a l ih =>
    simp only [carry, dg, val, List.length_cons]
    rw [ih, show (a + 65536 * val l + c) % 65536 = (a + c) % 65536 from by omega, show (a + 65536 * val l + c) / 65536 = val l + (a + c) / 65536 from by omega]
theorem carry_length (l : List Int) (c : Int) : (carry l c).length = l.length := by rw [carry_dg, dg_length]
theorem carry_snoc (l : List Int) (a c : Int) : carry (l ++ [a]) c = carry l c ++ [(a + cout l c) % 65536] := by
  induction l generalizing c with
  | nil => rfl
  | cons b l ih => simp [carry, cout, ih]
theorem cout_snoc (l : List Int) (a c : Int) : cout (l ++ [a]) c = (a + cout l c) / 65536 := by
  induction l generalizing c with
  | nil => rfl
  | cons b l ih => simp [cout, ih]
theorem cout_val (l : List Int) (c : Int) : val l + c = val (carry l c) + cout l c * 65536 ^ l.length := by
  induction l generalizing c with
  | nil => simp [val, carry, cout]
  | cons a l ih =>
    have h := ih ((a + c) / 65536)
    simp only [val, carry, cout, List.length_cons]
    have e : cout l ((a + c) / 65536) * 65536 ^ (l.length + 1) = 65536 * (cout l ((a + c) / 65536) * 65536 ^ l.length) := by
      rw [Int.pow_succ, Int.mul_comm (65536 ^ l.length) 65536, Int.mul_left_comm]
    rw [e]
    generalize cout l ((a + c) / 65536) * 65536 ^ l.length = X at *
    omega
theorem cout_bd (l : List Int) (c : Int) (h : ∀ a ∈ l, -1152921504606846976 ≤ a ∧ a ≤ 1152921504606846976) (h0 : -70368744177664 ≤ c) (h1 : c ≤ 70368744177664) : -70368744177664 ≤ cout l c ∧ cout l c ≤ 70368744177664 := by
  induction l generalizing c with
  | nil => exact ⟨h0, h1⟩
  | cons a l ih =>
    have ha := h a (by simp)
    exact ih _ (fun b hb => h b (by simp [hb])) (by omega) (by omega)
theorem val_dg (n : Nat) (v : Int) : val (dg n v) = v % 65536 ^ n := by
  induction n generalizing v with
  | zero => simp [dg, val, Int.emod_one]
  | succ n ih =>
    simp only [dg, val]
    rw [ih, Int.pow_succ, Int.mul_comm (65536 ^ n) 65536]
    have h := Int.emod_emod_of_dvd v (Int.dvd_mul_right 65536 (65536 ^ n))
    have h2 : v % (65536 * 65536 ^ n) / 65536 = v / 65536 % 65536 ^ n := by
      rw [Int.emod_def v (65536 * 65536 ^ n), Int.emod_def (v / 65536) (65536 ^ n), Int.mul_assoc, Int.ediv_ediv_of_nonneg (by decide)]
      generalize 65536 ^ n * (v / (65536 * 65536 ^ n)) = X
      omega
    generalize v % (65536 * 65536 ^ n) = W at *
    omega
theorem pow16 : (65536 : Int) ^ 16 = 115792089237316195423570985008687907853269984665640564039457584007913129639936 := by decide
theorem dg_bd (n : Nat) (v : Int) : ∀ a ∈ dg n v, 0 ≤ a ∧ a ≤ 65535 := by
  induction n generalizing v with
  | zero => simp [dg]
  | succ n ih =>
    intro a ha
    simp only [dg, List.mem_cons] at ha
    rcases ha with rfl | ha
    · omega
    · exact ih _ a ha
/-- Pieces that carries can't bring out of range. -/
def small (l : List Int) : Prop := ∀ a ∈ l, -1152921504606846976 ≤ a ∧ a ≤ 1152921504606846976
theorem val_bd (l : List Int) (h : small l) : -(1152921504606846976 * 65536 ^ l.length - 1152921504606846976) ≤ val l ∧ val l ≤ 1152921504606846976 * 65536 ^ l.length - 1152921504606846976 := by
  induction l with
  | nil => simp [val]
  | cons a l ih =>
    have ha := h a (by simp)
    have hl := ih (fun b hb => h b (by simp [hb]))
    simp only [val, List.length_cons, Int.pow_succ]
    have e : (1152921504606846976 : Int) * (65536 ^ l.length * 65536) = 65536 * (1152921504606846976 * 65536 ^ l.length) := by
      rw [← Int.mul_assoc, Int.mul_comm]
    rw [e]
    generalize (1152921504606846976 : Int) * 65536 ^ l.length = X at *
    omega

/-- One turn of carries: what is left over comes back 38 times. -/
def pass (v : Int) : Int := v % 115792089237316195423570985008687907853269984665640564039457584007913129639936 + 38 * (v / 115792089237316195423570985008687907853269984665640564039457584007913129639936)
def passL (l : List Int) : List Int := (carry l 0).set 0 ((carry l 0).getD 0 0 + 38 * cout l 0)
theorem val_set0 (l : List Int) (d : Int) (h : 0 < l.length) : val (l.set 0 (l.getD 0 0 + d)) = val l + d := by
  cases l with
  | nil => simp at h
  | cons a l => simp [val]; omega
theorem passL_length (l : List Int) : (passL l).length = l.length := by simp [passL, carry_length]
theorem cout16 (l : List Int) (h : l.length = 16) : cout l 0 = val l / 115792089237316195423570985008687907853269984665640564039457584007913129639936 ∧ val (carry l 0) = val l % 115792089237316195423570985008687907853269984665640564039457584007913129639936 := by
  have h1 := cout_val l 0
  have h2 : val (carry l 0) = val l % 115792089237316195423570985008687907853269984665640564039457584007913129639936 := by rw [carry_dg, h, val_dg, pow16, Int.add_zero]
  rw [h, pow16, Int.add_zero] at h1
  exact ⟨by omega, h2⟩
theorem val_passL (l : List Int) (h : l.length = 16) : val (passL l) = pass (val l) := by
  unfold passL pass
  rw [val_set0 _ _ (by rw [carry_length, h]; decide), (cout16 l h).1, (cout16 l h).2]
theorem small_passL (l : List Int) (hs : small l) : small (passL l) := by
  have hb := cout_bd l 0 hs (by decide) (by decide)
  have hd : ∀ a ∈ carry l 0, 0 ≤ a ∧ a ≤ 65535 := by rw [carry_dg]; exact dg_bd _ _
  intro a ha
  rcases List.mem_or_eq_of_mem_set ha with h | h
  · have := hd a h; omega
  · have h0 : 0 ≤ (carry l 0).getD 0 0 ∧ (carry l 0).getD 0 0 ≤ 65535 := by
      cases hc : carry l 0 with
      | nil => simp
      | cons b r => simpa using hd b (by simp [hc])
    omega
/-- What is carried twice, as a number. -/
def cv (v : Int) : Int := pass (pass v)
theorem cv_bd (v : Int) (h0 : -133499189745056880149688856635597007162669032647290798121690100488888732861290034376435130433536 ≤ v) (h1 : v ≤ 133499189745056880149688856635597007162669032647290798121690100488888732861290034376435130433536) : 0 ≤ cv v ∧ cv v < 115792089237316195423570985008687907853269984665640564039457584007913129639936 := by
  unfold cv pass
  omega
theorem cv_mod (v : Int) : cv v % P = v % P := by
  have h : ∀ v, pass v % P = v % P := fun v => by
    unfold pass
    have e : v % 115792089237316195423570985008687907853269984665640564039457584007913129639936 + 38 * (v / 115792089237316195423570985008687907853269984665640564039457584007913129639936) = v - P * (2 * (v / 115792089237316195423570985008687907853269984665640564039457584007913129639936)) := by unfold P; omega
    rw [e, Int.sub_emod, Int.mul_emod_right, Int.sub_zero, Int.emod_emod_of_dvd _ (Int.dvd_refl _)]
  unfold cv
  rw [h, h]
theorem pass_small (v : Int) (h0 : 0 ≤ v) (h1 : v < 115792089237316195423570985008687907853269984665640564039457584007913129639936) : pass v = v := by unfold pass; omega
theorem passL_dg (v : Int) (l : List Int) (hl : l.length = 16) (hv : val l = v) (h0 : 0 ≤ v) (h1 : v < 115792089237316195423570985008687907853269984665640564039457584007913129639936) : passL l = dg 16 v := by
  have hc := cout16 l hl
  have h2 : cout l 0 = 0 := by rw [hc.1, hv]; omega
  unfold passL
  rw [h2, carry_dg, hl, hv, Int.add_zero]
  simp [dg]
theorem carried_eq (l : List Int) (hl : l.length = 16) (hs : small l) : passL (passL (passL l)) = dg 16 (cv (val l)) ∧ 0 ≤ cv (val l) ∧ cv (val l) < 115792089237316195423570985008687907853269984665640564039457584007913129639936 := by
  have hb := val_bd l hs
  rw [hl, pow16] at hb
  have hc := cv_bd (val l) (by omega) (by omega)
  have l1 : (passL l).length = 16 := by rw [passL_length, hl]
  have l2 : (passL (passL l)).length = 16 := by rw [passL_length, l1]
  refine ⟨passL_dg (cv (val l)) _ l2 ?_ hc.1 hc.2, hc⟩
  rw [val_passL _ l1, val_passL _ hl]
  rfl

/-! ### Texts as numbers -/
/-- The number of bytes, the lowest first. -/
def nB : List UInt8 → Int
  | [] => 0
  | c :: l => (c.toNat : Int) + 256 * nB l
def N (s : ByteArray) : Int := nB s.data.toList
def numL (s : ByteArray) : List Int := (List.range 16).map fun i => PlainAid.bt s (2 * i) + 256 * PlainAid.bt s (2 * i + 1)
theorem numL_length (s : ByteArray) : (numL s).length = 16 := by simp [numL]
theorem numL_get (s : ByteArray) (k : Nat) (h : k < 16) : (numL s).getD k 0 = PlainAid.bt s (2 * k) + 256 * PlainAid.bt s (2 * k + 1) := by
  simp [numL, List.getD_eq_getElem?_getD, h]
theorem numL_bd (s : ByteArray) : ∀ a ∈ numL s, 0 ≤ a ∧ a ≤ 65535 := by
  intro a ha
  simp only [numL, List.mem_map] at ha
  obtain ⟨i, _, rfl⟩ := ha
  have h0 := PlainAid.bt_nonneg s (2 * i)
  have h1 := PlainAid.bt_le s (2 * i)
  have h2 := PlainAid.bt_nonneg s (2 * i + 1)
  have h3 := PlainAid.bt_le s (2 * i + 1)
  omega
theorem dg_val (l : List Int) (h : ∀ a ∈ l, 0 ≤ a ∧ a ≤ 65535) : dg l.length (val l) = l := by
  induction l with
  | nil => rfl
  | cons a l ih =>
    have ha := h a (by simp)
    simp only [val, List.length_cons, dg]
    rw [show (a + 65536 * val l) % 65536 = a from by omega, show (a + 65536 * val l) / 65536 = val l from by omega, ih (fun b hb => h b (by simp [hb]))]
def pairs : List UInt8 → List Int
  | a :: b :: l => ((a.toNat : Int) + 256 * (b.toNat : Int)) :: pairs l
  | _ => []
theorem val_pairs (l : List UInt8) (h : l.length % 2 = 0) : val (pairs l) = nB l := by
  induction l using pairs.induct with
  | case1 a b l ih =>
    simp only [List.length_cons] at h
    simp only [pairs, val, nB, ih (by omega)]
    omega
  | case2 l hl =>
    match l with
    | [] => rfl
    | [a] => simp at h
    | a :: b :: l => exact absurd rfl (hl a b l)
theorem pairs_get (l : List UInt8) (k : Nat) (h : 2 * k + 1 < l.length) : (pairs l)[k]? = some (((l[2 * k]'(by omega)).toNat : Int) + 256 * ((l[2 * k + 1]'h).toNat : Int)) := by
  induction l using pairs.induct generalizing k with
  | case1 a b l ih =>
    cases k with
    | zero => rfl
    | succ k =>
      simp only [List.length_cons] at h
      have := ih k (by omega)
      simp only [pairs, List.getElem?_cons_succ, this]
      rfl
  | case2 l hl =>
    match l with
    | [] => simp at h
    | [a] => simp at h
    | a :: b :: l => exact absurd rfl (hl a b l)
theorem pairs_length (l : List UInt8) (h : l.length % 2 = 0) : 2 * (pairs l).length = l.length := by
  induction l using pairs.induct with
  | case1 a b l ih =>
    simp only [List.length_cons] at h
    simp only [pairs, List.length_cons]
    have := ih (by omega)
    omega
  | case2 l hl =>
    match l with
    | [] => rfl
    | [a] => simp at h
    | a :: b :: l => exact absurd rfl (hl a b l)
theorem bt_list (s : ByteArray) (k : Nat) (h : k < s.size) : PlainAid.bt s k = ((s.data.toList[k]'(by simpa using h)).toNat : Int) := by
  rw [← PlainAid.get_bt s k h]
  rfl
theorem numL_pairs (s : ByteArray) (h : s.size = 32) : numL s = pairs s.data.toList := by
  have hl : s.data.toList.length = 32 := by simpa using h
  have hp := pairs_length s.data.toList (by omega)
  apply List.ext_getElem?
  intro k
  by_cases hk : k < 16
  · rw [pairs_get s.data.toList k (by omega), List.getElem?_eq_getElem (by rw [numL_length]; exact hk)]
    have := numL_get s k hk
    rw [List.getD_eq_getElem?_getD, List.getElem?_eq_getElem (by rw [numL_length]; exact hk)] at this
    simp only [Option.getD_some] at this
    rw [this, bt_list s _ (by omega), bt_list s _ (by omega)]
  · rw [List.getElem?_eq_none (by rw [numL_length]; omega), List.getElem?_eq_none (by omega)]
theorem numL_dg (s : ByteArray) (h : s.size = 32) : numL s = dg 16 (N s) ∧ val (numL s) = N s := by
  have hv : val (numL s) = N s := by rw [numL_pairs s h, val_pairs _ (by simp [h])]; rfl
  have hd := dg_val (numL s) (numL_bd s)
  rw [numL_length, hv] at hd
  exact ⟨hd.symm, hv⟩
theorem nB_bd (l : List UInt8) : 0 ≤ nB l ∧ nB l < 256 ^ l.length := by
  induction l with
  | nil => simp [nB]
  | cons c l ih =>
    have hc := c.toNat_lt
    simp only [nB, List.length_cons, Int.pow_succ]
    omega
theorem N_bd (s : ByteArray) (h : s.size = 32) : 0 ≤ N s ∧ N s < 115792089237316195423570985008687907853269984665640564039457584007913129639936 := by
  have hb := nB_bd s.data.toList
  have hl : s.data.toList.length = 32 := by simpa using h
  rw [hl] at hb
  exact hb

/-! ### Sums -/
def plusL (l m : List Int) (t : Int) : List Int := List.zipWith (fun a b => a + t * b) l m
theorem val_plus (l m : List Int) (t : Int) (h : l.length = m.length) : val (plusL l m t) = val l + t * val m := by
  induction l generalizing m with
  | nil => cases m with
    | nil => simp [plusL, val]
    | cons b m => simp at h
  | cons a l ih => cases m with
    | nil => simp at h
    | cons b m =>
      have := ih m (by simpa using h)
      simp only [plusL, List.zipWith_cons_cons, val] at this ⊢
      rw [this, Int.mul_add, Int.mul_add, Int.mul_left_comm t 65536]
      omega
theorem plusL_length (l m : List Int) (t : Int) (h : l.length = m.length) : (plusL l m t).length = l.length := by simp [plusL, h]
theorem plusL_get (l m : List Int) (t : Int) (k : Nat) (hl : k < l.length) (hm : k < m.length) : (plusL l m t).getD k 0 = l.getD k 0 + t * m.getD k 0 := by
  have h : k < (List.zipWith (fun a b => a + t * b) l m).length := by rw [List.length_zipWith]; omega
  simp only [plusL, List.getD_eq_getElem?_getD, List.getElem?_eq_getElem hl, List.getElem?_eq_getElem hm, List.getElem?_eq_getElem h, Option.getD_some, List.getElem_zipWith]
theorem mul_bd (t b : Int) (h0 : -131072 ≤ t) (h1 : t ≤ 131072) (b0 : 0 ≤ b) (b1 : b ≤ 65535) : -8589934592 ≤ t * b ∧ t * b ≤ 8589934592 := by
  have h2 : t * b ≤ 131072 * b := Int.mul_le_mul_of_nonneg_right h1 b0
  have h3 : -131072 * b ≤ t * b := Int.mul_le_mul_of_nonneg_right h0 b0
  omega
theorem mem_getD (l : List Int) (k : Nat) (h : k < l.length) : l.getD k 0 ∈ l := by
  rw [List.getD_eq_getElem?_getD, List.getElem?_eq_getElem h]; exact List.getElem_mem _
theorem plusL_small (l m : List Int) (t : Int) (h0 : -131072 ≤ t) (h1 : t ≤ 131072) (hl : ∀ a ∈ l, 0 ≤ a ∧ a ≤ 65535) (hm : ∀ a ∈ m, 0 ≤ a ∧ a ≤ 65535) (h : l.length = m.length) : small (plusL l m t) := by
  intro a ha
  obtain ⟨k, hk, rfl⟩ := List.getElem_of_mem ha
  have hk' : k < l.length := by rw [plusL_length l m t h] at hk; exact hk
  have e := plusL_get l m t k hk' (by omega)
  rw [List.getD_eq_getElem?_getD, List.getElem?_eq_getElem hk, Option.getD_some] at e
  have b1 := hl _ (mem_getD l k hk')
  have b2 := hm _ (mem_getD m k (by omega))
  have b3 := mul_bd t _ h0 h1 b2.1 b2.2
  rw [e]
  omega

/-! ### Products -/
theorem val_append (l m : List Int) : val (l ++ m) = val l + 65536 ^ l.length * val m := by
  induction l with
  | nil => simp [val]
  | cons a l ih =>
    simp only [List.cons_append, val, ih, List.length_cons, Int.pow_succ]
    rw [Int.mul_add, Int.mul_comm (65536 ^ l.length) 65536, Int.mul_assoc]
    omega
theorem val_take_succ (m : List Int) (k : Nat) (h : k < m.length) : val (m.take (k + 1)) = val (m.take k) + m.getD k 0 * 65536 ^ k := by
  rw [List.take_succ_eq_append_getElem h, val_append, List.length_take, Nat.min_eq_left (by omega)]
  have e : m.getD k 0 = m[k] := by rw [List.getD_eq_getElem?_getD, List.getElem?_eq_getElem h]; rfl
  rw [e]
  simp only [val, Int.mul_zero, Int.add_zero]
  rw [Int.mul_comm]
theorem val_add_at (l : List Int) (j : Nat) (d : Int) (h : j < l.length) : val (l.set j (l.getD j 0 + d)) = val l + d * 65536 ^ j := by
  induction l generalizing j with
  | nil => simp at h
  | cons a l ih =>
    cases j with
    | zero => simp [val]; omega
    | succ j =>
      have := ih j (by simpa using h)
      simp only [List.set_cons_succ, val, List.getD_cons_succ, this, Int.pow_succ]
      rw [Int.mul_add, ← Int.mul_assoc d, Int.mul_comm (d * 65536 ^ j) 65536]
      omega
/-- How far the products have come: i rows, and k of the next. -/
structure Conv (l m W : List Int) (i k : Nat) : Prop where
  length : W.length = 32
  value : val W = val (l.take i) * val m + l.getD i 0 * 65536 ^ i * val (m.take k)
  bound : ∀ a ∈ W, 0 ≤ a ∧ a ≤ ((16 * i + k : Nat) : Int) * 4294836225
theorem conv_start (l m : List Int) : Conv l m (List.replicate 32 0) 0 0 := by
  refine ⟨rfl, ?_, ?_⟩
  · have : val (List.replicate 32 0) = 0 := by decide
    rw [this]; simp [val]
  · intro a ha
    rw [List.eq_of_mem_replicate ha]
    simp
theorem prod_bd (x y : Int) (x0 : 0 ≤ x) (x1 : x ≤ 65535) (y0 : 0 ≤ y) (y1 : y ≤ 65535) : 0 ≤ x * y ∧ x * y ≤ 4294836225 := by
  have h1 : x * y ≤ 65535 * y := Int.mul_le_mul_of_nonneg_right x1 y0
  have h2 : 0 ≤ x * y := Int.mul_nonneg x0 y0
  omega
theorem conv_step {l m W : List Int} {i k : Nat} (h : Conv l m W i k) (hi : i < 16) (hk : k < 16) (hl : l.length = 16) (hm : m.length = 16) (bl : ∀ a ∈ l, 0 ≤ a ∧ a ≤ 65535) (bm : ∀ a ∈ m, 0 ≤ a ∧ a ≤ 65535) :
    Conv l m (W.set (i + k) (W.getD (i + k) 0 + l.getD i 0 * m.getD k 0)) i (k + 1) := by
  have hW := h.length
  have b1 := bl _ (mem_getD l i (by omega))
  have b2 := bm _ (mem_getD m k (by omega))
  have b3 := prod_bd _ _ b1.1 b1.2 b2.1 b2.2
  refine ⟨by rw [List.length_set]; exact hW, ?_, ?_⟩
  · rw [val_add_at W _ _ (by omega), h.value, val_take_succ m k (by omega), Int.mul_add]
    have e : l.getD i 0 * m.getD k 0 * 65536 ^ (i + k) = l.getD i 0 * 65536 ^ i * (m.getD k 0 * 65536 ^ k) := by
      rw [Int.pow_add, Int.mul_assoc, Int.mul_assoc, Int.mul_left_comm (m.getD k 0)]
    rw [e]
    omega
  · intro a ha
    rcases List.mem_or_eq_of_mem_set ha with h1 | h1
    · have := h.bound a h1
      have e : ((16 * i + (k + 1) : Nat) : Int) = ((16 * i + k : Nat) : Int) + 1 := by omega
      rw [e]
      omega
    · have := h.bound _ (mem_getD W (i + k) (by omega))
      have e : ((16 * i + (k + 1) : Nat) : Int) = ((16 * i + k : Nat) : Int) + 1 := by omega
      rw [e, h1]
      omega
theorem conv_row {l m W : List Int} {i : Nat} (h : Conv l m W i 16) (hi : i < 16) (hl : l.length = 16) (hm : m.length = 16) : Conv l m W (i + 1) 0 := by
  refine ⟨h.length, ?_, ?_⟩
  · rw [h.value, val_take_succ l i (by omega), List.take_of_length_le (show m.length ≤ 16 by omega), Int.add_mul]
    simp [val]
  · intro a ha
    have := h.bound a ha
    have e : ((16 * (i + 1) + 0 : Nat) : Int) = ((16 * i + 16 : Nat) : Int) := by omega
    rw [e]
    exact this
/-- The upper half comes back 38 times. -/
def foldL (W : List Int) : List Int := plusL (W.take 16) (W.drop 16) 38
theorem fold_times {l m W : List Int} (h : Conv l m W 16 0) (hl : l.length = 16) : val (foldL W) % P = (val l * val m) % P ∧ (foldL W).length = 16 ∧ small (foldL W) := by
  have hW := h.length
  have h1 : (W.take 16).length = 16 := by rw [List.length_take]; omega
  have h2 : (W.drop 16).length = 16 := by rw [List.length_drop]; omega
  have hv := h.value
  rw [List.take_of_length_le (show l.length ≤ 16 by omega)] at hv
  simp only [List.take_zero, val, Int.mul_zero, Int.add_zero] at hv
  have hs := val_append (W.take 16) (W.drop 16)
  rw [List.take_append_drop, h1, pow16] at hs
  have hp := val_plus (W.take 16) (W.drop 16) 38 (by omega)
  refine ⟨?_, ?_, ?_⟩
  · unfold foldL
    rw [hp, ← hv, hs]
    have e : val (W.take 16) + 38 * val (W.drop 16) = val (W.take 16) + 115792089237316195423570985008687907853269984665640564039457584007913129639936 * val (W.drop 16) - P * (2 * val (W.drop 16)) := by unfold P; omega
    rw [e, Int.sub_emod, Int.mul_emod_right, Int.sub_zero, Int.emod_emod_of_dvd _ (Int.dvd_refl _)]
  · unfold foldL
    rw [plusL_length _ _ _ (by omega), h1]
  · intro a ha
    unfold foldL at ha
    obtain ⟨k, hk, rfl⟩ := List.getElem_of_mem ha
    have hk' : k < 16 := by rw [plusL_length _ _ _ (by omega), h1] at hk; exact hk
    have e := plusL_get (W.take 16) (W.drop 16) 38 k (by omega) (by omega)
    rw [List.getD_eq_getElem?_getD, List.getElem?_eq_getElem hk, Option.getD_some] at e
    have c1 := h.bound _ (List.mem_of_mem_take (mem_getD (W.take 16) k (by omega)))
    have c2 := h.bound _ (List.mem_of_mem_drop (mem_getD (W.drop 16) k (by omega)))
    rw [e]
    omega
theorem foldL_get (W : List Int) (k : Nat) (hW : W.length = 32) (hk : k < 16) : (foldL W).getD k 0 = W.getD k 0 + 38 * W.getD (k + 16) 0 := by
  unfold foldL
  rw [plusL_get _ _ _ _ (by rw [List.length_take]; omega) (by rw [List.length_drop]; omega)]
  simp only [List.getD_eq_getElem?_getD, List.getElem?_take, hk, if_true, List.getElem?_drop, Nat.add_comm 16 k]

/-! ### The least one, as a text -/
def PL : List Int := [65517, 65535, 65535, 65535, 65535, 65535, 65535, 65535, 65535, 65535, 65535, 65535, 65535, 65535, 65535, 32767]
theorem val_PL : val PL = P := by decide
theorem PL_get : ∀ k, k < 16 → PL.getD k 0 = if k = 0 then 65517 else if k = 15 then 32767 else 65535 := by decide
/-- Less P, piece by piece. -/
def lessL (D : List Int) : List Int := plusL D PL (-1)
theorem lessL_get (D : List Int) (k : Nat) (hD : D.length = 16) (hk : k < 16) : (lessL D).getD k 0 = D.getD k 0 - PL.getD k 0 := by
  unfold lessL
  rw [plusL_get _ _ _ _ (by omega) (show k < 16 from hk)]
  omega
theorem lessL_length (D : List Int) (hD : D.length = 16) : (lessL D).length = 16 := by
  unfold lessL; rw [plusL_length _ _ _ (by rw [hD]; rfl), hD]
theorem lessL_val (D : List Int) (hD : D.length = 16) : val (lessL D) = val D - P := by
  unfold lessL; rw [val_plus _ _ _ (by rw [hD]; rfl), val_PL]; omega
theorem carry_step2 (S D : List Int) (k : Nat) (hk : k < S.length) (hD : D.length = S.length) : (carry (S.take k) 0 ++ D.drop k).set k ((S.getD k 0 + cout (S.take k) 0) % 65536) = carry (S.take (k + 1)) 0 ++ D.drop (k + 1) ∧ cout (S.take (k + 1)) 0 = (S.getD k 0 + cout (S.take k) 0) / 65536 := by
  have h1 : (carry (S.take k) 0).length = k := by rw [carry_length, List.length_take, Nat.min_eq_left (by omega)]
  have h2 : S.getD k 0 = S[k] := by rw [List.getD_eq_getElem?_getD, List.getElem?_eq_getElem hk]; rfl
  rw [List.take_succ_eq_append_getElem hk, carry_snoc, cout_snoc, h2]
  refine ⟨?_, rfl⟩
  rw [List.set_append_right _ _ (by omega), h1, Nat.sub_self, List.drop_eq_getElem_cons (show k < D.length by omega), List.set_cons_zero, List.append_assoc]
  rfl
/-- Less P, unless that is below 0. -/
def less (v : Int) : Int := if P ≤ v then v - P else v
theorem val_dg16 (v : Int) (h0 : 0 ≤ v) (h1 : v < 115792089237316195423570985008687907853269984665640564039457584007913129639936) : val (dg 16 v) = v := by
  rw [val_dg, pow16]; omega
theorem less_carry (v : Int) (h0 : 0 ≤ v) (h1 : v < 115792089237316195423570985008687907853269984665640564039457584007913129639936) : (P ≤ v → cout (lessL (dg 16 v)) 0 = 0 ∧ carry (lessL (dg 16 v)) 0 = dg 16 (v - P)) ∧ (¬ P ≤ v → cout (lessL (dg 16 v)) 0 = -1) := by
  have hl := lessL_length (dg 16 v) (dg_length _ _)
  have hc := cout16 _ hl
  have hv := lessL_val (dg 16 v) (dg_length _ _)
  rw [val_dg16 v h0 h1] at hv
  rw [hv] at hc
  have hP : P = 57896044618658097711785492504343953926634992332820282019728792003956564819949 := rfl
  refine ⟨fun h => ⟨?_, ?_⟩, fun h => ?_⟩
  · rw [hc.1]; omega
  · rw [carry_dg, hl, hv, Int.add_zero]
  · rw [hc.1]; omega
theorem less_bd (v : Int) (h0 : 0 ≤ v) (h1 : v < 115792089237316195423570985008687907853269984665640564039457584007913129639936) : 0 ≤ less v ∧ less v < 115792089237316195423570985008687907853269984665640564039457584007913129639936 := by
  unfold less P; split <;> omega
theorem less3 (v : Int) (h0 : 0 ≤ v) (h1 : v < 115792089237316195423570985008687907853269984665640564039457584007913129639936) : less (less (less v)) = v % P := by
  have hP : P = 57896044618658097711785492504343953926634992332820282019728792003956564819949 := rfl
  unfold less
  rw [hP]
  split <;> (try split) <;> (try split) <;> omega
/-- n bytes of a number, the lowest first. -/
def leB : Nat → Int → List UInt8
  | 0, _ => []
  | n + 1, v => UInt8.ofNat (v % 256).toNat :: leB n (v / 256)
def bytesL (l : List Int) : List UInt8 := l.flatMap fun d => [UInt8.ofNat (d % 256).toNat, UInt8.ofNat (d / 256).toNat]
theorem bytesL_append (a b : List Int) : bytesL (a ++ b) = bytesL a ++ bytesL b := by simp [bytesL]
theorem bytesL_length (a : List Int) : (bytesL a).length = 2 * a.length := by
  induction a with
  | nil => rfl
  | cons d a ih =>
    have : bytesL (d :: a) = [UInt8.ofNat (d % 256).toNat, UInt8.ofNat (d / 256).toNat] ++ bytesL a := by simp [bytesL]
    rw [this, List.length_append, ih]
    simp; omega
theorem bytes_dg (n : Nat) (v : Int) : bytesL (dg n v) = leB (2 * n) v := by
  induction n generalizing v with
  | zero => rfl
  | succ n ih =>
    have e : bytesL (dg (n + 1) v) = [UInt8.ofNat (v % 65536 % 256).toNat, UInt8.ofNat (v % 65536 / 256).toNat] ++ bytesL (dg n (v / 65536)) := by simp [bytesL, dg]
    rw [e, ih, show 2 * (n + 1) = 2 * n + 1 + 1 from by omega]
    simp only [leB, List.cons_append, List.nil_append]
    rw [show v % 65536 % 256 = v % 256 from by omega, show v % 65536 / 256 = v / 256 % 256 from by omega, show v / 256 / 256 = v / 65536 from by omega]
theorem nB_leB (n : Nat) (v : Int) : nB (leB n v) = v % 256 ^ n := by
  induction n generalizing v with
  | zero => simp [leB, nB, Int.emod_one]
  | succ n ih =>
    simp only [leB, nB]
    rw [ih, UInt8.toNat_ofNat_of_lt' (by have : UInt8.size = 256 := rfl; omega), Int.toNat_of_nonneg (by omega), Int.pow_succ, Int.mul_comm (256 ^ n) 256]
    have h := Int.emod_emod_of_dvd v (Int.dvd_mul_right 256 (256 ^ n))
    have h2 : v % (256 * 256 ^ n) / 256 = v / 256 % 256 ^ n := by
      rw [Int.emod_def v (256 * 256 ^ n), Int.emod_def (v / 256) (256 ^ n), Int.mul_assoc, Int.ediv_ediv_of_nonneg (by decide)]
      generalize 256 ^ n * (v / (256 * 256 ^ n)) = X
      omega
    generalize v % (256 * 256 ^ n) = W at *
    omega
theorem leB_length (n : Nat) (v : Int) : (leB n v).length = n := by
  induction n generalizing v with
  | zero => rfl
  | succ n ih => simp [leB, ih]
/-- The text of a number. -/
def text (v : Int) : ByteArray := ⟨(leB 32 (v % P)).toArray⟩
theorem text_size (v : Int) : (text v).size = 32 := by
  show (leB 32 (v % P)).toArray.size = 32
  rw [List.size_toArray, leB_length]
theorem N_text (v : Int) : N (text v) = v % P := by
  show nB (leB 32 (v % P)) = _
  rw [nB_leB]
  have hP : P = 57896044618658097711785492504343953926634992332820282019728792003956564819949 := rfl
  have h0 : 0 ≤ v % P := Int.emod_nonneg _ (by rw [hP]; decide)
  have h1 : v % P < P := Int.emod_lt_of_pos _ (by rw [hP]; decide)
  rw [show (256 : Int) ^ 32 = 115792089237316195423570985008687907853269984665640564039457584007913129639936 from by decide]
  omega
theorem text_congr (u v : Int) (h : u % P = v % P) : text u = text v := by unfold text; rw [h]

/-! ### Powers -/
/-- The number that bits say, the highest first. -/
def ex (l : List UInt8) : Nat := l.foldl (fun n c => 2 * n + (if c = 49 then 1 else 0)) 0
theorem ex_snoc (l : List UInt8) (c : UInt8) : ex (l ++ [c]) = 2 * ex l + (if c = 49 then 1 else 0) := by simp [ex]
theorem emod_mul (a b c d m : Int) (h1 : a % m = b % m) (h2 : c % m = d % m) : (a * c) % m = (b * d) % m := by
  rw [Int.mul_emod, h1, h2, ← Int.mul_emod]
theorem pow_double (x : Int) (e : Nat) : x ^ (2 * e) = x ^ e * x ^ e := by rw [show 2 * e = e + e from by omega, Int.pow_add]
/-- The power that makes inverses. -/
def einv : Nat := (P - 2).toNat
theorem einv_val : (einv : Int) = P - 2 := by unfold einv P; omega
end Go.Proofs.YtdpokjhoedhadaaDoor.num
