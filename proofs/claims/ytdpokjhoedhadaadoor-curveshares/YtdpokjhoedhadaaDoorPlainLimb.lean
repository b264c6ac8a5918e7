/-
  PLAIN MATHEMATICS OF numbers in limbs of 32 bits: values, digits, carries, products; what is left modulo 2^255 - 19. No program is named here.
-/
import Derived.Test.YtdpokjhoedhadaaDoorPlainNum
namespace Go.Proofs.YtdpokjhoedhadaaDoor.limb
open Go.RowKit
open Go.Proofs.YtdpokjhoedhadaaDoor.num (P N nB nB_bd mem_getD)

/-- The value of limbs, the lowest first. -/
def val : List Int → Int
  | [] => 0
  | a :: l => a + 4294967296 * val l
/-- n limbs of a number. -/
def dg : Nat → Int → List Int
  | 0, _ => []
  | n + 1, v => v % 4294967296 :: dg n (v / 4294967296)
theorem dg_length (n : Nat) (v : Int) : (dg n v).length = n := by
  induction n generalizing v with
  | zero => rfl
  | succ n ih => simp [dg, ih]
/-- Limbs, each of 32 bits. -/
def ok (l : List Int) : Prop := ∀ a ∈ l, 0 ≤ a ∧ a < 4294967296
theorem dg_ok (n : Nat) (v : Int) : ok (dg n v) := by
  induction n generalizing v with
  | zero => intro a ha; simp [dg] at ha
  | succ n ih =>
    intro a ha
    simp only [dg, List.mem_cons] at ha
    rcases ha with rfl | ha
    · omega
    · exact ih _ a ha
theorem ok_get {l : List Int} (h : ok l) (k : Nat) : 0 ≤ l.getD k 0 ∧ l.getD k 0 < 4294967296 := by
  rcases Nat.lt_or_ge k l.length with hk | hk
  · exact h _ (mem_getD l k hk)
  · rw [List.getD_eq_getElem?_getD, List.getElem?_eq_none hk]; decide
theorem ok_set {l : List Int} (h : ok l) (k : Nat) (d : Int) (h0 : 0 ≤ d) (h1 : d < 4294967296) : ok (l.set k d) := fun a ha => by
  rcases List.mem_or_eq_of_mem_set ha with h2 | h2
  · exact h a h2
  · omega
theorem dg_val (l : List Int) (h : ok l) : dg l.length (val l) = l := by
  induction l with
  | nil => rfl
  | cons a l ih =>
    have ha := h a (by simp)
    simp only [List.length_cons, dg, val]
    rw [show (a + 4294967296 * val l) % 4294967296 = a from by omega, show (a + 4294967296 * val l) / 4294967296 = val l from by omega, ih (fun b hb => h b (by simp [hb]))]
theorem val_dg (n : Nat) (v : Int) : val (dg n v) = v % 4294967296 ^ n := by
  induction n generalizing v with
  | zero => simp [dg, val, Int.emod_one]
  | succ n ih =>
    simp only [dg, val]
    rw [ih, Int.pow_succ, Int.mul_comm (4294967296 ^ n) 4294967296]
    have h := Int.emod_emod_of_dvd v (Int.dvd_mul_right 4294967296 (4294967296 ^ n))
    have h2 : v % (4294967296 * 4294967296 ^ n) / 4294967296 = v / 4294967296 % 4294967296 ^ n := by
      rw [Int.emod_def v (4294967296 * 4294967296 ^ n), Int.emod_def (v / 4294967296) (4294967296 ^ n), Int.mul_assoc, Int.ediv_ediv_of_nonneg (by decide)]
      generalize 4294967296 ^ n * (v / (4294967296 * 4294967296 ^ n)) = X
      omega
    generalize v % (4294967296 * 4294967296 ^ n) = W at *
    omega
theorem val_bd (l : List Int) (h : ok l) : 0 ≤ val l ∧ val l < 4294967296 ^ l.length := by
  induction l with
  | nil => simp [val]
  | cons a l ih =>
    have ha := h a (by simp)
    have hl := ih (fun b hb => h b (by simp [hb]))
    simp only [val, List.length_cons, Int.pow_succ]
    generalize (4294967296 : Int) ^ l.length = X at *
    omega
theorem pow8 : (4294967296 : Int) ^ 8 = 115792089237316195423570985008687907853269984665640564039457584007913129639936 := by decide
theorem pow16 : (4294967296 : Int) ^ 16 = 115792089237316195423570985008687907853269984665640564039457584007913129639936 * 115792089237316195423570985008687907853269984665640564039457584007913129639936 := by decide
theorem val8 (l : List Int) (hl : l.length = 8) (h : ok l) : 0 ≤ val l ∧ val l < 115792089237316195423570985008687907853269984665640564039457584007913129639936 := by
  have := val_bd l h
  rwa [hl, pow8] at this
theorem val_dg8 (v : Int) (h0 : 0 ≤ v) (h1 : v < 115792089237316195423570985008687907853269984665640564039457584007913129639936) : val (dg 8 v) = v := by
  rw [val_dg, pow8]; omega
theorem dg8_mod (v : Int) : dg 8 v = dg 8 (v % 115792089237316195423570985008687907853269984665640564039457584007913129639936) := by
  have h := dg_val (dg 8 v) (dg_ok 8 v)
  rw [dg_length, val_dg, pow8] at h
  exact h.symm

/-! ### Carries -/
def carry : List Int → Int → List Int
  | [], _ => []
  | a :: l, c => (a + c) % 4294967296 :: carry l ((a + c) / 4294967296)
def cout : List Int → Int → Int
  | [], c => c
  | a :: l, c => cout l ((a + c) / 4294967296)
theorem carry_dg (l : List Int) (c : Int) : carry l c = dg l.length (val l + c) := by
  induction l generalizing c with
  | nil => rfl
  | cons a l ih =>
    simp only [carry, dg, val, List.length_cons]
    rw [ih, show (a + 4294967296 * val l + c) % 4294967296 = (a + c) % 4294967296 from by omega, show (a + 4294967296 * val l + c) / 4294967296 = val l + (a + c) / 4294967296 from by omega]
theorem carry_length (l : List Int) (c : Int) : (carry l c).length = l.length := by rw [carry_dg, dg_length]
theorem carry_snoc (l : List Int) (a c : Int) : carry (l ++ [a]) c = carry l c ++ [(a + cout l c) % 4294967296] := by
  induction l generalizing c with
  | nil => rfl
  | cons b l ih => simp [carry, cout, ih]
theorem cout_snoc (l : List Int) (a c : Int) : cout (l ++ [a]) c = (a + cout l c) / 4294967296 := by
  induction l generalizing c with
  | nil => rfl
  | cons b l ih => simp [cout, ih]
theorem cout_val (l : List Int) (c : Int) : val l + c = val (carry l c) + cout l c * 4294967296 ^ l.length := by
  induction l generalizing c with
  | nil => simp [val, carry, cout]
  | cons a l ih =>
    have h := ih ((a + c) / 4294967296)
    simp only [val, carry, cout, List.length_cons]
    have e : cout l ((a + c) / 4294967296) * 4294967296 ^ (l.length + 1) = 4294967296 * (cout l ((a + c) / 4294967296) * 4294967296 ^ l.length) := by
      rw [Int.pow_succ, Int.mul_comm (4294967296 ^ l.length) 4294967296, Int.mul_left_comm]
    rw [e]
    generalize cout l ((a + c) / 4294967296) * 4294967296 ^ l.length = X at *
    omega
/-- Sums that a carry can't bring out of range. -/
theorem cout_bd (l : List Int) (c lo hi : Int) (h : ∀ a ∈ l, lo * 4294967295 ≤ a ∧ a ≤ hi * 4294967295) (h0 : lo ≤ c) (h1 : c ≤ hi) : lo ≤ cout l c ∧ cout l c ≤ hi := by
  induction l generalizing c with
  | nil => exact ⟨h0, h1⟩
  | cons a l ih =>
    have ha := h a (by simp)
    exact ih _ (fun b hb => h b (by simp [hb])) (by omega) (by omega)
theorem cout8 (l : List Int) (c : Int) (h : l.length = 8) : cout l c = (val l + c) / 115792089237316195423570985008687907853269984665640564039457584007913129639936 ∧ carry l c = dg 8 (val l + c) := by
  have h1 := cout_val l c
  have h2 : val (carry l c) = (val l + c) % 115792089237316195423570985008687907853269984665640564039457584007913129639936 := by rw [carry_dg, h, val_dg, pow8]
  rw [h, pow8] at h1
  refine ⟨by omega, by rw [carry_dg, h]⟩
/-- One limb more: S are the sums, D what lay there. -/
theorem carry_step (S D : List Int) (c : Int) (k : Nat) (hk : k < S.length) (hD : D.length = S.length) : (carry (S.take k) c ++ D.drop k).set k ((S.getD k 0 + cout (S.take k) c) % 4294967296) = carry (S.take (k + 1)) c ++ D.drop (k + 1) ∧ cout (S.take (k + 1)) c = (S.getD k 0 + cout (S.take k) c) / 4294967296 := by
  have h1 : (carry (S.take k) c).length = k := by rw [carry_length, List.length_take, Nat.min_eq_left (by omega)]
  have h2 : S.getD k 0 = S[k] := by rw [List.getD_eq_getElem?_getD, List.getElem?_eq_getElem hk]; rfl
  rw [List.take_succ_eq_append_getElem hk, carry_snoc, cout_snoc, h2]
  refine ⟨?_, rfl⟩
  rw [List.set_append_right _ _ (by omega), h1, Nat.sub_self, List.drop_eq_getElem_cons (show k < D.length by omega), List.set_cons_zero, List.append_assoc]
  rfl
theorem part_get (S D : List Int) (c : Int) (k : Nat) (hk : k < S.length) (hD : D.length = S.length) : (carry (S.take k) c ++ D.drop k).getD k 0 = D.getD k 0 ∧ (carry (S.take k) c ++ D.drop k).length = S.length := by
  have h1 : (carry (S.take k) c).length = k := by rw [carry_length, List.length_take]; omega
  refine ⟨?_, ?_⟩
  · rw [List.getD_eq_getElem?_getD, List.getElem?_append_right (by omega), h1, Nat.sub_self, List.getElem?_drop, Nat.add_zero, List.getD_eq_getElem?_getD]
  · rw [List.length_append, h1, List.length_drop]; omega
theorem part_end (S D : List Int) (c : Int) (hD : D.length = S.length) : carry (S.take S.length) c ++ D.drop S.length = carry S c ∧ cout (S.take S.length) c = cout S c := by
  rw [List.take_of_length_le (Nat.le_refl _), List.drop_of_length_le (by omega), List.append_nil]
  exact ⟨rfl, rfl⟩

/-! ### Limb by limb: l + t * m -/
def plusL (l m : List Int) (t : Int) : List Int := List.zipWith (fun a b => a + t * b) l m
theorem val_plus (l m : List Int) (t : Int) (h : l.length = m.length) : val (plusL l m t) = val l + t * val m := by
  induction l generalizing m with
  | nil => cases m with
    | nil => simp [plusL, val]
    | cons b m => simp at h
  | cons a l ih => cases m with
    | nil => simp at h
    | cons b m =>
      have := ih m (by simpa using h)
      simp only [plusL, List.zipWith_cons_cons, val] at this ⊢
      rw [this, Int.mul_add, Int.mul_add, Int.mul_left_comm t]
      omega
theorem plusL_length (l m : List Int) (t : Int) (h : l.length = m.length) : (plusL l m t).length = l.length := by simp [plusL, h]
theorem plusL_get (l m : List Int) (t : Int) (k : Nat) (hl : k < l.length) (hm : k < m.length) : (plusL l m t).getD k 0 = l.getD k 0 + t * m.getD k 0 := by
  have h : k < (List.zipWith (fun a b => a + t * b) l m).length := by rw [List.length_zipWith]; omega
  simp only [plusL, List.getD_eq_getElem?_getD, List.getElem?_eq_getElem hl, List.getElem?_eq_getElem hm, List.getElem?_eq_getElem h, Option.getD_some, List.getElem_zipWith]
theorem plusL_bd (l m : List Int) (t lo hi : Int) (h : l.length = m.length) (hb : ∀ k, k < l.length → lo * 4294967295 ≤ l.getD k 0 + t * m.getD k 0 ∧ l.getD k 0 + t * m.getD k 0 ≤ hi * 4294967295) : ∀ a ∈ plusL l m t, lo * 4294967295 ≤ a ∧ a ≤ hi * 4294967295 := by
  intro a ha
  obtain ⟨k, hk, rfl⟩ := List.getElem_of_mem ha
  have hk' : k < l.length := by rw [plusL_length l m t h] at hk; exact hk
  have e := plusL_get l m t k hk' (by omega)
  rw [List.getD_eq_getElem?_getD, List.getElem?_eq_getElem hk, Option.getD_some] at e
  rw [e]
  exact hb k hk'

/-! ### Less P -/
/-- What lowered answers. -/
theorem low_eq (v : Int) (h0 : 0 ≤ v) (h1 : v < 115792089237316195423570985008687907853269984665640564039457584007913129639936) :
    let u := v % 57896044618658097711785492504343953926634992332820282019728792003956564819968 + 19 * (v / 57896044618658097711785492504343953926634992332820282019728792003956564819968)
    (u + 19 < 57896044618658097711785492504343953926634992332820282019728792003956564819968 → v % P = u) ∧ (¬ u + 19 < 57896044618658097711785492504343953926634992332820282019728792003956564819968 → v % P = u + 19 - 57896044618658097711785492504343953926634992332820282019728792003956564819968) := by
  have hP : P = 57896044618658097711785492504343953926634992332820282019728792003956564819949 := rfl
  rw [hP]
  refine ⟨fun h => ?_, fun h => ?_⟩ <;> omega
/-- The last limb's highest bit. -/
theorem top_eq (v : Int) (h0 : 0 ≤ v) (h1 : v < 115792089237316195423570985008687907853269984665640564039457584007913129639936) : (dg 8 v).getD 7 0 / 2147483648 = v / 57896044618658097711785492504343953926634992332820282019728792003956564819968 ∧ (dg 8 v).set 7 ((dg 8 v).getD 7 0 % 2147483648) = dg 8 (v % 57896044618658097711785492504343953926634992332820282019728792003956564819968) := by
  have hl := dg_length 8 v
  have e : val ((dg 8 v).set 7 ((dg 8 v).getD 7 0 % 2147483648)) = v % 57896044618658097711785492504343953926634992332820282019728792003956564819968 ∧ (dg 8 v).getD 7 0 / 2147483648 = v / 57896044618658097711785492504343953926634992332820282019728792003956564819968 := by
    simp only [dg, List.getD_cons_succ, List.getD_cons_zero, List.set_cons_succ, List.set_cons_zero, val]
    omega
  refine ⟨e.2, ?_⟩
  have hg := ok_get (dg_ok 8 v) 7
  have := dg_val ((dg 8 v).set 7 ((dg 8 v).getD 7 0 % 2147483648)) (ok_set (dg_ok 8 v) 7 _ (by omega) (by omega))
  rw [List.length_set, hl, e.1] at this
  exact this.symm

/-! ### Products -/
theorem val_append (l m : List Int) : val (l ++ m) = val l + 4294967296 ^ l.length * val m := by
  induction l with
  | nil => simp [val]
  | cons a l ih =>
    simp only [List.cons_append, val, ih, List.length_cons, Int.pow_succ]
    rw [Int.mul_add, Int.mul_comm (4294967296 ^ l.length) 4294967296, Int.mul_assoc]
    omega
theorem val_take_succ (m : List Int) (k : Nat) (h : k < m.length) : val (m.take (k + 1)) = val (m.take k) + m.getD k 0 * 4294967296 ^ k := by
  rw [List.take_succ_eq_append_getElem h, val_append, List.length_take, Nat.min_eq_left (by omega)]
  have e : m.getD k 0 = m[k] := by rw [List.getD_eq_getElem?_getD, List.getElem?_eq_getElem h]; rfl
  rw [e]
  simp only [val, Int.mul_zero, Int.add_zero]
  rw [Int.mul_comm]
theorem val_add_at (l : List Int) (j : Nat) (d : Int) (h : j < l.length) : val (l.set j (l.getD j 0 + d)) = val l + d * 4294967296 ^ j := by
  induction l generalizing j with
  | nil => simp at h
  | cons a l ih =>
    cases j with
    | zero => simp [val]; omega
    | succ j =>
      have := ih j (by simpa using h)
      simp only [List.set_cons_succ, val, List.getD_cons_succ, this, Int.pow_succ]
      rw [Int.mul_add, ← Int.mul_assoc d, Int.mul_comm (d * 4294967296 ^ j) 4294967296]
      omega
theorem val_set (l : List Int) (j : Nat) (d : Int) (h : j < l.length) : val (l.set j d) = val l + (d - l.getD j 0) * 4294967296 ^ j := by
  have := val_add_at l j (d - l.getD j 0) h
  rw [show l.getD j 0 + (d - l.getD j 0) = d from by omega] at this
  exact this
/-- How far the products have come: i rows, and k of the next, c carried. -/
structure Conv (l m W : List Int) (i k : Nat) (c : Int) : Prop where
  length : W.length = 16
  ok : ok W
  value : val W + c * 4294967296 ^ (i + k) = val (l.take i) * val m + l.getD i 0 * 4294967296 ^ i * val (m.take k)
  zero : ∀ j, i + 8 ≤ j → W.getD j 0 = 0
  carry : 0 ≤ c ∧ c < 4294967296
theorem conv_start (l m : List Int) : Conv l m (List.replicate 16 0) 0 0 0 := by
  refine ⟨rfl, ?_, ?_, ?_, by decide⟩
  · intro a ha
    rw [List.eq_of_mem_replicate ha]; decide
  · have : val (List.replicate 16 0) = 0 := by decide
    rw [this]; simp [val]
  · intro j _
    rw [List.getD_eq_getElem?_getD, List.getElem?_replicate]
    split <;> rfl
theorem prod_bd (x y : Int) (x0 : 0 ≤ x) (x1 : x < 4294967296) (y0 : 0 ≤ y) (y1 : y < 4294967296) : 0 ≤ x * y ∧ x * y ≤ 18446744065119617025 := by
  have h1 : x * y ≤ 4294967295 * y := Int.mul_le_mul_of_nonneg_right (by omega) y0
  have h2 : 0 ≤ x * y := Int.mul_nonneg x0 y0
  omega
theorem conv_step {l m W : List Int} {i k : Nat} {c : Int} (h : Conv l m W i k c) (hi : i < 8) (hk : k < 8) (hm : m.length = 8) (bl : ok l) (bm : ok m) :
    Conv l m (W.set (i + k) ((c + (l.getD i 0 * m.getD k 0 + W.getD (i + k) 0)) % 4294967296)) i (k + 1) ((c + (l.getD i 0 * m.getD k 0 + W.getD (i + k) 0)) / 4294967296) := by
  have hW := h.length
  have b1 := ok_get bl i
  have b2 := ok_get bm k
  have b3 := prod_bd _ _ b1.1 b1.2 b2.1 b2.2
  have b4 := ok_get h.ok (i + k)
  have b5 := h.carry
  have hv := h.value
  have e : l.getD i 0 * m.getD k 0 * 4294967296 ^ (i + k) = l.getD i 0 * 4294967296 ^ i * (m.getD k 0 * 4294967296 ^ k) := by
    rw [Int.pow_add, Int.mul_assoc, Int.mul_assoc, Int.mul_left_comm (m.getD k 0)]
  refine ⟨by rw [List.length_set]; exact hW, ok_set h.ok _ _ (by omega) (by omega), ?_, ?_, by omega⟩
  · rw [val_set W _ _ (by omega), val_take_succ m k (by omega), Int.mul_add, ← Int.add_assoc (val (l.take i) * val m), ← hv, ← e]
    generalize l.getD i 0 * m.getD k 0 = p at *
    generalize W.getD (i + k) 0 = x at *
    rw [← Nat.add_assoc, Int.pow_succ]
    generalize (4294967296 : Int) ^ (i + k) = X
    have e2 : (c + (p + x)) / 4294967296 * (X * 4294967296) = (4294967296 * ((c + (p + x)) / 4294967296)) * X := by
      rw [Int.mul_comm X, ← Int.mul_assoc, Int.mul_comm _ (4294967296 : Int)]
    rw [e2, Int.add_assoc, ← Int.add_mul, Int.add_assoc (val W), ← Int.add_mul]
    congr 2
    omega
  · intro j hj
    rw [List.getD_eq_getElem?_getD, List.getElem?_set_ne (by omega), ← List.getD_eq_getElem?_getD]
    exact h.zero j hj
theorem conv_row {l m W : List Int} {i : Nat} {c : Int} (h : Conv l m W i 8 c) (hi : i < 8) (hl : l.length = 8) (hm : m.length = 8) : Conv l m (W.set (i + 8) c) (i + 1) 0 0 := by
  have hW := h.length
  have hz := h.zero (i + 8) (by omega)
  have hv := h.value
  have hc := h.carry
  rw [List.take_of_length_le (show m.length ≤ 8 by omega)] at hv
  refine ⟨by rw [List.length_set]; exact hW, ok_set h.ok _ _ hc.1 hc.2, ?_, ?_, by decide⟩
  · rw [val_set W _ _ (by omega), hz, val_take_succ l i (by omega), Int.add_mul, Int.sub_zero, hv]
    simp [val]
  · intro j hj
    rw [List.getD_eq_getElem?_getD, List.getElem?_set_ne (by omega), ← List.getD_eq_getElem?_getD]
    exact h.zero j (by omega)
theorem conv_end {l m W : List Int} (h : Conv l m W 8 0 0) (hl : l.length = 8) : val W = val l * val m := by
  have hv := h.value
  rw [List.take_of_length_le (show l.length ≤ 8 by omega)] at hv
  simpa [val] using hv

/-! ### The upper half comes back 38 times -/
def foldL (W : List Int) : List Int := plusL (W.take 8) (W.drop 8) 38
theorem foldL_get (W : List Int) (k : Nat) (hW : W.length = 16) (hk : k < 8) : (foldL W).getD k 0 = W.getD k 0 + 38 * W.getD (8 + k) 0 := by
  unfold foldL
  rw [plusL_get _ _ _ _ (by rw [List.length_take]; omega) (by rw [List.length_drop]; omega)]
  simp only [List.getD_eq_getElem?_getD, List.getElem?_take, hk, if_true, List.getElem?_drop]
theorem foldL_length (W : List Int) (hW : W.length = 16) : (foldL W).length = 8 := by
  unfold foldL
  rw [plusL_length _ _ _ (by rw [List.length_take, List.length_drop]; omega), List.length_take]; omega
theorem foldL_ok (W : List Int) (hW : W.length = 16) (h : ok W) : ∀ a ∈ foldL W, 0 * 4294967295 ≤ a ∧ a ≤ 39 * 4294967295 := by
  refine plusL_bd _ _ 38 0 39 (by rw [List.length_take, List.length_drop]; omega) fun k hk => ?_
  have h1 := ok_get (fun a ha => h a (List.mem_of_mem_take ha) : ok (W.take 8)) k
  have h2 := ok_get (fun a ha => h a (List.mem_of_mem_drop ha) : ok (W.drop 8)) k
  omega
theorem foldL_val (W : List Int) (hW : W.length = 16) (h : ok W) : val (foldL W) % P = val W % P ∧ 0 ≤ val (foldL W) ∧ val (foldL W) < 39 * 115792089237316195423570985008687907853269984665640564039457584007913129639936 := by
  have h1 : (W.take 8).length = 8 := by rw [List.length_take]; omega
  have h2 : (W.drop 8).length = 8 := by rw [List.length_drop]; omega
  have b1 := val8 _ h1 (fun a ha => h a (List.mem_of_mem_take ha))
  have b2 := val8 _ h2 (fun a ha => h a (List.mem_of_mem_drop ha))
  have hs := val_append (W.take 8) (W.drop 8)
  rw [List.take_append_drop, h1, pow8] at hs
  unfold foldL
  rw [val_plus _ _ 38 (by omega)]
  refine ⟨?_, by omega, by omega⟩
  rw [hs]
  have e : val (W.take 8) + 38 * val (W.drop 8) = val (W.take 8) + 115792089237316195423570985008687907853269984665640564039457584007913129639936 * val (W.drop 8) - P * (2 * val (W.drop 8)) := by unfold P; omega
  rw [e, Int.sub_emod, Int.mul_emod_right, Int.sub_zero, Int.emod_emod_of_dvd _ (Int.dvd_refl _)]
/-- What goes beyond 2^256 comes back 38 times, until nothing does. -/
theorem fold_step (u : Int) (h0 : 0 ≤ u) (h1 : u < 39 * 115792089237316195423570985008687907853269984665640564039457584007913129639936) (t : Int) (ht : t = u % 115792089237316195423570985008687907853269984665640564039457584007913129639936 + 38 * (u / 115792089237316195423570985008687907853269984665640564039457584007913129639936)) :
    t % P = u % P ∧ 0 ≤ t ∧ (u / 115792089237316195423570985008687907853269984665640564039457584007913129639936 ≠ 0 → t < u) ∧ u / 115792089237316195423570985008687907853269984665640564039457584007913129639936 < 39 := by
  have e : t = u - P * (2 * (u / 115792089237316195423570985008687907853269984665640564039457584007913129639936)) := by unfold P; omega
  refine ⟨?_, by omega, fun h => by omega, by omega⟩
  rw [e, Int.sub_emod, Int.mul_emod_right, Int.sub_zero, Int.emod_emod_of_dvd _ (Int.dvd_refl _)]
end Go.Proofs.YtdpokjhoedhadaaDoor.limb
