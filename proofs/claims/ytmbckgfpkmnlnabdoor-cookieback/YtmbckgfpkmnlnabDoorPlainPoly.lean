/-
  PLAIN MATHEMATICS OF tags: products of numbers of five pieces of 26 bits, folded at 2^130; what is left modulo 2^130 - 5. No program is named here.
-/
import Derived.Test.YtmbckgfpkmnlnabDoorPlainLong
namespace Go.Proofs.YtmbckgfpkmnlnabDoor.pol
open Go.Proofs.YtmbckgfpkmnlnabDoor.ghs (tb tb_lt tb_out tb_tx dr dr_size tb_dr mkl mkl_length mkl_get mkl_succ)

/-- 2^130 - 5. -/
def P : Nat := 1361129467683753853853498429727072845819
theorem pow5 : 67108864 ^ 5 = 1361129467683753853853498429727072845824 := by decide
theorem P_pos : 0 < P := by decide

/-! ### Products of five pieces -/
theorem prod_le {x y X Y : Nat} (hx : x ≤ X) (hy : y ≤ Y) : x * y ≤ X * Y := Nat.mul_le_mul hx hy
/-- How far the products have come: i rows, and k of the next. -/
structure Conv (l m W : List Nat) (i k : Nat) : Prop where
  length : W.length = 10
  value : val 67108864 W = val 67108864 (l.take i) * val 67108864 m + l.getD i 0 * 67108864 ^ i * val 67108864 (m.take k)
  bound : ∀ a ∈ W, a ≤ (5 * i + k) * 9007199254740992
theorem conv_start (l m : List Nat) : Conv l m [0, 0, 0, 0, 0, 0, 0, 0, 0, 0] 0 0 := by
  refine ⟨rfl, ?_, ?_⟩
  · have := val_zeros 67108864 10
    rw [show [0, 0, 0, 0, 0, 0, 0, 0, 0, 0] = List.replicate 10 0 from rfl, this]
    simp [val]
  · intro a ha
    simp only [List.mem_cons, List.not_mem_nil, or_false, or_self] at ha
    omega
theorem conv_step {l m W : List Nat} {i k : Nat} (h : Conv l m W i k) (hi : i < 5) (hk : k < 5) (hm : m.length = 5) (bl : ∀ a ∈ l, a ≤ 134217728) (bm : ∀ a ∈ m, a ≤ 67108864) :
    Conv l m (W.set (i + k) (W.getD (i + k) 0 + l.getD i 0 * m.getD k 0)) i (k + 1) := by
  have hW := h.length
  have b3 : l.getD i 0 * m.getD k 0 ≤ 9007199254740992 := prod_le (getD_le bl i) (getD_le bm k)
  refine ⟨by rw [List.length_set]; exact hW, ?_, ?_⟩
  · rw [val_add_at _ W _ _ (by omega), h.value, val_take_succ _ m k (by omega), Nat.mul_add]
    have e : l.getD i 0 * m.getD k 0 * 67108864 ^ (i + k) = l.getD i 0 * 67108864 ^ i * (m.getD k 0 * 67108864 ^ k) := by
      rw [Nat.pow_add, Nat.mul_assoc, Nat.mul_assoc, Nat.mul_left_comm (m.getD k 0)]
    rw [e, Nat.add_assoc]
  · intro a ha
    rw [show 5 * i + (k + 1) = 5 * i + k + 1 from rfl, Nat.add_mul, Nat.one_mul]
    have hb := h.bound
    generalize (5 * i + k) * 9007199254740992 = X at *
    rcases List.mem_or_eq_of_mem_set ha with h1 | h1
    · have := hb a h1
      omega
    · have := hb _ (mem_getD W (i + k) (by omega))
      omega
theorem conv_row {l m W : List Nat} {i : Nat} (h : Conv l m W i 5) (hi : i < 5) (hl : l.length = 5) (hm : m.length = 5) : Conv l m W (i + 1) 0 := by
  refine ⟨h.length, ?_, ?_⟩
  · rw [h.value, val_take_succ _ l i (by omega), List.take_of_length_le (show m.length ≤ 5 by omega), Nat.add_mul]
    simp [val]
  · intro a ha
    have := h.bound a ha
    omega
theorem conv_end {l m W : List Nat} (h : Conv l m W 5 0) (hl : l.length = 5) : val 67108864 W = val 67108864 l * val 67108864 m := by
  have hv := h.value
  rw [List.take_of_length_le (show l.length ≤ 5 by omega)] at hv
  simpa [val] using hv
theorem conv_bound {l m W : List Nat} (h : Conv l m W 5 0) : ∀ a ∈ W, a ≤ 225179981368524800 := fun a ha => by have := h.bound a ha; omega

/-! ### The upper half comes back five times -/
def foldL (W : List Nat) : List Nat := plusL (W.take 5) ((W.drop 5).map (5 * ·))
theorem val_map (B c : Nat) (l : List Nat) : val B (l.map (c * ·)) = c * val B l := by
  induction l with
  | nil => rfl
  | cons a l ih => simp only [List.map_cons, val, ih, Nat.mul_add, Nat.mul_left_comm c B]
theorem foldL_length (W : List Nat) (hW : W.length = 10) : (foldL W).length = 5 := by
  unfold foldL
  rw [plusL_length _ _ (by rw [List.length_take, List.length_map, List.length_drop]; omega), List.length_take]; omega
theorem foldL_get (W : List Nat) (k : Nat) (hW : W.length = 10) (hk : k < 5) : (foldL W).getD k 0 = W.getD k 0 + 5 * W.getD (5 + k) 0 := by
  unfold foldL
  rw [plusL_get _ _ _ (by rw [List.length_take]; omega) (by rw [List.length_map, List.length_drop]; omega)]
  simp only [List.getD_eq_getElem?_getD, List.getElem?_take, hk, if_true, List.getElem?_map, List.getElem?_drop]
  rw [List.getElem?_eq_getElem (by omega : 5 + k < W.length)]
  rfl
theorem foldL_le (W : List Nat) (hW : W.length = 10) (h : ∀ a ∈ W, a ≤ 225179981368524800) : ∀ a ∈ foldL W, a ≤ 4611686018427387904 := by
  intro a ha
  obtain ⟨k, hk, rfl⟩ := List.getElem_of_mem ha
  rw [foldL_length W hW] at hk
  have e := foldL_get W k hW hk
  rw [List.getD_eq_getElem?_getD, List.getElem?_eq_getElem (by rw [foldL_length W hW]; exact hk), Option.getD_some] at e
  have h1 := getD_le h k
  have h2 := getD_le h (5 + k)
  omega
theorem foldL_mod (W : List Nat) (hW : W.length = 10) : val 67108864 (foldL W) % P = val 67108864 W % P := by
  have h1 : (W.take 5).length = 5 := by rw [List.length_take]; omega
  have h2 : (W.drop 5).length = 5 := by rw [List.length_drop]; omega
  have hs := val_append 67108864 (W.take 5) (W.drop 5)
  rw [List.take_append_drop, h1, pow5] at hs
  unfold foldL
  rw [val_plus _ _ _ (by rw [List.length_map, h1, h2]), val_map, hs]
  have e : val 67108864 (W.take 5) + 1361129467683753853853498429727072845824 * val 67108864 (W.drop 5) = val 67108864 (W.take 5) + 5 * val 67108864 (W.drop 5) + P * val 67108864 (W.drop 5) := by unfold P; omega
  rw [e, Nat.add_mul_mod_self_left]
theorem over_le (l : List Nat) (hl : l.length = 5) (h : ∀ a ∈ l, a ≤ 4611686018427387904) : val 67108864 l / 67108864 ^ 5 ≤ 137438953472 := by
  have := cout_le (B := 67108864) (by decide) 137438953472 l 0 (fun a ha => by have := h a ha; omega) (by omega)
  rw [cout_eq (by decide), hl, Nat.add_zero] at this
  exact this
/-- What goes beyond 2^130 comes back five times, until nothing does. -/
theorem fold_step (u t : Nat) (h : u / 67108864 ^ 5 ≤ 137438953472) (ht : t = u % 67108864 ^ 5 + 5 * (u / 67108864 ^ 5)) :
    t % P = u % P ∧ (u / 67108864 ^ 5 ≠ 0 → t < u) ∧ t / 67108864 ^ 5 ≤ 137438953472 := by
  rw [pow5] at *
  have e : u = t + P * (u / 1361129467683753853853498429727072845824) := by unfold P; omega
  refine ⟨?_, fun h => by omega, by omega⟩
  exact (Nat.add_mul_mod_self_left t P _).symm.trans (congrArg (· % P) e.symm)
/-- What goes beyond 2^130 comes back five times. -/
def st (u : Nat) : Nat := u % 67108864 ^ 5 + 5 * (u / 67108864 ^ 5)
def fin (u : Nat) : Nat := st (st u)
theorem fin_st (u : Nat) (h : u / 67108864 ^ 5 ≤ 137438953472) : fin (st u) = fin u := by
  unfold fin st
  rw [pow5] at *
  omega
theorem fin_small (u : Nat) (h : u / 67108864 ^ 5 = 0) : fin u = u := by
  unfold fin st
  rw [pow5] at *
  omega
theorem fin_mod (u : Nat) (h : u / 67108864 ^ 5 ≤ 137438953472) : fin u % P = u % P ∧ fin u < 67108864 ^ 5 := by
  have h1 := fold_step u (st u) h rfl
  have h2 := fold_step (st u) (fin u) h1.2.2 rfl
  refine ⟨h2.1.trans h1.1, ?_⟩
  unfold fin st
  rw [pow5] at *
  omega
/-- The products, one by one. -/
def rowW (l m W : List Nat) (i : Nat) : Nat → List Nat
  | 0 => W
  | k + 1 => (rowW l m W i k).set (i + k) ((rowW l m W i k).getD (i + k) 0 + l.getD i 0 * m.getD k 0)
def allW (l m : List Nat) : Nat → List Nat
  | 0 => [0, 0, 0, 0, 0, 0, 0, 0, 0, 0]
  | i + 1 => rowW l m (allW l m i) i 5
theorem conv_rows {l m W : List Nat} {i : Nat} (h : Conv l m W i 0) (hi : i < 5) (hm : m.length = 5) (bl : ∀ a ∈ l, a ≤ 134217728) (bm : ∀ a ∈ m, a ≤ 67108864) : ∀ k, k ≤ 5 → Conv l m (rowW l m W i k) i k
  | 0, _ => h
  | k + 1, hk => conv_step (conv_rows h hi hm bl bm k (by omega)) hi (by omega) hm bl bm
theorem conv_all {l m : List Nat} (hl : l.length = 5) (hm : m.length = 5) (bl : ∀ a ∈ l, a ≤ 134217728) (bm : ∀ a ∈ m, a ≤ 67108864) : ∀ i, i ≤ 5 → Conv l m (allW l m i) i 0
  | 0, _ => conv_start l m
  | i + 1, hi => conv_row (conv_rows (conv_all hl hm bl bm i (by omega)) (by omega) hm bl bm 5 (by omega)) (by omega) hl hm
/-- What times answers. -/
def mulv (l m : List Nat) : Nat := fin (val 67108864 (foldL (allW l m 5)))
theorem mulv_eq {l m : List Nat} (hl : l.length = 5) (hm : m.length = 5) (bl : ∀ a ∈ l, a ≤ 134217728) (bm : ∀ a ∈ m, a ≤ 67108864) : mulv l m % P = val 67108864 l * val 67108864 m % P ∧ mulv l m < 67108864 ^ 5 := by
  have h := conv_all hl hm bl bm 5 (by omega)
  have h2 := fin_mod _ (over_le _ (foldL_length _ h.length) (foldL_le _ h.length (conv_bound h)))
  rw [foldL_mod _ h.length, conv_end h hl] at h2
  exact h2
theorem set0_val (u d : Nat) : val 67108864 ((dg 67108864 5 u).set 0 ((dg 67108864 5 u).getD 0 0 + d)) = u % 67108864 ^ 5 + d := by
  rw [val_add_at _ _ _ _ (by rw [dg_length]; decide), val_dg, Nat.pow_zero, Nat.mul_one]
/-- What lowered answers. -/
theorem low_eq (u : Nat) (h : u < 67108864 ^ 5) : ((u + 5) / 67108864 ^ 5 = 0 → u % P = u) ∧ ((u + 5) / 67108864 ^ 5 ≠ 0 → u % P = (u + 5) % 67108864 ^ 5) := by
  rw [pow5] at *
  unfold P
  exact ⟨fun h => by omega, fun h => by omega⟩
end Go.Proofs.YtmbckgfpkmnlnabDoor.pol
