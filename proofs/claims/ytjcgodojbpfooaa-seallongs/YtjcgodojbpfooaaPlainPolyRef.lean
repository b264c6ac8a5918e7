/-
  PLAIN MATHEMATICS OF tags, in ten pieces of 13 bits: carries, products folded as they come. No program is named here.
-/
import Derived.Test.YtjcgodojbpfooaaPlainTag
namespace Go.Proofs.Ytjcgodojbpfooaa.pol
open Go.Proofs.Ytjcgodojbpfooaa.ghs (tb tb_lt tb_out tb_tx dr dr_size tb_dr mkl mkl_length mkl_get mkl_succ)

theorem pow10 : 8192 ^ 10 = 67108864 ^ 5 := by decide
/-- One round of carries: what is left over comes back five times. -/
def turn (l : List Nat) : List Nat := (carry 8192 l 0).set 0 ((carry 8192 l 0).getD 0 0 + 5 * cout 8192 l 0)
theorem turn_length (l : List Nat) : (turn l).length = l.length := by unfold turn; rw [List.length_set, carry_length (by decide)]
theorem turn_val (l : List Nat) (h : l.length = 10) : val 8192 (turn l) = st (val 8192 l) := by
  unfold turn
  rw [val_add_at _ _ _ _ (by rw [carry_length (by decide), h]; decide), carry_dg (by decide), cout_eq (by decide), val_dg, h, pow10, Nat.add_zero, Nat.pow_zero, Nat.mul_one]
  rfl
theorem over10 (l : List Nat) (hs : ∀ a ∈ l, a ≤ 562949953421312) (k : Nat) : cout 8192 (l.take k) 0 ≤ 137438953472 :=
  cout_le (by decide) _ _ _ (fun a ha => by have := hs a (List.mem_of_mem_take ha); omega) (by omega)
theorem over10_all (l : List Nat) (hs : ∀ a ∈ l, a ≤ 562949953421312) : cout 8192 l 0 ≤ 137438953472 := by
  have := over10 l hs l.length
  rwa [List.take_length] at this
theorem carry_le (l : List Nat) (c : Nat) : ∀ a ∈ carry 8192 l c, a ≤ 8191 := by
  rw [carry_dg (by decide)]
  intro a ha
  have := dg_lt (B := 8192) (by decide) _ _ a ha
  omega
theorem turn_le (l : List Nat) (hs : ∀ a ∈ l, a ≤ 562949953421312) : ∀ a ∈ turn l, a ≤ 562949953421312 := by
  have h1 := over10_all l hs
  have h2 := getD_le (carry_le l 0) 0
  refine set_le (fun a ha => ?_) 0 _ (by omega)
  have := carry_le l 0 a ha
  omega
theorem val_over10 (l : List Nat) (hl : l.length = 10) (hs : ∀ a ∈ l, a ≤ 562949953421312) : val 8192 l / 67108864 ^ 5 ≤ 137438953472 := by
  have := over10_all l hs
  rw [cout_eq (by decide), hl, Nat.add_zero, pow10] at this
  exact this
theorem turn_done (l : List Nat) (hl : l.length = 10) (u : Nat) (hu : val 8192 l = u) (h : u < 67108864 ^ 5) : turn l = dg 8192 10 u := by
  have hc : cout 8192 l 0 = 0 := by
    rw [cout_eq (by decide), hl, Nat.add_zero, pow10, hu, Nat.div_eq_of_lt h]
  unfold turn
  rw [hc, carry_dg (by decide), hl, hu]
  rfl
def turns : Nat → List Nat → List Nat
  | 0, l => l
  | r + 1, l => turn (turns r l)
theorem turns_length (r : Nat) (l : List Nat) : (turns r l).length = l.length := by
  induction r with
  | zero => rfl
  | succ r ih => rw [turns, turn_length, ih]
theorem turns_le (r : Nat) (l : List Nat) (hs : ∀ a ∈ l, a ≤ 562949953421312) : ∀ a ∈ turns r l, a ≤ 562949953421312 := by
  induction r with
  | zero => exact hs
  | succ r ih => exact turn_le _ ih
/-- What carried answers. -/
theorem turns_3 (l : List Nat) (hl : l.length = 10) (hs : ∀ a ∈ l, a ≤ 562949953421312) : turns 3 l = dg 8192 10 (fin (val 8192 l)) := by
  have h1 := turn_val l hl
  have h2 := turn_val (turn l) (by rw [turn_length, hl])
  refine turn_done (turn (turn l)) (by rw [turn_length, turn_length, hl]) _ ?_ (fin_mod _ (val_over10 l hl hs)).2
  rw [h2, h1]
  rfl

/-! ### Products of ten pieces, folded as they come -/
def one1 (l m W : List Nat) (i k : Nat) : List Nat :=
  if i + k < 10 then W.set (i + k) (W.getD (i + k) 0 + l.getD i 0 * m.getD k 0) else W.set (i + k - 10) (W.getD (i + k - 10) 0 + 5 * l.getD i 0 * m.getD k 0)
def rowR (l m W : List Nat) (i : Nat) : Nat → List Nat
  | 0 => W
  | k + 1 => one1 l m (rowR l m W i k) i k
def allR (l m : List Nat) : Nat → List Nat
  | 0 => [0, 0, 0, 0, 0, 0, 0, 0, 0, 0]
  | i + 1 => rowR l m (allR l m i) i 10
structure ConvR (l m W : List Nat) (i k : Nat) : Prop where
  length : W.length = 10
  value : val 8192 W % P = (val 8192 (l.take i) * val 8192 m + l.getD i 0 * 8192 ^ i * val 8192 (m.take k)) % P
  bound : ∀ a ∈ W, a ≤ (10 * i + k) * 335462405
theorem convR_start (l m : List Nat) : ConvR l m [0, 0, 0, 0, 0, 0, 0, 0, 0, 0] 0 0 := by
  refine ⟨rfl, ?_, ?_⟩
  · have := val_zeros 8192 10
    rw [show [0, 0, 0, 0, 0, 0, 0, 0, 0, 0] = List.replicate 10 0 from rfl, this]
    simp [val]
  · intro a ha
    simp only [List.mem_cons, List.not_mem_nil, or_false, or_self] at ha
    omega
theorem fold_one (p q i k : Nat) (h : ¬ i + k < 10) : 5 * p * q * 8192 ^ (i + k - 10) % P = p * q * 8192 ^ (i + k) % P := by
  have e : 8192 ^ (i + k) = 8192 ^ (i + k - 10) * (5 + P) := by
    rw [show (5 + P) = 8192 ^ 10 from by decide, ← Nat.pow_add, show i + k - 10 + 10 = i + k from by omega]
  rw [e, Nat.mul_add, Nat.mul_add, ← Nat.mul_assoc (p * q) _ P, Nat.add_mul_mod_self_right]
  congr 1
  rw [Nat.mul_comm _ 5, ← Nat.mul_assoc, Nat.mul_comm (p * q) 5, Nat.mul_assoc 5 p q]
theorem convR_step {l m W : List Nat} {i k : Nat} (h : ConvR l m W i k) (hi : i < 10) (hk : k < 10) (hm : m.length = 10) (bl : ∀ a ∈ l, a ≤ 8191) (bm : ∀ a ∈ m, a ≤ 8191) :
    ConvR l m (one1 l m W i k) i (k + 1) := by
  have hW := h.length
  have b3 : l.getD i 0 * m.getD k 0 ≤ 67092481 := prod_le (getD_le bl i) (getD_le bm k)
  have e : l.getD i 0 * m.getD k 0 * 8192 ^ (i + k) = l.getD i 0 * 8192 ^ i * (m.getD k 0 * 8192 ^ k) := by
    rw [Nat.pow_add, Nat.mul_assoc, Nat.mul_assoc, Nat.mul_left_comm (m.getD k 0)]
  have b5 : 5 * l.getD i 0 * m.getD k 0 ≤ 335462405 := by rw [Nat.mul_assoc]; omega
  obtain ⟨X, hX⟩ : ∃ X, X = (10 * i + k) * 335462405 := ⟨_, rfl⟩
  have hb : ∀ a ∈ W, a ≤ X := by rw [hX]; exact h.bound
  have hbn : (10 * i + (k + 1)) * 335462405 = X + 335462405 := by
    rw [hX, show 10 * i + (k + 1) = 10 * i + k + 1 from rfl, Nat.add_mul, Nat.one_mul]
  have hv := h.value
  unfold one1
  by_cases c : i + k < 10
  · rw [if_pos c]
    refine ⟨by rw [List.length_set]; exact hW, ?_, ?_⟩
    · rw [val_add_at _ W _ _ (by omega), val_take_succ _ m k (by omega), Nat.mul_add, ← e, ← Nat.add_assoc, Nat.add_mod, hv, ← Nat.add_mod]
    · intro a ha
      refine Nat.le_trans ?_ (Nat.le_of_eq hbn.symm)
      clear hbn hv e hX
      rcases List.mem_or_eq_of_mem_set ha with h1 | h1
      · have := hb a h1
        omega
      · have := hb _ (mem_getD W (i + k) (by omega))
        omega
  · rw [if_neg c]
    refine ⟨by rw [List.length_set]; exact hW, ?_, ?_⟩
    · rw [val_add_at _ W _ _ (by omega), val_take_succ _ m k (by omega), Nat.mul_add, ← e, ← Nat.add_assoc, Nat.add_mod, hv, fold_one _ _ _ _ c, ← Nat.add_mod]
    · intro a ha
      refine Nat.le_trans ?_ (Nat.le_of_eq hbn.symm)
      clear hbn hv e hX
      rcases List.mem_or_eq_of_mem_set ha with h1 | h1
      · have := hb a h1
        omega
      · have := hb _ (mem_getD W (i + k - 10) (by omega))
        omega
theorem convR_row {l m W : List Nat} {i : Nat} (h : ConvR l m W i 10) (hi : i < 10) (hl : l.length = 10) (hm : m.length = 10) : ConvR l m W (i + 1) 0 := by
  refine ⟨h.length, ?_, ?_⟩
  · rw [h.value, val_take_succ _ l i (by omega), List.take_of_length_le (show m.length ≤ 10 by omega), Nat.add_mul]
    simp [val]
  · intro a ha
    have := h.bound a ha
    omega
theorem convR_rows {l m W : List Nat} {i : Nat} (h : ConvR l m W i 0) (hi : i < 10) (hm : m.length = 10) (bl : ∀ a ∈ l, a ≤ 8191) (bm : ∀ a ∈ m, a ≤ 8191) : ∀ k, k ≤ 10 → ConvR l m (rowR l m W i k) i k
  | 0, _ => h
  | k + 1, hk => convR_step (convR_rows h hi hm bl bm k (by omega)) hi (by omega) hm bl bm
theorem convR_all {l m : List Nat} (hl : l.length = 10) (hm : m.length = 10) (bl : ∀ a ∈ l, a ≤ 8191) (bm : ∀ a ∈ m, a ≤ 8191) : ∀ i, i ≤ 10 → ConvR l m (allR l m i) i 0
  | 0, _ => convR_start l m
  | i + 1, hi => convR_row (convR_rows (convR_all hl hm bl bm i (by omega)) (by omega) hm bl bm 10 (by omega)) (by omega) hl hm
theorem convR_le {l m W : List Nat} {i k : Nat} (h : ConvR l m W i k) (hi : i ≤ 10) (hk : k ≤ 10) : ∀ a ∈ W, a ≤ 36900864550 := fun a ha => by
  have h1 := h.bound a ha
  have h2 : (10 * i + k) * 335462405 ≤ 110 * 335462405 := Nat.mul_le_mul_right _ (by omega)
  omega
/-- What times answers. -/
def mulR (l m : List Nat) : Nat := fin (val 8192 (allR l m 10))
theorem mulR_eq {l m : List Nat} (hl : l.length = 10) (hm : m.length = 10) (bl : ∀ a ∈ l, a ≤ 8191) (bm : ∀ a ∈ m, a ≤ 8191) : mulR l m % P = val 8192 l * val 8192 m % P ∧ mulR l m < 67108864 ^ 5 := by
  have h := convR_all hl hm bl bm 10 (by omega)
  have h2 := fin_mod _ (val_over10 _ h.length (fun a ha => by have := convR_le h (by omega) (by omega) a ha; omega))
  have hv := h.value
  rw [List.take_of_length_le (show l.length ≤ 10 by omega)] at hv
  simp only [List.take_zero, val, Nat.mul_zero, Nat.add_zero] at hv
  exact ⟨h2.1.trans hv, h2.2⟩
theorem dg10_le (u : Nat) : ∀ a ∈ dg 8192 10 u, a ≤ 8191 := fun a ha => by have := dg_lt (B := 8192) (by decide) 10 u a ha; omega
/-- What a round makes. -/
def nxtR (u x r : Nat) : Nat := mulR (dg 8192 10 (fin (u + x))) (dg 8192 10 r)
theorem nxtR_eq {u x r : Nat} (hu : u < 67108864 ^ 5) (hx : x < 67108864 ^ 5) (hr : r < 67108864 ^ 5) : nxtR u x r % P = (u + x) * r % P ∧ nxtR u x r < 67108864 ^ 5 := by
  have hs : (u + x) / 67108864 ^ 5 ≤ 137438953472 := by
    rw [pow5] at *
    omega
  have hf := fin_mod (u + x) hs
  have h := mulR_eq (l := dg 8192 10 (fin (u + x))) (m := dg 8192 10 r) (dg_length _ _ _) (dg_length _ _ _) (dg10_le _) (dg10_le _)
  rw [val_dg, val_dg, pow10, Nat.mod_eq_of_lt hf.2, Nat.mod_eq_of_lt hr] at h
  refine ⟨h.1.trans ?_, h.2⟩
  rw [Nat.mul_mod, hf.1, ← Nat.mul_mod]
end Go.Proofs.Ytjcgodojbpfooaa.pol
