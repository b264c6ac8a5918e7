/-
  PLAIN MATHEMATICS OF numbers in pieces, in whatever base: values, digits, carries, sums, products, bits. Texts as numbers, the lowest byte first. No program is named here.
-/
import Derived.Test.YtmbckgfpkmnlnabDoorPlainGhashText
import Derived.Test.YtmbckgfpkmnlnabDoorPlainGhashSum
namespace Go.Proofs.YtmbckgfpkmnlnabDoor.pol
open Go.Proofs.YtmbckgfpkmnlnabDoor.ghs (tb tb_lt tb_out tb_tx dr dr_size tb_dr)

/-- The value of pieces, the lowest first. -/
def val (B : Nat) : List Nat → Nat
  | [] => 0
  | a :: l => a + B * val B l
/-- n pieces of a number. -/
def dg (B : Nat) : Nat → Nat → List Nat
  | 0, _ => []
  | n + 1, v => v % B :: dg B n (v / B)
theorem dg_length (B n v : Nat) : (dg B n v).length = n := by
  induction n generalizing v with
  | zero => rfl
  | succ n ih => simp [dg, ih]
theorem dg_lt {B : Nat} (hB : 0 < B) (n v : Nat) : ∀ a ∈ dg B n v, a < B := by
  induction n generalizing v with
  | zero => intro a ha; cases ha
  | succ n ih =>
    intro a ha
    simp only [dg, List.mem_cons] at ha
    rcases ha with rfl | ha
    · exact Nat.mod_lt _ hB
    · exact ih _ a ha
theorem val_dg (B n v : Nat) : val B (dg B n v) = v % B ^ n := by
  induction n generalizing v with
  | zero => simp [dg, val, Nat.mod_one]
  | succ n ih =>
    simp only [dg, val]
    rw [ih, Nat.pow_succ, Nat.mul_comm (B ^ n) B, Nat.mod_mul]
theorem dg_val {B : Nat} (l : List Nat) (h : ∀ a ∈ l, a < B) : dg B l.length (val B l) = l := by
  induction l with
  | nil => rfl
  | cons a l ih =>
    have ha := h a (by simp)
    simp only [val, List.length_cons, dg]
    rw [Nat.add_mul_mod_self_left, Nat.mod_eq_of_lt ha, Nat.add_mul_div_left _ _ (by omega), Nat.div_eq_of_lt ha, Nat.zero_add, ih (fun b hb => h b (by simp [hb]))]
theorem dg_ext {B : Nat} (l m : List Nat) (hl : ∀ a ∈ l, a < B) (hm : ∀ a ∈ m, a < B) (h : l.length = m.length) (hv : val B l = val B m) : l = m := by
  rw [← dg_val l hl, ← dg_val m hm, h, hv]
theorem dg_get (B n v k : Nat) (h : k < n) : (dg B n v).getD k 0 = v / B ^ k % B := by
  induction n generalizing v k with
  | zero => omega
  | succ n ih =>
    cases k with
    | zero => simp [dg]
    | succ k =>
      have := ih (v / B) k (by omega)
      simp only [dg, List.getD_cons_succ, this]
      rw [Nat.div_div_eq_div_mul, Nat.pow_succ, Nat.mul_comm B]
theorem dg_mod {B : Nat} (hB : 0 < B) (n v m : Nat) (h : n ≤ m) : dg B n (v % B ^ m) = dg B n v := by
  refine dg_ext _ _ (dg_lt hB _ _) (dg_lt hB _ _) (by rw [dg_length, dg_length]) ?_
  rw [val_dg, val_dg, Nat.mod_mod_of_dvd _ (Nat.pow_dvd_pow B h)]
theorem dg_snoc (B n v : Nat) : dg B (n + 1) v = dg B n v ++ [v / B ^ n % B] := by
  induction n generalizing v with
  | zero => simp [dg]
  | succ n ih =>
    rw [dg, ih (v / B), dg, List.cons_append, Nat.div_div_eq_div_mul, Nat.pow_succ, Nat.mul_comm B]
theorem val_lt {B : Nat} (l : List Nat) (h : ∀ a ∈ l, a < B) : val B l < B ^ l.length := by
  rw [← dg_val l h, val_dg, dg_length]
  by_cases hB : 0 < B
  · exact Nat.mod_lt _ (Nat.pow_pos hB)
  · cases l with
    | nil => simp [Nat.mod_one]
    | cons a l => have := h a (by simp); omega

/-! ### Carries -/
def carry (B : Nat) : List Nat → Nat → List Nat
  | [], _ => []
  | a :: l, c => (a + c) % B :: carry B l ((a + c) / B)
def cout (B : Nat) : List Nat → Nat → Nat
  | [], c => c
  | a :: l, c => cout B l ((a + c) / B)
theorem carry_dg {B : Nat} (hB : 0 < B) (l : List Nat) (c : Nat) : carry B l c = dg B l.length (val B l + c) := by
  induction l generalizing c with
  | nil => rfl
  | cons a l ih =>
    simp only [carry, dg, val, List.length_cons]
    rw [ih, show a + B * val B l + c = a + c + B * val B l from by omega, Nat.add_mul_mod_self_left, Nat.add_mul_div_left _ _ hB, Nat.add_comm (val B l)]
theorem carry_length {B : Nat} (hB : 0 < B) (l : List Nat) (c : Nat) : (carry B l c).length = l.length := by rw [carry_dg hB, dg_length]
theorem cout_eq {B : Nat} (hB : 0 < B) (l : List Nat) (c : Nat) : cout B l c = (val B l + c) / B ^ l.length := by
  induction l generalizing c with
  | nil => simp [cout, val]
  | cons a l ih =>
    simp only [cout, val, List.length_cons]
    rw [ih, show a + B * val B l + c = a + c + B * val B l from by omega, Nat.pow_succ, Nat.mul_comm (B ^ l.length), ← Nat.div_div_eq_div_mul, Nat.add_mul_div_left _ _ hB, Nat.add_comm (val B l)]
theorem carry_snoc (B : Nat) (l : List Nat) (a c : Nat) : carry B (l ++ [a]) c = carry B l c ++ [(a + cout B l c) % B] := by
  induction l generalizing c with
  | nil => rfl
  | cons b l ih => simp [carry, cout, ih]
theorem cout_snoc (B : Nat) (l : List Nat) (a c : Nat) : cout B (l ++ [a]) c = (a + cout B l c) / B := by
  induction l generalizing c with
  | nil => rfl
  | cons b l ih => simp [cout, ih]
/-- Sums that a carry of M can't bring out of range. -/
theorem cout_le {B : Nat} (hB : 0 < B) (M : Nat) (l : List Nat) (c : Nat) (h : ∀ a ∈ l, a + M < (M + 1) * B) (hc : c ≤ M) : cout B l c ≤ M := by
  induction l generalizing c with
  | nil => exact hc
  | cons a l ih =>
    have ha := h a (by simp)
    refine ih _ (fun b hb => h b (by simp [hb])) ?_
    have : (a + c) / B < M + 1 := by rw [Nat.div_lt_iff_lt_mul hB]; omega
    omega
theorem get_take (l : List Nat) (k : Nat) (h : k < l.length) : l.take (k + 1) = l.take k ++ [l.getD k 0] := by
  rw [List.take_succ_eq_append_getElem h, List.getD_eq_getElem?_getD, List.getElem?_eq_getElem h]; rfl
theorem set_part (l D : List Nat) (k x : Nat) (hl : l.length = k) (hk : k < D.length) : (l ++ D.drop k).set k x = l ++ [x] ++ D.drop (k + 1) := by
  rw [List.set_append_right _ _ (by omega), hl, Nat.sub_self, List.drop_eq_getElem_cons hk, List.set_cons_zero, List.append_assoc]
  rfl
theorem part_getD (l D : List Nat) (k : Nat) (hl : l.length = k) : (l ++ D.drop k).getD k 0 = D.getD k 0 := by
  rw [List.getD_eq_getElem?_getD, List.getElem?_append_right (by omega), hl, Nat.sub_self, List.getElem?_drop, Nat.add_zero, List.getD_eq_getElem?_getD]
theorem part_length (l D : List Nat) (k : Nat) (hl : l.length = k) (hk : k ≤ D.length) : (l ++ D.drop k).length = D.length := by
  rw [List.length_append, hl, List.length_drop]; omega
/-- One piece more: S are the sums, D what lay there. -/
theorem carry_step {B : Nat} (hB : 0 < B) (S D : List Nat) (c k : Nat) (hk : k < S.length) (hD : D.length = S.length) : (carry B (S.take k) c ++ D.drop k).set k ((S.getD k 0 + cout B (S.take k) c) % B) = carry B (S.take (k + 1)) c ++ D.drop (k + 1) ∧ cout B (S.take (k + 1)) c = (S.getD k 0 + cout B (S.take k) c) / B := by
  rw [get_take S k hk, carry_snoc, cout_snoc]
  exact ⟨set_part _ _ _ _ (by rw [carry_length hB, List.length_take]; omega) (by omega), rfl⟩
theorem mem_getD (l : List Nat) (k : Nat) (h : k < l.length) : l.getD k 0 ∈ l := by
  rw [List.getD_eq_getElem?_getD, List.getElem?_eq_getElem h]; exact List.getElem_mem _
theorem getD_le {l : List Nat} {M : Nat} (h : ∀ a ∈ l, a ≤ M) (k : Nat) : l.getD k 0 ≤ M := by
  by_cases c : k < l.length
  · exact h _ (mem_getD l k c)
  · rw [List.getD_eq_getElem?_getD, List.getElem?_eq_none (by omega)]; exact Nat.zero_le _
theorem set_le {l : List Nat} {M : Nat} (h : ∀ a ∈ l, a ≤ M) (k x : Nat) (hx : x ≤ M) : ∀ a ∈ l.set k x, a ≤ M := fun a ha => by
  rcases List.mem_or_eq_of_mem_set ha with h1 | h1
  · exact h a h1
  · omega

/-! ### Sums -/
def plusL (l m : List Nat) : List Nat := List.zipWith (· + ·) l m
theorem val_plus (B : Nat) (l m : List Nat) (h : l.length = m.length) : val B (plusL l m) = val B l + val B m := by
  induction l generalizing m with
  | nil => cases m with
    | nil => simp [plusL, val]
    | cons b m => simp at h
  | cons a l ih => cases m with
    | nil => simp at h
    | cons b m =>
      have := ih m (by simpa using h)
      simp only [plusL, List.zipWith_cons_cons, val] at this ⊢
      rw [this, Nat.mul_add]
      omega
theorem plusL_length (l m : List Nat) (h : l.length = m.length) : (plusL l m).length = l.length := by simp [plusL, h]
theorem plusL_get (l m : List Nat) (k : Nat) (hl : k < l.length) (hm : k < m.length) : (plusL l m).getD k 0 = l.getD k 0 + m.getD k 0 := by
  have h : k < (List.zipWith (· + ·) l m).length := by rw [List.length_zipWith]; omega
  simp only [plusL, List.getD_eq_getElem?_getD, List.getElem?_eq_getElem hl, List.getElem?_eq_getElem hm, List.getElem?_eq_getElem h, Option.getD_some, List.getElem_zipWith]
theorem plusL_le {l m : List Nat} {M K : Nat} (h : l.length = m.length) (hl : ∀ a ∈ l, a ≤ M) (hm : ∀ a ∈ m, a ≤ K) : ∀ a ∈ plusL l m, a ≤ M + K := by
  intro a ha
  obtain ⟨k, hk, rfl⟩ := List.getElem_of_mem ha
  have hk' : k < l.length := by rw [plusL_length l m h] at hk; exact hk
  have e := plusL_get l m k hk' (by omega)
  rw [List.getD_eq_getElem?_getD, List.getElem?_eq_getElem hk, Option.getD_some] at e
  rw [e]
  exact Nat.add_le_add (getD_le hl k) (getD_le hm k)

/-! ### Products -/
theorem val_append (B : Nat) (l m : List Nat) : val B (l ++ m) = val B l + B ^ l.length * val B m := by
  induction l with
  | nil => simp [val]
  | cons a l ih =>
    simp only [List.cons_append, val, ih, List.length_cons, Nat.pow_succ]
    rw [Nat.mul_add, Nat.mul_comm (B ^ l.length) B, Nat.mul_assoc]
    omega
theorem val_take_succ (B : Nat) (m : List Nat) (k : Nat) (h : k < m.length) : val B (m.take (k + 1)) = val B (m.take k) + m.getD k 0 * B ^ k := by
  rw [get_take m k h, val_append, List.length_take, Nat.min_eq_left (by omega)]
  simp only [val, Nat.mul_zero, Nat.add_zero]
  rw [Nat.mul_comm]
theorem val_add_at (B : Nat) (l : List Nat) (j d : Nat) (h : j < l.length) : val B (l.set j (l.getD j 0 + d)) = val B l + d * B ^ j := by
  induction l generalizing j with
  | nil => simp at h
  | cons a l ih =>
    cases j with
    | zero => simp [val]; omega
    | succ j =>
      have := ih j (by simpa using h)
      simp only [List.set_cons_succ, val, List.getD_cons_succ, this, Nat.pow_succ]
      rw [Nat.mul_add, ← Nat.mul_assoc d, Nat.mul_comm (d * B ^ j) B]
      omega
theorem val_zeros (B : Nat) : ∀ n, val B (List.replicate n 0) = 0
  | 0 => rfl
  | n + 1 => by rw [List.replicate_succ, val, val_zeros B n]; omega

/-! ### Bits -/
theorem bit_mod (x b r : Nat) (h : r < b) : x % 2 ^ b / 2 ^ r % 2 = x / 2 ^ r % 2 := by
  rw [show b = r + (b - r) from by omega, Nat.pow_add, Nat.mod_mul_right_div_self]
  exact Nat.mod_mod_of_dvd _ ⟨2 ^ (b - r - 1), by rw [← Nat.pow_succ', show (b - r - 1).succ = b - r from by omega]⟩
/-- A bit of a number, in its pieces. -/
theorem bit_at (b n v i : Nat) (hb : 0 < b) (h : i < b * n) : (dg (2 ^ b) n v).getD (i / b) 0 / 2 ^ (i % b) % 2 = v / 2 ^ i % 2 := by
  have hr := Nat.mod_lt i hb
  have hj : i / b < n := by rw [Nat.div_lt_iff_lt_mul hb, Nat.mul_comm]; exact h
  rw [dg_get _ _ _ _ hj, bit_mod _ _ _ hr, Nat.div_div_eq_div_mul, ← Nat.pow_mul, ← Nat.pow_add, Nat.div_add_mod]
theorem mod_succ (v i : Nat) : v % 2 ^ (i + 1) = v % 2 ^ i + v / 2 ^ i % 2 * 2 ^ i := by
  rw [Nat.pow_succ, Nat.mod_mul, Nat.mul_comm (2 ^ i)]
/-- One bit more. -/
theorem bit_dg (b n v i : Nat) (hb : 0 < b) (h : i < b * n) :
    (dg (2 ^ b) n (v % 2 ^ i)).getD (i / b) 0 < 2 ^ (i % b) ∧ dg (2 ^ b) n (v % 2 ^ (i + 1)) = (dg (2 ^ b) n (v % 2 ^ i)).set (i / b) ((dg (2 ^ b) n (v % 2 ^ i)).getD (i / b) 0 + v / 2 ^ i % 2 * 2 ^ (i % b)) := by
  have hB : 0 < 2 ^ b := Nat.pow_pos (by decide)
  have hj : i / b < n := by rw [Nat.div_lt_iff_lt_mul hb, Nat.mul_comm]; exact h
  have hr := Nat.mod_lt i hb
  have e2 : 2 ^ i = (2 ^ b) ^ (i / b) * 2 ^ (i % b) := by rw [← Nat.pow_mul, ← Nat.pow_add, Nat.div_add_mod]
  have hlt : (dg (2 ^ b) n (v % 2 ^ i)).getD (i / b) 0 < 2 ^ (i % b) := by
    rw [dg_get _ _ _ _ hj]
    refine Nat.lt_of_le_of_lt (Nat.mod_le _ _) ?_
    rw [Nat.div_lt_iff_lt_mul (Nat.pow_pos hB), Nat.mul_comm, ← e2]
    exact Nat.mod_lt _ (Nat.pow_pos (by decide))
  refine ⟨hlt, ?_⟩
  have ht : v / 2 ^ i % 2 < 2 := Nat.mod_lt _ (by decide)
  have hm := mod_succ v i
  generalize v / 2 ^ i % 2 = t at *
  have hle : 2 ^ (i % b) * 2 ≤ 2 ^ b := by rw [← Nat.pow_succ]; exact Nat.pow_le_pow_right (by decide) hr
  have hti : t * 2 ^ (i % b) ≤ 2 ^ (i % b) := by
    rcases (by omega : t = 0 ∨ t = 1) with rfl | rfl <;> simp
  have hin : 2 ^ (i + 1) ≤ (2 ^ b) ^ n := by rw [← Nat.pow_mul]; exact Nat.pow_le_pow_right (by decide) h
  have hin0 : 2 ^ i ≤ (2 ^ b) ^ n := by rw [← Nat.pow_mul]; exact Nat.pow_le_pow_right (by decide) (Nat.le_of_lt h)
  refine dg_ext _ _ (dg_lt hB _ _) ?_ (by rw [dg_length, List.length_set, dg_length]) ?_
  · intro a ha
    rcases List.mem_or_eq_of_mem_set ha with h1 | h1
    · exact dg_lt hB _ _ a h1
    · omega
  · rw [val_add_at _ _ _ _ (by rw [dg_length]; exact hj), val_dg, val_dg, Nat.mod_eq_of_lt (Nat.lt_of_lt_of_le (Nat.mod_lt v (Nat.pow_pos (by decide))) hin), Nat.mod_eq_of_lt (Nat.lt_of_lt_of_le (Nat.mod_lt v (Nat.pow_pos (by decide))) hin0), Nat.mul_assoc, Nat.mul_comm (2 ^ (i % b)), ← e2]
    exact hm

/-! ### Texts as numbers -/
/-- The number of a text, the lowest byte first. -/
def N (s : ByteArray) : Nat := val 256 (nb s)
theorem N_lt (s : ByteArray) : N s < 256 ^ s.size := by
  have := val_lt (B := 256) (nb s) (nb_lt s)
  rwa [nb_length] at this
theorem tb_N (s : ByteArray) (k : Nat) (h : k < s.size) : N s / 256 ^ k % 256 = tb s k := by
  rw [← dg_get 256 s.size _ k h]
  have := dg_val (B := 256) (nb s) (nb_lt s)
  rw [nb_length] at this
  unfold N tb
  rw [this]
theorem tb_bit (s : ByteArray) (i : Nat) (h : i < 8 * s.size) : tb s (i / 8) / 2 ^ (i % 8) % 2 = N s / 2 ^ i % 2 := by
  rw [← tb_N s (i / 8) (by omega), show (256 : Nat) = 2 ^ 8 from rfl, bit_mod _ _ _ (Nat.mod_lt _ (by decide)), Nat.div_div_eq_div_mul, ← Nat.pow_mul, ← Nat.pow_add, Nat.div_add_mod]
/-- n bytes of a number. -/
def T (n v : Nat) : ByteArray := tx (dg 256 n v)
theorem T_ok (n v : Nat) : ∀ x ∈ dg 256 n v, x < 256 := dg_lt (by decide) n v
theorem T_size (n v : Nat) : (T n v).size = n := by rw [T, tx_size, dg_length]
theorem N_T (n v : Nat) : N (T n v) = v % 256 ^ n := by
  unfold N T
  rw [nb_tx _ (T_ok n v), val_dg]
theorem T_N (s : ByteArray) : T s.size (N s) = s := by
  unfold T N
  have := dg_val (B := 256) (nb s) (nb_lt s)
  rw [nb_length] at this
  rw [this, tx_nb]
theorem T_mod (n v m : Nat) (h : n ≤ m) : T n (v % 256 ^ m) = T n v := by unfold T; rw [dg_mod (by decide) n v m h]
end Go.Proofs.YtmbckgfpkmnlnabDoor.pol
