/-
  PLAIN MATHEMATICS OF times in bytes: numbers told with the highest byte first, what is told read again, texts of one size held against one another. No program is named here.
-/
import Derived.Test.YtmbckgfpkmnlnabDoorRow
namespace Go.Proofs.YtmbckgfpkmnlnabDoor.stm

/-- A number in m bytes, the highest first. -/
def hb (n : Nat) : Nat → List Nat
  | 0 => []
  | m + 1 => hb (n / 256) m ++ [n % 256]
theorem hb_length (m : Nat) : ∀ n, (hb n m).length = m := by
  induction m with
  | zero => intro n; rfl
  | succ m ih => intro n; rw [hb, List.length_append, ih]; rfl
theorem hb_ok (m : Nat) : ∀ n, ∀ x ∈ hb n m, x < 256 := by
  induction m with
  | zero => intro n x h; simp [hb] at h
  | succ m ih =>
    intro n x h
    rcases List.mem_append.1 h with h | h
    · exact ih _ x h
    · rw [List.mem_singleton.1 h]; exact Nat.mod_lt _ (by decide)
/-- The number of bytes, the highest first. -/
def hv (l : List Nat) : Nat := l.foldl (fun n b => n * 256 + b) 0
theorem hv_nil : hv [] = 0 := rfl
theorem hv_snoc (l : List Nat) (b : Nat) : hv (l ++ [b]) = hv l * 256 + b := by simp [hv, List.foldl_append]
theorem hv_from (l : List Nat) : ∀ p, l.foldl (fun n b => n * 256 + b) p = p * 256 ^ l.length + hv l := by
  induction l with
  | nil => intro p; simp [hv]
  | cons a l ih =>
    intro p
    show l.foldl (fun n b => n * 256 + b) (p * 256 + a) = p * 256 ^ (l.length + 1) + l.foldl (fun n b => n * 256 + b) (0 * 256 + a)
    rw [ih, ih (0 * 256 + a), Nat.zero_mul, Nat.zero_add, Nat.add_mul, Nat.mul_assoc, Nat.pow_succ, Nat.mul_comm 256, Nat.add_assoc]
theorem hv_cons (a : Nat) (l : List Nat) : hv (a :: l) = a * 256 ^ l.length + hv l := by
  show l.foldl (fun n b => n * 256 + b) (0 * 256 + a) = _
  rw [hv_from, Nat.zero_mul, Nat.zero_add]
theorem hv_lt (l : List Nat) (h : ∀ x ∈ l, x < 256) : hv l < 256 ^ l.length := by
  induction l with
  | nil => decide
  | cons a l ih =>
    have h1 := ih fun x hx => h x (List.mem_cons_of_mem _ hx)
    have h2 : a + 1 ≤ 256 := h a (List.mem_cons_self ..)
    have h3 : (a + 1) * 256 ^ l.length ≤ 256 * 256 ^ l.length := Nat.mul_le_mul_right _ h2
    rw [hv_cons, List.length_cons, Nat.pow_succ, Nat.mul_comm _ 256]
    rw [Nat.add_mul, Nat.one_mul] at h3
    omega
theorem hv_hb (m : Nat) : ∀ n, n < 256 ^ m → hv (hb n m) = n := by
  induction m with
  | zero => intro n h; have : n = 0 := by (rw [Nat.pow_zero] at h; omega)
            rw [this]; rfl
  | succ m ih =>
    intro n h
    rw [Nat.pow_succ] at h
    rw [hb, hv_snoc, ih _ (by omega)]
    omega
theorem split_last (l : List Nat) (m : Nat) (h : l.length = m + 1) : ∃ k b, l = k ++ [b] ∧ k.length = m := by
  have hne : l ≠ [] := by intro e; rw [e] at h; cases h
  exact ⟨l.dropLast, l.getLast hne, (List.dropLast_concat_getLast hne).symm, by rw [List.length_dropLast]; omega⟩
theorem hb_hv (m : Nat) : ∀ l : List Nat, l.length = m → (∀ x ∈ l, x < 256) → hb (hv l) m = l := by
  induction m with
  | zero => intro l h _; rw [List.length_eq_zero_iff.1 h]; rfl
  | succ m ih =>
    intro l h hok
    obtain ⟨k, b, rfl, hk⟩ := split_last l m h
    have hbl := hok b (by simp)
    rw [hv_snoc, hb, show (hv k * 256 + b) / 256 = hv k from by omega, show (hv k * 256 + b) % 256 = b from by omega, ih k hk fun x hx => hok x (by simp [hx])]

/-- A number put into a row, the lowest byte last. -/
def put (Z : List Nat) (o n : Nat) : Nat → List Nat
  | 0 => Z
  | m + 1 => put (Z.set (o + m) (n % 256)) o (n / 256) m
theorem put_eq (m : Nat) : ∀ (Z : List Nat) (o n : Nat), o + m ≤ Z.length → put Z o n m = Z.take o ++ hb n m ++ Z.drop (o + m) := by
  induction m with
  | zero => intro Z o n _; rw [put, hb, List.append_nil, Nat.add_zero, List.take_append_drop]
  | succ m ih =>
    intro Z o n h
    rw [put, ih _ _ _ (by rw [List.length_set]; omega), hb, List.take_set_of_le (by omega)]
    rw [List.drop_eq_getElem_cons (show o + m < (Z.set (o + m) (n % 256)).length by rw [List.length_set]; omega), List.getElem_set_self, List.drop_set_of_lt (by omega)]
    simp [Nat.add_assoc]
theorem put_length (m : Nat) : ∀ (Z : List Nat) (o n : Nat), (put Z o n m).length = Z.length := by
  induction m with
  | zero => intro Z o n; rfl
  | succ m ih => intro Z o n; rw [put, ih, List.length_set]

/-- What is told of a time. -/
def told (a b : Nat) : ByteArray := tx (hb (4611686018427387904 + a) 8 ++ hb b 4)
theorem told_list_ok (n b : Nat) : ∀ x ∈ hb n 8 ++ hb b 4, x < 256 := by
  intro x h
  rcases List.mem_append.1 h with h | h
  · exact hb_ok _ _ x h
  · exact hb_ok _ _ x h
theorem told_put (n b : Nat) : put (put (List.replicate 12 0) 0 n 8) 8 b 4 = hb n 8 ++ hb b 4 := by
  rw [put_eq 4 _ _ _ (by rw [put_length]; decide), put_eq 8 _ _ _ (by decide)]
  have e1 : (List.replicate 12 0).take 0 ++ hb n 8 ++ (List.replicate 12 0).drop (0 + 8) = hb n 8 ++ [0, 0, 0, 0] := rfl
  rw [e1, List.take_left' (hb_length 8 n), List.drop_of_length_le (by rw [List.length_append, hb_length]; decide), List.append_nil]
theorem told_size (a b : Nat) : (told a b).size = 12 := by
  unfold told; rw [tx_size, List.length_append, hb_length, hb_length]
theorem told_nb (a b : Nat) : nb (told a b) = hb (4611686018427387904 + a) 8 ++ hb b 4 := nb_tx _ (told_list_ok _ _)

/-- A text's first eight bytes, and what follows, as numbers. -/
def secOf (s : ByteArray) : Nat := hv ((nb s).take 8)
def nanoOf (s : ByteArray) : Nat := hv ((nb s).drop 8)
theorem secOf_told (a b : Nat) (ha : a ≤ 1099511627776) : secOf (told a b) = 4611686018427387904 + a := by
  unfold secOf
  rw [told_nb, List.take_left' (hb_length 8 _)]
  exact hv_hb 8 _ (by omega)
theorem nanoOf_told (a b : Nat) (h : b ≤ 999999999) : nanoOf (told a b) = b := by
  unfold nanoOf
  rw [told_nb, List.drop_left' (hb_length 8 _)]
  exact hv_hb 4 _ (by omega)
theorem secOf_lt (s : ByteArray) (h : s.size = 12) : secOf s < 18446744073709551616 := by
  have := hv_lt ((nb s).take 8) fun x hx => nb_lt s x (List.mem_of_mem_take hx)
  rw [List.length_take, nb_length, h] at this
  exact this
theorem nanoOf_lt (s : ByteArray) (h : s.size = 12) : nanoOf s < 4294967296 := by
  have := hv_lt ((nb s).drop 8) fun x hx => nb_lt s x (List.mem_of_mem_drop hx)
  rw [List.length_drop, nb_length, h] at this
  exact this
/-- What is read is told so. -/
theorem told_of (s : ByteArray) (h : s.size = 12) (a : Nat) (ha : secOf s = 4611686018427387904 + a) : told a (nanoOf s) = s := by
  unfold told
  rw [← ha]
  unfold secOf nanoOf
  rw [hb_hv 8 _ (by rw [List.length_take, nb_length, h]; rfl) (fun x hx => nb_lt s x (List.mem_of_mem_take hx)), hb_hv 4 _ (by rw [List.length_drop, nb_length, h]) (fun x hx => nb_lt s x (List.mem_of_mem_drop hx)), List.take_append_drop, tx_nb]
theorem told_inj {a b c d : Nat} (ha : a ≤ 1099511627776) (hb : b ≤ 999999999) (hc : c ≤ 1099511627776) (hd : d ≤ 999999999) (h : told a b = told c d) : a = c ∧ b = d := by
  have h1 := secOf_told a b ha
  have h2 := nanoOf_told a b hb
  rw [h, secOf_told c d hc] at h1
  rw [h, nanoOf_told c d hd] at h2
  exact ⟨by omega, h2.symm⟩

/-- Which of two texts of one size is the lower. -/
theorem less_num (x : List UInt8) : ∀ y : List UInt8, x.length = y.length → Op.bytesLess x y = decide (hv (x.map UInt8.toNat) < hv (y.map UInt8.toNat)) := by
  induction x with
  | nil =>
    intro y h
    rw [List.length_eq_zero_iff.1 h.symm]
    rfl
  | cons a x ih =>
    intro y h
    cases y with
    | nil => cases h
    | cons b y =>
      have hl : x.length = y.length := by simpa using h
      have h1 := hv_lt (x.map UInt8.toNat) (fun n hn => by obtain ⟨u, _, rfl⟩ := List.mem_map.1 hn; exact u.toNat_lt)
      have h2 := hv_lt (y.map UInt8.toNat) (fun n hn => by obtain ⟨u, _, rfl⟩ := List.mem_map.1 hn; exact u.toNat_lt)
      rw [Op.bytesLess, ih y hl, List.map_cons, List.map_cons, hv_cons, hv_cons]
      rw [List.length_map] at h1 h2 ⊢
      rw [List.length_map, hl]
      rw [hl] at h1
      generalize hv (x.map UInt8.toNat) = X at *
      generalize hv (y.map UInt8.toNat) = Y at *
      generalize 256 ^ y.length = p at *
      rcases Nat.lt_trichotomy a.toNat b.toNat with c | c | c
      · have e : (a.toNat + 1) * p ≤ b.toNat * p := Nat.mul_le_mul_right _ c
        rw [Nat.add_mul, Nat.one_mul] at e
        have e1 : (a < b) = True := by simpa using UInt8.lt_iff_toNat_lt.2 c
        simp [e1]
        omega
      · have e1 : ¬ a < b := by rw [UInt8.lt_iff_toNat_lt]; omega
        have e2 : a = b := UInt8.toNat_inj.1 c
        simp [e2]
      · have e : (b.toNat + 1) * p ≤ a.toNat * p := Nat.mul_le_mul_right _ c
        rw [Nat.add_mul, Nat.one_mul] at e
        have e1 : ¬ a < b := by rw [UInt8.lt_iff_toNat_lt]; omega
        have e2 : a ≠ b := fun e => by rw [e] at c; omega
        have e3 : (a == b) = false := by rw [beq_eq_false_iff_ne]; exact e2
        rw [decide_eq_false e1, e3, Bool.false_and, Bool.false_or, Eq.comm, decide_eq_false_iff_not]
        omega
theorem hv_append (k l : List Nat) : hv (k ++ l) = hv k * 256 ^ l.length + hv l := by
  unfold hv
  rw [List.foldl_append, hv_from]
  rfl
theorem hv_told (a b : Nat) (ha : a ≤ 1099511627776) (hb : b ≤ 999999999) : hv (nb (told a b)) = (4611686018427387904 + a) * 4294967296 + b := by
  rw [told_nb, hv_append, hb_length, hv_hb 8 _ (by omega), hv_hb 4 _ (by omega)]
theorem told_less {a b c d : Nat} (ha : a ≤ 1099511627776) (hb : b ≤ 999999999) (hc : c ≤ 1099511627776) (hd : d ≤ 999999999) :
    Op.bytesLess (told a b).toList (told c d).toList = decide (a < c ∨ a = c ∧ b < d) := by
  rw [ByteArray.toList_eq, ByteArray.toList_eq, less_num _ _ (by rw [Array.length_toList, Array.length_toList]; exact (told_size a b).trans (told_size c d).symm)]
  show decide (hv (nb (told a b)) < hv (nb (told c d))) = _
  rw [hv_told a b ha hb, hv_told c d hc hd]
  refine decide_eq_decide.2 ?_
  omega
theorem told_eq {a b c d : Nat} (ha : a ≤ 1099511627776) (hb : b ≤ 999999999) (hc : c ≤ 1099511627776) (hd : d ≤ 999999999) :
    ((told a b).toList == (told c d).toList) = decide (a = c ∧ b = d) := by
  by_cases e : a = c ∧ b = d
  · obtain ⟨rfl, rfl⟩ := e
    simp
  · rw [decide_eq_false e, beq_eq_false_iff_ne]
    intro h
    rw [ByteArray.toList_eq, ByteArray.toList_eq] at h
    exact e (told_inj ha hb hc hd (ByteArray.ext (Array.ext' h)))
end Go.Proofs.YtmbckgfpkmnlnabDoor.stm
