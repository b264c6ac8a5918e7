/-
  PLAIN MATHEMATICS OF two texts, filled up, and how long they are, as one text: its blocks. No program is named here.
-/
import Derived.Test.YtibdlccaenanmaaPlainGhashSum
import Derived.Test.YtibdlccaenanmaaSized
namespace Go.Proofs.Ytibdlccaenanmaa.ghs

/-- A number in m bytes, the highest first. -/
def hbl (n : Nat) : Nat → List Nat
  | 0 => []
  | m + 1 => hbl (n / 256) m ++ [n % 256]
theorem hbl_length : ∀ m n, (hbl n m).length = m
  | 0, _ => rfl
  | m + 1, n => by show (hbl (n / 256) m ++ [n % 256]).length = m + 1; rw [List.length_append, hbl_length m]; rfl
theorem hbl_ok : ∀ m n, ∀ x ∈ hbl n m, x < 256
  | 0, _ => fun x h => by simp [hbl] at h
  | m + 1, n => fun x h => by
    rcases List.mem_append.1 h with h | h
    · exact hbl_ok m _ x h
    · rw [List.mem_singleton.1 h]; exact Nat.mod_lt _ (by decide)
theorem bf_hbl : ∀ m n, bf (fun j => (hbl n m).getD j 0) m = n % 256 ^ m
  | 0, n => by show 0 = n % 1; omega
  | m + 1, n => by
    show bf (fun j => (hbl (n / 256) m ++ [n % 256]).getD j 0) m * 256 + (hbl (n / 256) m ++ [n % 256]).getD m 0 = _
    have e1 : bf (fun j => (hbl (n / 256) m ++ [n % 256]).getD j 0) m = bf (fun j => (hbl (n / 256) m).getD j 0) m := bf_congr m fun j hj => by
      rw [List.getD_eq_getElem?_getD, List.getElem?_append_left (by rw [hbl_length]; exact hj), ← List.getD_eq_getElem?_getD]
    have e2 : (hbl (n / 256) m ++ [n % 256]).getD m 0 = n % 256 := by
      rw [List.getD_eq_getElem?_getD, List.getElem?_append_right (by rw [hbl_length]; exact Nat.le_refl _), hbl_length, Nat.sub_self]
      rfl
    rw [e1, e2, bf_hbl m (n / 256), Nat.pow_succ, Nat.mul_comm (256 ^ m) 256, Nat.mod_mul]
    omega
theorem tb_append (s t : ByteArray) (j : Nat) : tb (s ++ t) j = if j < s.size then tb s j else tb t (j - s.size) := by
  have e : nb (s ++ t) = nb s ++ nb t := by
    unfold nb
    rw [ByteArray.data_append, Array.toList_append, List.map_append]
  unfold tb
  rw [e, List.getD_eq_getElem?_getD]
  by_cases c : j < s.size
  · rw [if_pos c, List.getElem?_append_left (by rw [nb_length]; exact c), ← List.getD_eq_getElem?_getD]
  · rw [if_neg c, List.getElem?_append_right (by rw [nb_length]; omega), nb_length, ← List.getD_eq_getElem?_getD]
theorem tb_noughts (n j : Nat) : tb (noughts n) j = 0 := by
  unfold tb nb noughts
  simp only [List.map_replicate]
  rw [List.getD_eq_getElem?_getD, List.getElem?_replicate]
  split <;> rfl
/-- Filled up to a multiple of 16. -/
def fl (s : ByteArray) : ByteArray := s ++ noughts ((16 - s.size % 16) % 16)
theorem fl_size (s : ByteArray) : (fl s).size = 16 * nbk s := by
  unfold fl nbk
  rw [ByteArray.size_append, noughts_size]
  omega
theorem tb_fl (s : ByteArray) (j : Nat) : tb (fl s) j = tb s j := by
  unfold fl
  rw [tb_append]
  split
  · rfl
  · rw [tb_noughts, tb_out _ _ (by omega)]
/-- All of it. -/
def all (l s : ByteArray) : ByteArray := fl l ++ fl s ++ tx (hbl (8 * l.size) 8) ++ tx (hbl (8 * s.size) 8)
theorem all_size (l s : ByteArray) : (all l s).size = 16 * (nbk l + (nbk s + 1)) := by
  unfold all
  rw [ByteArray.size_append, ByteArray.size_append, ByteArray.size_append, fl_size, fl_size, tx_size, tx_size, hbl_length, hbl_length]
  omega
theorem all_l (l s : ByteArray) (j : Nat) (h : j < 16 * nbk l) : tb (all l s) j = tb l j := by
  have h1 := fl_size l
  have h2 := fl_size s
  have h3 : (tx (hbl (8 * l.size) 8)).size = 8 := by rw [tx_size, hbl_length]
  unfold all
  rw [tb_append, if_pos (by rw [ByteArray.size_append, ByteArray.size_append]; omega), tb_append, if_pos (by rw [ByteArray.size_append]; omega), tb_append, if_pos (by omega), tb_fl]
theorem all_s (l s : ByteArray) (j : Nat) (h : j < 16 * nbk s) : tb (all l s) (16 * nbk l + j) = tb s j := by
  have h1 := fl_size l
  have h2 := fl_size s
  have h3 : (tx (hbl (8 * l.size) 8)).size = 8 := by rw [tx_size, hbl_length]
  unfold all
  rw [tb_append, if_pos (by rw [ByteArray.size_append, ByteArray.size_append]; omega), tb_append, if_pos (by rw [ByteArray.size_append]; omega), tb_append, if_neg (by omega), h1, show 16 * nbk l + j - 16 * nbk l = j from by omega, tb_fl]
theorem all_0 (l s : ByteArray) (j : Nat) (h : j < 8) : tb (all l s) (16 * nbk l + (16 * nbk s + j)) = (hbl (8 * l.size) 8).getD j 0 := by
  have h1 := fl_size l
  have h2 := fl_size s
  have h3 : (tx (hbl (8 * l.size) 8)).size = 8 := by rw [tx_size, hbl_length]
  unfold all
  rw [tb_append, if_pos (by rw [ByteArray.size_append, ByteArray.size_append]; omega), tb_append, if_neg (by rw [ByteArray.size_append]; omega), ByteArray.size_append, h1, h2, show 16 * nbk l + (16 * nbk s + j) - (16 * nbk l + 16 * nbk s) = j from by omega, tb_tx _ (hbl_ok _ _)]
theorem all_8 (l s : ByteArray) (j : Nat) : tb (all l s) (16 * nbk l + (16 * nbk s + (8 + j))) = (hbl (8 * s.size) 8).getD j 0 := by
  have h1 := fl_size l
  have h2 := fl_size s
  have h3 : (tx (hbl (8 * l.size) 8)).size = 8 := by rw [tx_size, hbl_length]
  unfold all
  rw [tb_append, if_neg (by rw [ByteArray.size_append, ByteArray.size_append]; omega), ByteArray.size_append, ByteArray.size_append, h1, h2, h3, show 16 * nbk l + (16 * nbk s + (8 + j)) - (16 * nbk l + 16 * nbk s + 8) = j from by omega, tb_tx _ (hbl_ok _ _)]
theorem all_end (l s : ByteArray) (hl : l.size ≤ 140737488355328) (hs : s.size ≤ 140737488355328) : bn (dr (dr (all l s) (16 * nbk l)) (16 * nbk s)) = lenN l s := by
  rw [dr_dr, bn_dr, bf_16]
  have e1 : bf (fun j => tb (all l s) (16 * nbk l + 16 * nbk s + j)) 8 = 8 * l.size := by
    refine (bf_congr 8 fun j hj => ?_).trans ((bf_hbl 8 (8 * l.size)).trans (Nat.mod_eq_of_lt (by omega)))
    rw [Nat.add_assoc]
    exact all_0 l s j hj
  have e2 : bf (fun j => tb (all l s) (16 * nbk l + 16 * nbk s + (8 + j))) 8 = 8 * s.size := by
    refine (bf_congr 8 fun j hj => ?_).trans ((bf_hbl 8 (8 * s.size)).trans (Nat.mod_eq_of_lt (by omega)))
    rw [Nat.add_assoc]
    exact all_8 l s j
  rw [e1, e2]
  rfl
theorem sm_congr (h y : Nat) {s t : ByteArray} : ∀ n, (∀ k, k < n → bn (dr s (16 * k)) = bn (dr t (16 * k))) → sm h y s n = sm h y t n
  | 0, _ => rfl
  | n + 1, e => by show gm _ h = gm _ h; rw [sm_congr h y n (fun k hk => e k (by omega)), e n (by omega)]
theorem sm_add (h y : Nat) (s : ByteArray) (m : Nat) : ∀ n, sm h y s (m + n) = sm h (sm h y s m) (dr s (16 * m)) n
  | 0 => rfl
  | n + 1 => by
    show gm (sm h y s (m + n) ^^^ bn (dr s (16 * (m + n)))) h = gm (_ ^^^ bn (dr (dr s (16 * m)) (16 * n))) h
    rw [sm_add h y s m n, dr_dr, Nat.mul_add]
/-- THE SUM, BLOCK BY BLOCK OF ALL. -/
theorem sm_all (h : Nat) (l s : ByteArray) (hl : l.size ≤ 140737488355328) (hs : s.size ≤ 140737488355328) : sm h 0 (all l s) (nbk l + (nbk s + 1)) = sumN h l s := by
  rw [sm_add]
  show gm (sm h _ _ (nbk s) ^^^ bn (dr (dr (all l s) (16 * nbk l)) (16 * nbk s))) h = _
  rw [all_end l s hl hs]
  have e1 : sm h 0 (all l s) (nbk l) = sm h 0 l (nbk l) := sm_congr h 0 _ fun k hk => bn_dr_congr fun j hj => all_l l s _ (by omega)
  have e2 : ∀ y, sm h y (dr (all l s) (16 * nbk l)) (nbk s) = sm h y s (nbk s) := fun y => sm_congr h y _ fun k hk => by
    rw [dr_dr]
    exact bn_dr_congr fun j hj => by rw [Nat.add_assoc]; exact all_s l s _ (by omega)
  rw [e1, e2]
  rfl
end Go.Proofs.Ytibdlccaenanmaa.ghs
