/-
  PLAIN MATHEMATICS OF tags: one that is well known (RFC 8439), one of a short text, reckoned by the kernel; a key of noughts. No program is named here.
-/
import Derived.Test.YtkjjkljpbfjkpaaPlainTag
import Derived.Test.YtkjjkljpbfjkpaaSized
namespace Go.Proofs.Ytkjjkljpbfjkpaa.pol
open Go.Proofs.Ytkjjkljpbfjkpaa.ghs (tb tb_lt tb_tx dr dr_size tb_dr mkl mkl_length mkl_get mkl_succ mkl_congr text_ext)

def kK : ByteArray := ⟨#[133, 214, 190, 120, 87, 85, 109, 51, 127, 68, 82, 254, 66, 213, 6, 168, 1, 3, 128, 138, 251, 13, 178, 253, 74, 191, 246, 175, 65, 73, 245, 27]⟩
def kM : ByteArray := ⟨#[67, 114, 121, 112, 116, 111, 103, 114, 97, 112, 104, 105, 99, 32, 70, 111, 114, 117, 109, 32, 82, 101, 115, 101, 97, 114, 99, 104, 32, 71, 114, 111, 117, 112]⟩
def kT : ByteArray := ⟨#[168, 6, 29, 193, 48, 81, 54, 198, 194, 43, 139, 175, 12, 1, 39, 169]⟩
theorem tag_k : tag kK kM = kT := by decide +kernel
theorem tag_2 : tag (sz ⟨#[2]⟩ 32) ⟨#[1]⟩ = ⟨#[2, 2]⟩ ++ noughts 14 := by decide +kernel
theorem trim_noughts (n : ByteArray) : trim (noughts 16 ++ n) = noughts 16 := by
  refine text_ext (by rw [trim_size, noughts_size]) fun j hj => ?_
  rw [trim_size] at hj
  have e0 : ∀ i, tb (noughts 16) i = 0 := fun i => by
    have e : nb (noughts 16) = List.replicate 16 0 := by simp [nb, noughts]
    unfold tb
    rw [e, List.getD_eq_getElem?_getD, List.getElem?_replicate]
    split <;> rfl
  have e : tb (noughts 16 ++ n) j = 0 := by
    have h := e0 j
    unfold tb at h ⊢
    rw [nb_app, List.getD_eq_getElem?_getD, List.getElem?_append_left (by rw [nb_length, noughts_size]; exact hj), ← List.getD_eq_getElem?_getD]
    exact h
  rw [trim, tb_tx _ (trim_ok _ 16), mkl_get _ _ _ hj, e, e0]
  unfold tr
  split
  · rfl
  · split <;> rfl
theorem acc_nought (s : ByteArray) : ∀ k, acc 0 s k = 0
  | 0 => rfl
  | k + 1 => by rw [acc, acc_nought s k, Nat.mul_zero]; rfl
theorem N_16 : N (noughts 16) = 0 := by decide +kernel
/-- A key of noughts at first. -/
theorem tag_nought (n s : ByteArray) (hn : n.size = 16) : tag (noughts 16 ++ n) s = n := by
  have e : dr (noughts 16 ++ n) 16 = n := by
    refine text_ext (by rw [dr_size, ByteArray.size_append, noughts_size]; omega) fun j hj => ?_
    rw [tb_dr]
    unfold tb
    rw [nb_app, List.getD_eq_getElem?_getD, List.getElem?_append_right (by rw [nb_length, noughts_size]; omega), nb_length, noughts_size, Nat.add_sub_cancel_left, List.getD_eq_getElem?_getD]
  rw [tag, tagN, trim_noughts, N_16, acc_nought, e, Nat.zero_add, ← hn]
  exact T_N n
/-- A byte of the key's first half, otherwise in those bits that don't count. -/
theorem trim_set {l : List Nat} (hl : l.length = 32) (ok : ∀ x ∈ l, x < 256) (k y : Nat) (hy : y < 256) (h : tr k y = tr k (l.getD k 0)) : trim (tx (l.set k y)) = trim (tx l) :=
  trim_congr fun j hj => by
    have ok2 : ∀ x ∈ l.set k y, x < 256 := fun x hx => by
      rcases List.mem_or_eq_of_mem_set hx with h1 | h1
      · exact ok x h1
      · omega
    rw [tb_tx _ ok2, tb_tx _ ok, ghs.getD_set _ _ _ _ (by omega)]
    by_cases c : k = j
    · subst c; rw [if_pos rfl]; exact h
    · rw [if_neg c]
theorem tag_set {l : List Nat} (hl : l.length = 32) (ok : ∀ x ∈ l, x < 256) (k y : Nat) (hk : k < 16) (hy : y < 256) (h : tr k y = tr k (l.getD k 0)) (s : ByteArray) : tag (tx (l.set k y)) s = tag (tx l) s := by
  have ok2 : ∀ x ∈ l.set k y, x < 256 := fun x hx => by
    rcases List.mem_or_eq_of_mem_set hx with h1 | h1
    · exact ok x h1
    · omega
  have e : dr (tx (l.set k y)) 16 = dr (tx l) 16 := by
    refine text_ext (by rw [dr_size, dr_size, tx_size, tx_size, List.length_set]) fun j hj => ?_
    rw [dr_size, tx_size, List.length_set] at hj
    rw [tb_dr, tb_dr, tb_tx _ ok2, tb_tx _ ok, ghs.getD_set _ _ _ _ (by omega), if_neg (by omega)]
  rw [tag, tag, tagN, tagN, trim_set hl ok k y hy h, e]
theorem tr_240 (k x : Nat) (hk : k % 4 = 3) (hx : x < 256) : x ^^^ 240 < 256 ∧ tr k (x ^^^ 240) = tr k x := by
  have h : ∀ x : Nat, x < 256 → x ^^^ 240 < 256 ∧ (x ^^^ 240) % 16 = x % 16 := by decide +kernel
  refine ⟨(h x hx).1, ?_⟩
  unfold tr
  rw [if_pos hk, if_pos hk, (h x hx).2]
theorem tr_3 (k x : Nat) (hk : k % 4 = 0) (h0 : k ≠ 0) (hx : x < 256) : x ^^^ 3 < 256 ∧ tr k (x ^^^ 3) = tr k x := by
  have h : ∀ x : Nat, x < 256 → x ^^^ 3 < 256 ∧ (x ^^^ 3) / 4 * 4 = x / 4 * 4 := by decide +kernel
  refine ⟨(h x hx).1, ?_⟩
  unfold tr
  rw [if_neg (by omega), if_pos ⟨hk, h0⟩, if_neg (by omega), if_pos ⟨hk, h0⟩, (h x hx).2]
end Go.Proofs.Ytkjjkljpbfjkpaa.pol
