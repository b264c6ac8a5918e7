/-
  PLAIN MATHEMATICS OF sums of texts, block by block. No program is named here.
-/
import Derived.Test.YtmbckgfpkmnlnabDoorPlainGhashText
namespace Go.Proofs.YtmbckgfpkmnlnabDoor.ghs
open Go.Proofs.YtmbckgfpkmnlnabDoor.gal (Lin)

/-- A text from its byte n on. -/
def dr (s : ByteArray) (n : Nat) : ByteArray := s.extract n s.size
theorem dr_size (s : ByteArray) (n : Nat) : (dr s n).size = s.size - n := by unfold dr; rw [ByteArray.size_extract]; omega
theorem nb_dr (s : ByteArray) (n : Nat) : nb (dr s n) = (nb s).drop n := by
  unfold nb dr
  rw [ByteArray.data_extract, ← List.map_drop]
  congr 1
  have h : s.size = s.data.toList.length := by rw [Array.length_toList]; rfl
  rw [Array.toList_extract, List.extract_eq_take_drop, h]
  apply List.take_of_length_le
  rw [List.length_drop]
  exact Nat.le_refl _
theorem tb_dr (s : ByteArray) (n j : Nat) : tb (dr s n) j = tb s (n + j) := by
  unfold tb
  rw [nb_dr, List.getD_eq_getElem?_getD, List.getElem?_drop, ← List.getD_eq_getElem?_getD]
theorem dr_0 (s : ByteArray) : dr s 0 = s := text_ext (by rw [dr_size]; rfl) fun j _ => by rw [tb_dr, Nat.zero_add]
theorem dr_dr (s : ByteArray) (m n : Nat) : dr (dr s m) n = dr s (m + n) := text_ext (by rw [dr_size, dr_size, dr_size]; omega) fun j _ => by rw [tb_dr, tb_dr, tb_dr, Nat.add_assoc]
theorem dr_end (s : ByteArray) (m n : Nat) (hm : s.size ≤ m) (hn : s.size ≤ n) : dr s m = dr s n := text_ext (by rw [dr_size, dr_size]; omega) fun j hj => by rw [dr_size] at hj; omega
theorem bn_dr (s : ByteArray) (n : Nat) : bn (dr s n) = bf (fun j => tb s (n + j)) 16 := bf_congr 16 fun j _ => tb_dr s n j
theorem bn_dr_congr {s t : ByteArray} {m n : Nat} (h : ∀ j, j < 16 → tb s (m + j) = tb t (n + j)) : bn (dr s m) = bn (dr t n) := by
  rw [bn_dr, bn_dr, bf_congr 16 h]
/-- How many blocks. -/
def nbk (s : ByteArray) : Nat := (s.size + 15) / 16
/-- What k blocks come to, behind y. -/
def sm (h y : Nat) (s : ByteArray) : Nat → Nat
  | 0 => y
  | k + 1 => gm (sm h y s k ^^^ bn (dr s (16 * k))) h
theorem sm_lt {h y : Nat} (hh : h < 2 ^ 128) (hy : y < 2 ^ 128) (s : ByteArray) : ∀ k, sm h y s k < 2 ^ 128
  | 0 => hy
  | _ + 1 => gm_lt _ hh
def lenN (l s : ByteArray) : Nat := 8 * l.size * 2 ^ 64 + 8 * s.size
theorem lenN_lt {l s : ByteArray} (hl : l.size ≤ 140737488355328) (hs : s.size ≤ 140737488355328) : lenN l s < 2 ^ 128 := by unfold lenN; omega
/-- The sum. -/
def sumN (h : Nat) (l s : ByteArray) : Nat := gm (sm h (sm h 0 l (nbk l)) s (nbk s) ^^^ lenN l s) h
theorem sumN_lt {h : Nat} (hh : h < 2 ^ 128) (l s : ByteArray) : sumN h l s < 2 ^ 128 := gm_lt _ hh
/-! ### Sums are linear, but for how long texts are -/
theorem four (a b c d e f : Nat) : ((a ^^^ e) ^^^ (b ^^^ f)) ^^^ ((c ^^^ (e ^^^ f)) ^^^ d) = (a ^^^ b) ^^^ (c ^^^ d) := by
  apply Nat.eq_of_testBit_eq
  intro i
  simp only [Nat.testBit_xor]
  cases a.testBit i <;> cases b.testBit i <;> cases c.testBit i <;> cases d.testBit i <;> cases e.testBit i <;> cases f.testBit i <;> rfl
theorem gm_four (a b c d h : Nat) : (gm a h ^^^ gm b h) ^^^ (gm c h ^^^ gm d h) = gm ((a ^^^ b) ^^^ (c ^^^ d)) h := by
  rw [gm_dist', gm_dist', gm_dist']
theorem sm_four {h : Nat} {s t z : ByteArray} (ht : t.size = s.size) (hz : ∀ j, tb z j = 0) (a b c d : Nat) (h0 : (a ^^^ b) ^^^ (c ^^^ d) = 0) : ∀ k,
    (sm h a s k ^^^ sm h b t k) ^^^ (sm h c (xo s t) k ^^^ sm h d z k) = 0
  | 0 => h0
  | k + 1 => by
    show (gm _ h ^^^ gm _ h) ^^^ (gm _ h ^^^ gm _ h) = 0
    have e1 : bn (dr (xo s t) (16 * k)) = bn (dr s (16 * k)) ^^^ bn (dr t (16 * k)) := by
      rw [bn_dr, bn_dr, bn_dr, ← bf_xor (fun j => tb_lt s _) (fun j => tb_lt t _)]
      exact bf_congr 16 fun j _ => tb_xo ht _
    have e2 : bn (dr z (16 * k)) = 0 := by
      rw [bn_dr, bf_congr (g := fun _ => 0) 16 fun j _ => hz _]
      rfl
    rw [gm_four, e1, e2, Nat.xor_zero, four, sm_four ht hz a b c d h0 k, gm_zero_left]
theorem nbk_congr {s t : ByteArray} (h : t.size = s.size) : nbk t = nbk s := by unfold nbk; rw [h]
theorem lenN_congr {l m s t : ByteArray} (h : m.size = l.size) (h2 : t.size = s.size) : lenN m t = lenN l s := by unfold lenN; rw [h, h2]
theorem sum_four (h : Nat) {l m s t y z : ByteArray} (hm : m.size = l.size) (ht : t.size = s.size) (hy : y.size = l.size) (hz : z.size = s.size) (oy : ∀ j, tb y j = 0) (oz : ∀ j, tb z j = 0) :
    (sumN h l s ^^^ sumN h m t) ^^^ (sumN h (xo l m) (xo s t) ^^^ sumN h y z) = 0 := by
  unfold sumN
  have hx : (xo l m).size = l.size := xo_size l m
  have hx2 : (xo s t).size = s.size := xo_size s t
  rw [lenN_congr hm ht, lenN_congr hx hx2, lenN_congr hy hz, nbk_congr hm, nbk_congr ht, nbk_congr hx, nbk_congr hx2, nbk_congr hy, nbk_congr hz]
  have h1 := sm_four (h := h) hm oy 0 0 0 0 rfl (nbk l)
  have h2 := sm_four (h := h) ht oz _ _ _ _ h1 (nbk s)
  rw [gm_four]
  generalize lenN l s = n
  have e : ∀ a b c d : Nat, ((a ^^^ n) ^^^ (b ^^^ n)) ^^^ ((c ^^^ n) ^^^ (d ^^^ n)) = (a ^^^ b) ^^^ (c ^^^ d) := fun a b c d => by
    apply Nat.eq_of_testBit_eq
    intro i
    simp only [Nat.testBit_xor]
    cases a.testBit i <;> cases b.testBit i <;> cases c.testBit i <;> cases d.testBit i <;> cases n.testBit i <;> rfl
  rw [e, h2, gm_zero_left]
end Go.Proofs.YtmbckgfpkmnlnabDoor.ghs
