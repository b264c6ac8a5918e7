/-
  PLAIN MATHEMATICS OF digests (SHA-256): three that are well known, reckoned by the kernel. No program is named here.
-/
import Derived.Test.YtfpknemoaplhdaaDoorPlainSha
import Derived.Test.YtfpknemoaplhdaaDoorPlainHash
namespace Go.Proofs.YtfpknemoaplhdaaDoor.sha
open Go.RowKit
open Go.Proofs.YtfpknemoaplhdaaDoor.ghs (tb tb_lt tb_tx mkl mkl_length mkl_get mkl_congr tx_ext)
open Go.Proofs.YtfpknemoaplhdaaDoor.cha (ad)

/-- A number, then a list, reckoned ahead of what is made of it. -/
def frcN {α : Type} (n : Nat) (k : Nat → α) : α := Nat.rec (k 0) (fun m _ => k (m + 1)) n
theorem frcN_eq {α : Type} (n : Nat) (k : Nat → α) : frcN n k = k n := by cases n <;> rfl
def frc {α : Type} : List Nat → (List Nat → α) → α
  | [], k => k []
  | a :: l, k => frcN a fun b => frc l fun m => k (b :: m)
theorem frc_eq {α : Type} : ∀ (l : List Nat) (k : List Nat → α), frc l k = k l
  | [], _ => rfl
  | a :: l, k => by rw [frc, frcN_eq, frc_eq l]
def wsK {α : Type} (f : Nat → Nat) : Nat → Nat → List Nat → (List Nat → α) → α
  | 0, _, l, k => k l
  | m + 1, t, l, k => frc (l ++ [wn f l t]) fun l' => wsK f m (t + 1) l' k
theorem wsK_eq {α : Type} (f : Nat → Nat) (k : List Nat → α) : ∀ m t, wsK f m t (ws f t) k = k (ws f (t + m))
  | 0, _ => rfl
  | m + 1, t => by
    rw [wsK, frc_eq]
    have := wsK_eq f k m (t + 1)
    rw [show t + 1 + m = t + (m + 1) from by omega] at this
    exact this
def foldK {α : Type} : List Nat → List Nat → (List Nat → α) → α
  | [], l, k => k l
  | x :: xs, l, k => frc (stL l x) fun l' => foldK xs l' k
theorem foldK_eq {α : Type} (k : List Nat → α) : ∀ (xs l : List Nat), foldK xs l k = k (xs.foldl stL l)
  | [], _ => rfl
  | x :: xs, l => by rw [foldK, frc_eq, foldK_eq k xs, List.foldl_cons]
theorem rnd_fold (l : List Nat) (f : Nat → Nat) : ∀ t, rnd l f t = (mkl t f).foldl stL l
  | 0 => rfl
  | t + 1 => by rw [rnd, rnd_fold l f t, ghs.mkl_succ, List.foldl_append]; rfl
def compK {α : Type} (B l : List Nat) (k : List Nat → α) : α :=
  wsK (fun j => B.getD j 0) 64 0 [] fun W => frc (mkl 64 fun t => ad (kL.getD t 0) (W.getD t 0)) fun X => foldK X l fun r => frc (mkl 8 fun i => ad (l.getD i 0) (r.getD i 0)) k
theorem compK_eq {α : Type} (B l : List Nat) (k : List Nat → α) : compK B l k = k (comp l fun j => B.getD j 0) := by
  unfold compK
  have h := wsK_eq (fun j => B.getD j 0) (fun W => frc (mkl 64 fun t => ad (kL.getD t 0) (W.getD t 0)) fun X => foldK X l fun r => frc (mkl 8 fun i => ad (l.getD i 0) (r.getD i 0)) k) 64 0
  refine (show _ = _ from h).trans ?_
  rw [Nat.zero_add, frc_eq, foldK_eq, frc_eq, ← rnd_fold]
  rfl
theorem comp_is {B l R : List Nat} (h : compK B l (fun r => r == R) = true) : comp l (fun j => B.getD j 0) = R := by
  rw [compK_eq] at h
  exact eq_of_beq h
theorem tb_full (s : ByteArray) (i : Nat) : tb (full s) i = (nb s ++ pd s.size).getD i 0 := by
  unfold tb full padT
  rw [nb_app, nb_tx _ (pd_ok _)]
theorem full_text (s : ByteArray) : shaT s = out (stA (fun i => (nb s ++ pd s.size).getD i 0) ((s.size + (9 + nz s.size)) / 64)) := by
  unfold shaT
  rw [full_size, show tb (full s) = fun i => (nb s ++ pd s.size).getD i 0 from funext (tb_full s)]
theorem one_block {s : ByteArray} {B R : List Nat} (hB : nb s ++ pd s.size = B) (hz : (s.size + (9 + nz s.size)) / 64 = 1) (h : compK B h0 (fun r => r == R) = true) : shaT s = out R := by
  rw [full_text, hB, hz, stA, stA]
  congr 1
  rw [← comp_is h]
  congr 1
  funext j
  rw [Nat.mul_zero, Nat.zero_add]
theorem two_blocks {s : ByteArray} {B1 B2 R1 R : List Nat} (l1 : B1.length = 64) (hB : nb s ++ pd s.size = B1 ++ B2) (hz : (s.size + (9 + nz s.size)) / 64 = 2) (h1 : compK B1 h0 (fun r => r == R1) = true) (h : compK B2 R1 (fun r => r == R) = true) : shaT s = out R := by
  rw [full_text, hB, hz, stA, stA, stA]
  congr 1
  have e1 : comp h0 (fun j => (B1 ++ B2).getD (64 * 0 + j) 0) = R1 := by
    rw [← comp_is h1]
    refine comp_congr fun j hj => ?_
    rw [Nat.mul_zero, Nat.zero_add, List.getD_eq_getElem?_getD, List.getElem?_append_left (by omega), ← List.getD_eq_getElem?_getD]
  rw [e1, ← comp_is h]
  congr 1
  funext j
  rw [Nat.mul_one, List.getD_eq_getElem?_getD, List.getElem?_append_right (by omega), l1, Nat.add_sub_cancel_left, ← List.getD_eq_getElem?_getD]
def k1 : ByteArray := ⟨#[97, 98, 99]⟩
def v1 : ByteArray := ⟨#[186, 120, 22, 191, 143, 1, 207, 234, 65, 65, 64, 222, 93, 174, 34, 35, 176, 3, 97, 163, 150, 23, 122, 156, 180, 16, 255, 97, 242, 0, 21, 173]⟩
def b1 : List Nat := [97, 98, 99, 128, 0, 0, 0, 0, 0, 0, 0, 0, 0, 0, 0, 0, 0, 0, 0, 0, 0, 0, 0, 0, 0, 0, 0, 0, 0, 0, 0, 0, 0, 0, 0, 0, 0, 0, 0, 0, 0, 0, 0, 0, 0, 0, 0, 0, 0, 0, 0, 0, 0, 0, 0, 0, 0, 0, 0, 0, 0, 0, 0, 24]
def r1 : List Nat := [3128432319, 2399260650, 1094795486, 1571693091, 2953011619, 2518121116, 3021012833, 4060091821]
theorem sha_1 : shaT k1 = v1 := (one_block (s := k1) (B := b1) (R := r1) (by decide +kernel) (by decide +kernel) (by decide +kernel)).trans (by decide +kernel)
def k2 : ByteArray := ⟨#[]⟩
def v2 : ByteArray := ⟨#[227, 176, 196, 66, 152, 252, 28, 20, 154, 251, 244, 200, 153, 111, 185, 36, 39, 174, 65, 228, 100, 155, 147, 76, 164, 149, 153, 27, 120, 82, 184, 85]⟩
def b2 : List Nat := [128, 0, 0, 0, 0, 0, 0, 0, 0, 0, 0, 0, 0, 0, 0, 0, 0, 0, 0, 0, 0, 0, 0, 0, 0, 0, 0, 0, 0, 0, 0, 0, 0, 0, 0, 0, 0, 0, 0, 0, 0, 0, 0, 0, 0, 0, 0, 0, 0, 0, 0, 0, 0, 0, 0, 0, 0, 0, 0, 0, 0, 0, 0, 0]
def r2 : List Nat := [3820012610, 2566659092, 2600203464, 2574235940, 665731556, 1687917388, 2761267483, 2018687061]
theorem sha_2 : shaT k2 = v2 := (one_block (s := k2) (B := b2) (R := r2) (by decide +kernel) (by decide +kernel) (by decide +kernel)).trans (by decide +kernel)
def k3 : ByteArray := ⟨#[97, 98, 99, 100, 98, 99, 100, 101, 99, 100, 101, 102, 100, 101, 102, 103, 101, 102, 103, 104, 102, 103, 104, 105, 103, 104, 105, 106, 104, 105, 106, 107, 105, 106, 107, 108, 106, 107, 108, 109, 107, 108, 109, 110, 108, 109, 110, 111, 109, 110, 111, 112, 110, 111, 112, 113]⟩
def v3 : ByteArray := ⟨#[36, 141, 106, 97, 210, 6, 56, 184, 229, 192, 38, 147, 12, 62, 96, 57, 163, 60, 228, 89, 100, 255, 33, 103, 246, 236, 237, 212, 25, 219, 6, 193]⟩
def b3 : List Nat := [97, 98, 99, 100, 98, 99, 100, 101, 99, 100, 101, 102, 100, 101, 102, 103, 101, 102, 103, 104, 102, 103, 104, 105, 103, 104, 105, 106, 104, 105, 106, 107, 105, 106, 107, 108, 106, 107, 108, 109, 107, 108, 109, 110, 108, 109, 110, 111, 109, 110, 111, 112, 110, 111, 112, 113, 128, 0, 0, 0, 0, 0, 0, 0]
def c3 : List Nat := [0, 0, 0, 0, 0, 0, 0, 0, 0, 0, 0, 0, 0, 0, 0, 0, 0, 0, 0, 0, 0, 0, 0, 0, 0, 0, 0, 0, 0, 0, 0, 0, 0, 0, 0, 0, 0, 0, 0, 0, 0, 0, 0, 0, 0, 0, 0, 0, 0, 0, 0, 0, 0, 0, 0, 0, 0, 0, 0, 0, 0, 0, 1, 192]
def q3 : List Nat := [2246464982, 1098520469, 862140266, 1649204828, 1994429833, 3401971729, 3427480257, 4061025082]
def r3 : List Nat := [613247585, 3523623096, 3854575251, 205414457, 2738676825, 1694441831, 4142722516, 433784513]
theorem sha_3 : shaT k3 = v3 := (two_blocks (s := k3) (B1 := b3) (B2 := c3) (R1 := q3) (R := r3) rfl (by decide +kernel) (by decide +kernel) (by decide +kernel) (by decide +kernel)).trans (by decide +kernel)
end Go.Proofs.YtfpknemoaplhdaaDoor.sha
