/-
  PLAIN MATHEMATICS OF digests of another kind (BLAKE2s): two that are well known, reckoned by the kernel. No program is named here.
-/
import Derived.Test.YtgfcinlhhofllaaDoorPlainBlake
namespace Go.Proofs.YtgfcinlhhofllaaDoor.bla
open Go.RowKit
open Go.Proofs.YtgfcinlhhofllaaDoor.ghs (tb mkl mkl_length mkl_get mkl_congr tx_ext)
open Go.Proofs.YtgfcinlhhofllaaDoor.cha (ad Q at4 put4 told)
open Go.Proofs.YtgfcinlhhofllaaDoor.sha (rr)

/-- A number, then a list, reckoned ahead of what is made of it. -/
def frcN {α : Type} (n : Nat) (k : Nat → α) : α := Nat.rec (k 0) (fun m _ => k (m + 1)) n
theorem frcN_eq {α : Type} (n : Nat) (k : Nat → α) : frcN n k = k n := by cases n <;> rfl
def frc {α : Type} : List Nat → (List Nat → α) → α
  | [], k => k []
  | a :: l, k => frcN a fun b => frc l fun m => k (b :: m)
theorem frc_eq {α : Type} : ∀ (l : List Nat) (k : List Nat → α), frc l k = k l
  | [], _ => rfl
  | a :: l, k => by rw [frc, frcN_eq, frc_eq l]
/-- Half a MIX, each number reckoned ahead. -/
def hfK {α : Type} (n m : Nat) (q : Q) (x : Nat) (k : Q → α) : α :=
  frcN (ad q.a (ad q.b x)) fun a => frcN (rr n (q.d ^^^ a)) fun d => frcN (ad q.c d) fun c => frcN (rr m (q.b ^^^ c)) fun b => k ⟨a, b, c, d⟩
theorem hfK_eq {α : Type} (n m : Nat) (q : Q) (x : Nat) (k : Q → α) : hfK n m q x k = k (hf n m q x) := by
  unfold hfK
  rw [frcN_eq, frcN_eq, frcN_eq, frcN_eq]
  rfl
def stpK {α : Type} (m : List Nat) (r i : Nat) (l : List Nat) (k : List Nat → α) : α :=
  frcN (m.getD (ln r (2 * i)) 0) fun x => frcN (m.getD (ln r (2 * i + 1)) 0) fun y =>
    hfK 16 12 (at4 l (pl i 0) (pl i 1) (pl i 2) (pl i 3)) x fun q => hfK 8 7 q y fun q' => frc (put4 l (pl i 0) (pl i 1) (pl i 2) (pl i 3) q') k
theorem stpK_eq {α : Type} (m : List Nat) (r i : Nat) (l : List Nat) (k : List Nat → α) : stpK m r i l k = k (stp m r i l) := by
  unfold stpK
  rw [frcN_eq, frcN_eq, hfK_eq, hfK_eq, frc_eq]
  rfl
def row8K {α : Type} (m : List Nat) (r : Nat) (l : List Nat) : Nat → (List Nat → α) → α
  | 0, k => k l
  | i + 1, k => row8K m r l i fun l' => stpK m r i l' k
theorem row8K_eq {α : Type} (m : List Nat) (r : Nat) (l : List Nat) : ∀ (i : Nat) (k : List Nat → α), row8K m r l i k = k (row8 m r l i)
  | 0, _ => rfl
  | i + 1, k => by rw [row8K, row8K_eq m r l i, stpK_eq]; rfl
def rwsK {α : Type} (m l : List Nat) : Nat → (List Nat → α) → α
  | 0, k => k l
  | r + 1, k => rwsK m l r fun l' => row8K m r l' 8 k
theorem rwsK_eq {α : Type} (m l : List Nat) : ∀ (r : Nat) (k : List Nat → α), rwsK m l r k = k (rws m l r)
  | 0, _ => rfl
  | r + 1, k => by rw [rwsK, rwsK_eq m l r, row8K_eq]; rfl
def behK {α : Type} (h B : List Nat) (c : Nat) (last : Bool) (k : List Nat → α) : α :=
  frc (nms (fun j => B.getD j 0) 64) fun m => frc (spr h c last) fun v => rwsK m v 10 fun V => frc (mkl 8 fun i => h.getD i 0 ^^^ (V.getD i 0 ^^^ V.getD (8 + i) 0)) k
theorem behK_eq {α : Type} (h B : List Nat) (c : Nat) (last : Bool) (k : List Nat → α) : behK h B c last k = k (beh h (fun j => B.getD j 0) c last) := by
  unfold behK
  rw [frc_eq, frc_eq, rwsK_eq, frc_eq]
  rfl
theorem beh_is {h B R : List Nat} {c : Nat} {last : Bool} (hb : behK h B c last (fun r => r == R) = true) : beh h (fun j => B.getD j 0) c last = R := by
  rw [behK_eq] at hb
  exact eq_of_beq hb
/-- A text of one block, without a key. -/
theorem one_block {s : ByteArray} {B H R : List Nat} {n : Nat} (hs : s.size ≤ 64) (hB : cutB s = B) (hH : bg 0 n = H) (h : behK H B s.size true (fun r => r == R) = true) : blaT ⟨#[]⟩ s n = (told R).extract 0 n := by
  have h0 : (⟨#[]⟩ : ByteArray).size = 0 := rfl
  have hr : (cutR s).size = 0 := by rw [cutR_size]; omega
  have e : tk ⟨#[]⟩ s (bg 0 n) = R := by
    unfold tk
    rw [h0, hH, beq_self_eq_true, cond_true, tkn_none s.size H (cutB s) hr, hB]
    exact beh_is h
  unfold blaT
  rw [h0, e]
def hI : List Nat := [1795745351, 3144134277, 1013904242, 2773480762, 1359893119, 2600822924, 528734635, 1541459225]
def k1 : ByteArray := ⟨#[97, 98, 99]⟩
def v1 : ByteArray := ⟨#[80, 140, 94, 140, 50, 124, 20, 226, 225, 167, 43, 163, 78, 235, 69, 47, 55, 69, 139, 32, 158, 214, 58, 41, 77, 153, 155, 76, 134, 103, 89, 130]⟩
def b1 : List Nat := [97, 98, 99, 0, 0, 0, 0, 0, 0, 0, 0, 0, 0, 0, 0, 0, 0, 0, 0, 0, 0, 0, 0, 0, 0, 0, 0, 0, 0, 0, 0, 0, 0, 0, 0, 0, 0, 0, 0, 0, 0, 0, 0, 0, 0, 0, 0, 0, 0, 0, 0, 0, 0, 0, 0, 0, 0, 0, 0, 0, 0, 0, 0, 0]
def r1 : List Nat := [2355006544, 3792993330, 2737547233, 793111374, 545998135, 691721886, 1285265741, 2186897286]
theorem bla_1 : blaT ⟨#[]⟩ k1 32 = v1 := (one_block (s := k1) (B := b1) (H := hI) (R := r1) (by decide) (by decide +kernel) (by decide +kernel) (by decide +kernel)).trans (by decide +kernel)
def k2 : ByteArray := ⟨#[]⟩
def v2 : ByteArray := ⟨#[105, 33, 122, 48, 121, 144, 128, 148, 225, 17, 33, 208, 66, 53, 74, 124, 31, 85, 182, 72, 44, 161, 165, 30, 27, 37, 13, 253, 30, 208, 238, 249]⟩
def b2 : List Nat := [0, 0, 0, 0, 0, 0, 0, 0, 0, 0, 0, 0, 0, 0, 0, 0, 0, 0, 0, 0, 0, 0, 0, 0, 0, 0, 0, 0, 0, 0, 0, 0, 0, 0, 0, 0, 0, 0, 0, 0, 0, 0, 0, 0, 0, 0, 0, 0, 0, 0, 0, 0, 0, 0, 0, 0, 0, 0, 0, 0, 0, 0, 0, 0]
def r2 : List Nat := [813310313, 2491453561, 3491828193, 2085238082, 1219908895, 514171180, 4245497115, 4193177630]
theorem bla_2 : blaT ⟨#[]⟩ k2 32 = v2 := (one_block (s := k2) (B := b2) (H := hI) (R := r2) (by decide) (by decide +kernel) (by decide +kernel) (by decide +kernel)).trans (by decide +kernel)
end Go.Proofs.YtgfcinlhhofllaaDoor.bla
