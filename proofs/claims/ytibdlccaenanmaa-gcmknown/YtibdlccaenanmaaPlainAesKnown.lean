/-
  PLAIN MATHEMATICS OF blocks (AES): three that are well known, reckoned by tables. No program is named here.
-/
import Derived.Test.YtibdlccaenanmaaPlainAes
namespace Go.Proofs.Ytibdlccaenanmaa.aes
open Go.RowKit
open Go.Proofs.Ytibdlccaenanmaa.gal

def DB : Nat := 29022917302579095964124461949858013542724473648904841737866655790348712823699949138665809059499827693295928210552345624834464780210271501149743171624365253056144549668571949842842198483757917673820358967127239403036664387516565901472030220598252923801785930419531446491996907423676964199699175720602385906879680083903485254308339209678552217320138528911198260519229634791478122061432032516214484371579815631342231930258222337365598820086254069662275554781838914121458546816731767637215947301122829170181878307081147920335390477421409014593779889526109499260042632138652359755563522403016050871885672224018346954457600
theorem dbl_base : (List.range 256).all (fun a => gmU 2 a == at8 DB a) = true := by decide +kernel
def sF (a : Nat) : Nat := if a < 256 then at8 SB a else gsub a
def dF (a : Nat) : Nat := if a < 256 then at8 DB a else gm 2 a
def cF (k : Nat) : Nat := if k < 10 then [1, 2, 4, 8, 16, 32, 64, 128, 27, 54].getD k 0 else rc k
theorem sF_eq : gsub = sF := funext fun a => by
  unfold sF
  by_cases h : a < 256
  · rw [if_pos h, gsub_eq a h]
  · rw [if_neg h]
theorem dF_eq : gm 2 = dF := funext fun a => by
  unfold dF
  by_cases h : a < 256
  · rw [if_pos h, gm_u]; exact eq_of_beq (all1 dbl_base a h)
  · rw [if_neg h]
def rcU (m : Nat → Nat → Nat) : Nat → Nat
  | 0 => 1
  | k + 1 => m (rcU m k) 2
theorem rc_u : ∀ k, rc k = rcU gmU k
  | 0 => rfl
  | k + 1 => by rw [rc, rcU, rc_u k, gm_u]
theorem rc_base : (List.range 10).all (fun k => rcU gmU k == [1, 2, 4, 8, 16, 32, 64, 128, 27, 54].getD k 0) = true := by decide +kernel
theorem cF_eq : rc = cF := funext fun k => by
  unfold cF
  by_cases h : k < 10
  · rw [if_pos h, rc_u]; exact eq_of_beq (all1 rc_base k h)
  · rw [if_neg h]
/-- A number, then a list, reckoned ahead of what is made of it. -/
def frcN {α : Type} (n : Nat) (k : Nat → α) : α := Nat.rec (k 0) (fun m _ => k (m + 1)) n
theorem frcN_eq {α : Type} (n : Nat) (k : Nat → α) : frcN n k = k n := by cases n <;> rfl
def frc {α : Type} : List Nat → (List Nat → α) → α
  | [], k => k []
  | a :: l, k => frcN a fun b => frc l fun m => k (b :: m)
theorem frc_eq {α : Type} : ∀ (l : List Nat) (k : List Nat → α), frc l k = k l
  | [], _ => rfl
  | a :: l, k => by rw [frc, frcN_eq, frc_eq l]
def subG (s : Nat → Nat) (n : Nat) (a : List Nat) : List Nat := mk n fun k => s (a.getD k 0)
def stirG (d : Nat → Nat) (a : List Nat) : List Nat := mk 4 fun i => d (a.getD i 0) ^^^ d (a.getD ((i + 1) % 4) 0) ^^^ a.getD ((i + 1) % 4) 0 ^^^ a.getD ((i + 2) % 4) 0 ^^^ a.getD ((i + 3) % 4) 0
def mixG (d : Nat → Nat) (a : List Nat) : List Nat := mk 16 fun i => (stirG d (colN a (i / 4))).getD (i % 4) 0
def lastG (s c : Nat → Nat) (n i : Nat) (l : List Nat) : List Nat :=
  if i % n = 0 then (subG s 4 (turn (word l (i - 1)))).set 0 ((subG s 4 (turn (word l (i - 1)))).getD 0 0 ^^^ c ((i - 1) / n))
  else if n = 8 ∧ i % 8 = 4 then subG s 4 (word l (i - 1)) else word l (i - 1)
/-- m words more, behind l, which has n + j. -/
def expG (s c : Nat → Nat) (n : Nat) : Nat → Nat → List Nat → List Nat
  | 0, _, l => l
  | m + 1, j, l => frc (l ++ xorN 4 (word l j) (lastG s c n (n + j) l)) fun l' => expG s c n m (j + 1) l'
theorem expG_eq (n : Nat) (key : List Nat) : ∀ m j, expG gsub rc n m j (expd n key j) = expd n key (j + m)
  | 0, _ => rfl
  | m + 1, j => by
    rw [expG, frc_eq]
    have e : expd n key j ++ xorN 4 (word (expd n key j) j) (lastG gsub rc n (n + j) (expd n key j)) = expd n key (j + 1) := rfl
    rw [e, expG_eq n key m (j + 1), show j + 1 + m = j + (m + 1) from by omega]
theorem expand_fast (n : Nat) (key : List Nat) : expand n key = expG sF cF n (4 * (n + 7) - n) 0 key := by
  have := expG_eq n key (4 * (n + 7) - n) 0
  rw [Nat.zero_add, sF_eq, cF_eq] at this
  exact this.symm
def encG (s d : Nat → Nat) (E : List Nat) : Nat → Nat → List Nat → List Nat
  | 0, _, b => b
  | m + 1, i, b => frc (subG s 16 b) fun b1 => frc (movN 1 b1) fun b2 => frc (mixG d b2) fun b3 => frc (rk E (i + 1)) fun k => frc (xorN 16 b3 k) fun b4 => encG s d E m (i + 1) b4
theorem encG_eq (E b : List Nat) : ∀ m i, encG gsub (gm 2) E m i (encS E b i) = encS E b (i + m)
  | 0, _ => rfl
  | m + 1, i => by
    rw [encG, frc_eq, frc_eq, frc_eq, frc_eq, frc_eq]
    have e : xorN 16 (mixG (gm 2) (movN 1 (subG gsub 16 (encS E b i)))) (rk E (i + 1)) = encS E b (i + 1) := rfl
    rw [e, encG_eq E b m (i + 1), show i + 1 + m = i + (m + 1) from by omega]
def encF (E : List Nat) (R : Nat) (b : List Nat) : List Nat := frc (xorN 16 b (rk E 0)) fun b0 => frc (encG sF dF E (R - 1) 0 b0) fun b1 => xorN 16 (movN 1 (subG sF 16 b1)) (rk E R)
theorem enc_fast (E : List Nat) (R : Nat) (b : List Nat) : enc E R b = encF E R b := by
  have := encG_eq E b (R - 1) 0
  rw [Nat.zero_add] at this
  unfold encF
  rw [frc_eq, frc_eq, ← sF_eq, ← dF_eq]
  rw [show xorN 16 b (rk E 0) = encS E b 0 from rfl, this]
  rfl
def whole (n : Nat) (key : List Nat) (b : List Nat) : List Nat := frc (expG sF cF n (4 * (n + 7) - n) 0 key) fun E => encF E (n + 6) b
theorem whole_eq (n : Nat) (key b : List Nat) : enc (expand n key) (n + 6) b = whole n key b := by
  unfold whole
  rw [frc_eq, ← expand_fast, enc_fast]
theorem known_1 : (whole 4 [0, 1, 2, 3, 4, 5, 6, 7, 8, 9, 10, 11, 12, 13, 14, 15] [0, 17, 34, 51, 68, 85, 102, 119, 136, 153, 170, 187, 204, 221, 238, 255] == [105, 196, 224, 216, 106, 123, 4, 48, 216, 205, 183, 128, 112, 180, 197, 90]) = true := by decide +kernel
theorem known_2 : (whole 8 [0, 1, 2, 3, 4, 5, 6, 7, 8, 9, 10, 11, 12, 13, 14, 15, 16, 17, 18, 19, 20, 21, 22, 23, 24, 25, 26, 27, 28, 29, 30, 31] [0, 17, 34, 51, 68, 85, 102, 119, 136, 153, 170, 187, 204, 221, 238, 255] == [142, 162, 183, 202, 81, 103, 69, 191, 234, 252, 73, 144, 75, 73, 96, 137]) = true := by decide +kernel
theorem known_3 : (frc (expG sF cF 4 40 0 [43, 126, 21, 22, 40, 174, 210, 166, 171, 247, 21, 136, 9, 207, 79, 60]) (fun E => E.drop 160) == [208, 20, 249, 168, 201, 238, 37, 137, 225, 63, 12, 200, 182, 99, 12, 166]) = true := by decide +kernel
theorem known_1' : enc (expand 4 [0, 1, 2, 3, 4, 5, 6, 7, 8, 9, 10, 11, 12, 13, 14, 15]) 10 [0, 17, 34, 51, 68, 85, 102, 119, 136, 153, 170, 187, 204, 221, 238, 255] = [105, 196, 224, 216, 106, 123, 4, 48, 216, 205, 183, 128, 112, 180, 197, 90] := (whole_eq 4 _ _).trans (eq_of_beq known_1)
theorem known_2' : enc (expand 8 [0, 1, 2, 3, 4, 5, 6, 7, 8, 9, 10, 11, 12, 13, 14, 15, 16, 17, 18, 19, 20, 21, 22, 23, 24, 25, 26, 27, 28, 29, 30, 31]) 14 [0, 17, 34, 51, 68, 85, 102, 119, 136, 153, 170, 187, 204, 221, 238, 255] = [142, 162, 183, 202, 81, 103, 69, 191, 234, 252, 73, 144, 75, 73, 96, 137] := (whole_eq 8 _ _).trans (eq_of_beq known_2)
theorem known_3' : (expand 4 [43, 126, 21, 22, 40, 174, 210, 166, 171, 247, 21, 136, 9, 207, 79, 60]).drop 160 = [208, 20, 249, 168, 201, 238, 37, 137, 225, 63, 12, 200, 182, 99, 12, 166] := by
  have := eq_of_beq known_3
  rw [frc_eq] at this
  rw [expand_fast]
  exact this
end Go.Proofs.Ytibdlccaenanmaa.aes
