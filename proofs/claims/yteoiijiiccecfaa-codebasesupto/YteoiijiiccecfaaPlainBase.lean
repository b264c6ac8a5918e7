/-
  PLAIN MATHEMATICS OF package code: what Base, Unbase are as functions of lists of bytes, and that each undoes the other. No program is named here.
-/
import Derived.Test.YteoiijiiccecfaaPlainHex
namespace Go.Proofs.Yteoiijiiccecfaa
open Go.RowKit

/-! ### The signs -/
def baseTab : List UInt8 := [65, 66, 67, 68, 69, 70, 71, 72, 73, 74, 75, 76, 77, 78, 79, 80, 81, 82, 83, 84, 85, 86, 87, 88, 89, 90, 97, 98, 99, 100, 101, 102, 103, 104, 105, 106, 107, 108, 109, 110, 111, 112, 113, 114, 115, 116, 117, 118, 119, 120, 121, 122, 48, 49, 50, 51, 52, 53, 54, 55, 56, 57, 43, 47]
def sgn (n : Nat) : UInt8 := baseTab.getD n 0
def sg (n : Nat) : Int := ((sgn n).toNat : Int)
def bval (c : Int) : Int := if 65 ≤ c ∧ c ≤ 90 then c - 65 else if 97 ≤ c ∧ c ≤ 122 then c - 97 + 26 else if 48 ≤ c ∧ c ≤ 57 then c - 48 + 52 else if c = 43 then 62 else if c = 47 then 63 else 0
def bok (c : Int) : Bool := decide ((65 ≤ c ∧ c ≤ 90) ∨ (97 ≤ c ∧ c ≤ 122) ∨ (48 ≤ c ∧ c ≤ 57) ∨ c = 43 ∨ c = 47)
theorem bval_bd (c : Int) : 0 ≤ bval c ∧ bval c ≤ 63 := by unfold bval; split <;> (try split) <;> (try split) <;> (try split) <;> (try split) <;> omega
theorem sgn_ok : ∀ n, n < 64 → bok (sgn n).toNat = true ∧ bval (sgn n).toNat = n := by decide +kernel
theorem sgn_bval (c : UInt8) (h : bok c.toNat = true) : sgn (bval c.toNat).toNat = c := by
  have key : ∀ n, n < 256 → bok (UInt8.ofNat n).toNat = true → sgn (bval (UInt8.ofNat n).toNat).toNat = UInt8.ofNat n := by decide +kernel
  have := key c.toNat c.toNat_lt
  simpa using this (by simpa using h)
theorem bok_pad : bok (61 : UInt8).toNat = false := by decide
theorem sgn_inj (m n : Nat) (hm : m < 64) (hn : n < 64) (h : sgn m = sgn n) : m = n := by
  have h1 := (sgn_ok m hm).2
  have h2 := (sgn_ok n hn).2
  rw [h] at h1
  omega
theorem sgn_lt (n : Nat) : 0 ≤ sg n ∧ sg n ≤ 255 := by
  have := (sgn n).toNat_lt
  unfold sg; omega
theorem tabAt : ∀ (n : Nat) (h : n < (⟨#[65, 66, 67, 68, 69, 70, 71, 72, 73, 74, 75, 76, 77, 78, 79, 80, 81, 82, 83, 84, 85, 86, 87, 88, 89, 90, 97, 98, 99, 100, 101, 102, 103, 104, 105, 106, 107, 108, 109, 110, 111, 112, 113, 114, 115, 116, 117, 118, 119, 120, 121, 122, 48, 49, 50, 51, 52, 53, 54, 55, 56, 57, 43, 47]⟩ : ByteArray).size), (((⟨#[65, 66, 67, 68, 69, 70, 71, 72, 73, 74, 75, 76, 77, 78, 79, 80, 81, 82, 83, 84, 85, 86, 87, 88, 89, 90, 97, 98, 99, 100, 101, 102, 103, 104, 105, 106, 107, 108, 109, 110, 111, 112, 113, 114, 115, 116, 117, 118, 119, 120, 121, 122, 48, 49, 50, 51, 52, 53, 54, 55, 56, 57, 43, 47]⟩ : ByteArray)[n]'h).toNat : Int) = sg n := by
  decide +kernel

/-! ### Base -/
def quad (x y z : Nat) : List UInt8 := [sgn (x / 4), sgn (x % 4 * 16 + y / 16), sgn (y % 16 * 4 + z / 64), sgn (z % 64)]
def baseL : List UInt8 → List UInt8
  | [] => []
  | [x] => [sgn (x.toNat / 4), sgn (x.toNat % 4 * 16), 61, 61]
  | [x, y] => [sgn (x.toNat / 4), sgn (x.toNat % 4 * 16 + y.toNat / 16), sgn (y.toNat % 16 * 4), 61]
  | x :: y :: z :: l => quad x.toNat y.toNat z.toNat ++ baseL l
theorem baseL_append (a b : List UInt8) (h : a.length % 3 = 0) : baseL (a ++ b) = baseL a ++ baseL b := by
  induction a using baseL.induct with
  | case1 => simp [baseL]
  | case2 x => simp at h
  | case3 x y => simp at h
  | case4 x y z l ih =>
    simp only [List.length_cons] at h
    simp [baseL, ih (by omega)]
theorem baseL_length (a : List UInt8) : (baseL a).length = (a.length + 2) / 3 * 4 := by
  induction a using baseL.induct with
  | case1 => rfl
  | case2 x => simp [baseL]
  | case3 x y => simp [baseL]
  | case4 x y z l ih =>
    simp only [baseL, quad, List.length_append, List.length_cons, List.length_nil, ih]
    omega

/-! ### The bits that are held -/
/-- One sign more, of value v: what has come out, what is held, and how many bits that is. -/
def stepB (st : List UInt8 × Nat × Nat) (v : Nat) : List UInt8 × Nat × Nat :=
  if 8 ≤ st.2.2 + 6 then (st.1 ++ [UInt8.ofNat ((st.2.1 * 64 + v) / 2 ^ (st.2.2 + 6 - 8))], (st.2.1 * 64 + v) % 2 ^ (st.2.2 + 6 - 8), st.2.2 + 6 - 8) else (st.1, st.2.1 * 64 + v, st.2.2 + 6)
def foldB (l : List UInt8) : List UInt8 × Nat × Nat := l.foldl (fun st c => stepB st (bval c.toNat).toNat) ([], 0, 0)
def okB (l : List UInt8) : Bool := l.all fun c => bok c.toNat
def Inv (st : List UInt8 × Nat × Nat) : Prop := (st.2.2 = 0 ∧ st.2.1 = 0) ∨ (st.2.2 = 6 ∧ st.2.1 < 64) ∨ (st.2.2 = 4 ∧ st.2.1 < 16) ∨ (st.2.2 = 2 ∧ st.2.1 < 4)
theorem step_inv (st : List UInt8 × Nat × Nat) (v : Nat) (hv : v < 64) (h : Inv st) : Inv (stepB st v) := by
  obtain ⟨o, d, c⟩ := st
  rcases h with ⟨h1, h2⟩ | ⟨h1, h2⟩ | ⟨h1, h2⟩ | ⟨h1, h2⟩ <;> (simp only at h1 h2; subst h1; simp [stepB, Inv]; omega)
theorem foldB_snoc (l : List UInt8) (c : UInt8) : foldB (l ++ [c]) = stepB (foldB l) (bval c.toNat).toNat := by
  simp [foldB]
theorem foldB_inv (l : List UInt8) : Inv (foldB l) := by
  unfold foldB
  suffices ∀ st, Inv st → Inv (l.foldl (fun st c => stepB st (bval c.toNat).toNat) st) from this _ (.inl ⟨rfl, rfl⟩)
  induction l with
  | nil => exact fun st h => h
  | cons c l ih => exact fun st h => ih _ (step_inv _ _ (by have := bval_bd c.toNat; omega) h)
theorem foldB_from (l : List UInt8) : ∀ (o x : List UInt8) (d c : Nat), l.foldl (fun st c => stepB st (bval c.toNat).toNat) (o ++ x, d, c) = (o ++ (l.foldl (fun st c => stepB st (bval c.toNat).toNat) (x, d, c)).1, (l.foldl (fun st c => stepB st (bval c.toNat).toNat) (x, d, c)).2) := by
  induction l with
  | nil => intros; rfl
  | cons a l ih =>
    intro o x d c
    simp only [List.foldl_cons]
    have : stepB (o ++ x, d, c) (bval a.toNat).toNat = (o ++ (stepB (x, d, c) (bval a.toNat).toNat).1, (stepB (x, d, c) (bval a.toNat).toNat).2) := by
      simp only [stepB]; split <;> simp
    rw [this, ih]
/-- Four signs: three bytes, and nothing is held. -/
def three (a b c d : Nat) : List UInt8 := [UInt8.ofNat (a * 4 + b / 16), UInt8.ofNat (b % 16 * 16 + c / 4), UInt8.ofNat (c % 4 * 64 + d)]
theorem foldB_four (a b c d : UInt8) (l : List UInt8) : foldB (a :: b :: c :: d :: l) = (three (bval a.toNat).toNat (bval b.toNat).toNat (bval c.toNat).toNat (bval d.toNat).toNat ++ (foldB l).1, (foldB l).2) := by
  have hs : [a, b, c, d].foldl (fun st c => stepB st (bval c.toNat).toNat) ([], 0, 0) = (three (bval a.toNat).toNat (bval b.toNat).toNat (bval c.toNat).toNat (bval d.toNat).toNat, 0, 0) := by
    have ba : (bval a.toNat).toNat < 64 := by have := bval_bd a.toNat; omega
    have bb : (bval b.toNat).toNat < 64 := by have := bval_bd b.toNat; omega
    have bc : (bval c.toNat).toNat < 64 := by have := bval_bd c.toNat; omega
    have bd : (bval d.toNat).toNat < 64 := by have := bval_bd d.toNat; omega
    simp only [List.foldl_cons, List.foldl_nil]
    generalize (bval a.toNat).toNat = a' at *
    generalize (bval b.toNat).toNat = b' at *
    generalize (bval c.toNat).toNat = c' at *
    generalize (bval d.toNat).toNat = d' at *
    have e1 : (a' * 64 + b') / 16 = a' * 4 + b' / 16 := by omega
    have e2 : (a' * 64 + b') % 16 = b' % 16 := by omega
    have e3 : (b' % 16 * 64 + c') / 4 = b' % 16 * 16 + c' / 4 := by omega
    have e4 : (b' % 16 * 64 + c') % 4 = c' % 4 := by omega
    simp [stepB, three, e1, e2, e3, e4, Nat.mod_one]
  have h := foldB_from l (three (bval a.toNat).toNat (bval b.toNat).toNat (bval c.toNat).toNat (bval d.toNat).toNat) [] 0 0
  rw [List.append_nil] at h
  show (([a, b, c, d] ++ l).foldl _ _) = _
  rw [List.foldl_append, hs, h]
  rfl
theorem three_quad (a b c d : UInt8) (ha : bok a.toNat = true) (hb : bok b.toNat = true) (hc : bok c.toNat = true) (hd : bok d.toNat = true) (o : List UInt8) :
    baseL (three (bval a.toNat).toNat (bval b.toNat).toNat (bval c.toNat).toNat (bval d.toNat).toNat ++ o) = [a, b, c, d] ++ baseL o := by
  have ba : (bval a.toNat).toNat < 64 := by have := bval_bd a.toNat; omega
  have bb : (bval b.toNat).toNat < 64 := by have := bval_bd b.toNat; omega
  have bc : (bval c.toNat).toNat < 64 := by have := bval_bd c.toNat; omega
  have bd : (bval d.toNat).toNat < 64 := by have := bval_bd d.toNat; omega
  have sa := sgn_bval a ha
  have sb := sgn_bval b hb
  have sc := sgn_bval c hc
  have sd := sgn_bval d hd
  generalize (bval a.toNat).toNat = a' at *
  generalize (bval b.toNat).toNat = b' at *
  generalize (bval c.toNat).toNat = c' at *
  generalize (bval d.toNat).toNat = d' at *
  have z : UInt8.size = 256 := rfl
  simp only [three, List.cons_append, List.nil_append, baseL, quad]
  rw [UInt8.toNat_ofNat_of_lt' (by omega), UInt8.toNat_ofNat_of_lt' (by omega), UInt8.toNat_ofNat_of_lt' (by omega)]
  rw [show (a' * 4 + b' / 16) / 4 = a' from by omega, show (a' * 4 + b' / 16) % 4 * 16 + (b' % 16 * 16 + c' / 4) / 16 = b' from by omega,
    show (b' % 16 * 16 + c' / 4) % 16 * 4 + (c' % 4 * 64 + d') / 64 = c' from by omega, show (c' % 4 * 64 + d') % 64 = d' from by omega, sa, sb, sc, sd]

/-! ### When what came out is what was told -/
def pad (p : Nat) : List UInt8 := List.replicate p 61
/-- THE KEY: signs that all are signs, and up to two pads behind them, are Base of what came out of them just if there are four, eight .. of both, and nothing is held. -/
theorem base_key (u : List UInt8) : ∀ p, p ≤ 2 → okB u = true → (baseL (foldB u).1 = u ++ pad p ↔ ((u.length + p) % 4 = 0 ∧ (foldB u).2.1 = 0)) := by
  match u with
  | [] =>
    intro p hp _
    rcases (show p = 0 ∨ p = 1 ∨ p = 2 by omega) with rfl | rfl | rfl <;> simp [foldB, baseL, pad]
  | [a] =>
    intro p hp _
    rcases (show p = 0 ∨ p = 1 ∨ p = 2 by omega) with rfl | rfl | rfl <;> simp [foldB, baseL, pad, stepB]
  | [a, b] =>
    intro p hp hok
    simp only [okB, List.all_cons, List.all_nil, Bool.and_true, Bool.and_eq_true] at hok
    have ba : (bval a.toNat).toNat < 64 := by have := bval_bd a.toNat; omega
    have bb : (bval b.toNat).toNat < 64 := by have := bval_bd b.toNat; omega
    have sa := sgn_bval a hok.1
    have sb := sgn_bval b hok.2
    have z : UInt8.size = 256 := rfl
    have hf : foldB [a, b] = ([UInt8.ofNat ((bval a.toNat).toNat * 4 + (bval b.toNat).toNat / 16)], (bval b.toNat).toNat % 16, 4) := by
      simp only [foldB, List.foldl_cons, List.foldl_nil]
      generalize (bval a.toNat).toNat = a' at *
      generalize (bval b.toNat).toNat = b' at *
      have e1 : (a' * 64 + b') / 16 = a' * 4 + b' / 16 := by omega
      have e2 : (a' * 64 + b') % 16 = b' % 16 := by omega
      simp [stepB, e1, e2]
    rw [hf]
    generalize (bval a.toNat).toNat = a' at *
    generalize (bval b.toNat).toNat = b' at *
    simp only [baseL]
    rw [UInt8.toNat_ofNat_of_lt' (by omega), show (a' * 4 + b' / 16) / 4 = a' from by omega, show (a' * 4 + b' / 16) % 4 * 16 = b' / 16 * 16 from by omega, sa]
    have hi : sgn (b' / 16 * 16) = b ↔ b' % 16 = 0 := by
      rw [← sb]
      constructor
      · intro h
        have := sgn_inj _ _ (by omega) bb h
        omega
      · intro h
        rw [show b' / 16 * 16 = b' from by omega]
    rcases (show p = 0 ∨ p = 1 ∨ p = 2 by omega) with rfl | rfl | rfl <;> simp [pad, hi]
  | [a, b, c] =>
    intro p hp hok
    simp only [okB, List.all_cons, List.all_nil, Bool.and_true, Bool.and_eq_true] at hok
    have ba : (bval a.toNat).toNat < 64 := by have := bval_bd a.toNat; omega
    have bb : (bval b.toNat).toNat < 64 := by have := bval_bd b.toNat; omega
    have bc : (bval c.toNat).toNat < 64 := by have := bval_bd c.toNat; omega
    have sa := sgn_bval a hok.1
    have sb := sgn_bval b hok.2.1
    have sc := sgn_bval c hok.2.2
    have z : UInt8.size = 256 := rfl
    have hf : foldB [a, b, c] = ([UInt8.ofNat ((bval a.toNat).toNat * 4 + (bval b.toNat).toNat / 16), UInt8.ofNat ((bval b.toNat).toNat % 16 * 16 + (bval c.toNat).toNat / 4)], (bval c.toNat).toNat % 4, 2) := by
      simp only [foldB, List.foldl_cons, List.foldl_nil]
      generalize (bval a.toNat).toNat = a' at *
      generalize (bval b.toNat).toNat = b' at *
      generalize (bval c.toNat).toNat = c' at *
      have e1 : (a' * 64 + b') / 16 = a' * 4 + b' / 16 := by omega
      have e2 : (a' * 64 + b') % 16 = b' % 16 := by omega
      have e3 : (b' % 16 * 64 + c') / 4 = b' % 16 * 16 + c' / 4 := by omega
      have e4 : (b' % 16 * 64 + c') % 4 = c' % 4 := by omega
      simp [stepB, e1, e2, e3, e4]
    rw [hf]
    generalize (bval a.toNat).toNat = a' at *
    generalize (bval b.toNat).toNat = b' at *
    generalize (bval c.toNat).toNat = c' at *
    simp only [baseL]
    rw [UInt8.toNat_ofNat_of_lt' (by omega), UInt8.toNat_ofNat_of_lt' (by omega), show (a' * 4 + b' / 16) / 4 = a' from by omega, show (a' * 4 + b' / 16) % 4 * 16 + (b' % 16 * 16 + c' / 4) / 16 = b' from by omega, show (b' % 16 * 16 + c' / 4) % 16 * 4 = c' / 4 * 4 from by omega, sa, sb]
    have hi : sgn (c' / 4 * 4) = c ↔ c' % 4 = 0 := by
      rw [← sc]
      constructor
      · intro h
        have := sgn_inj _ _ (by omega) bc h
        omega
      · intro h
        rw [show c' / 4 * 4 = c' from by omega]
    rcases (show p = 0 ∨ p = 1 ∨ p = 2 by omega) with rfl | rfl | rfl <;> simp [pad, hi]
  | a :: b :: c :: d :: l =>
    intro p hp hok
    simp only [okB, List.all_cons, Bool.and_eq_true] at hok
    obtain ⟨ha, hb, hc, hd, hl⟩ := hok
    have ih := base_key l p hp hl
    rw [foldB_four]
    simp only
    rw [three_quad a b c d ha hb hc hd]
    simp only [List.cons_append, List.nil_append, List.cons.injEq, true_and, List.length_cons]
    rw [ih]
    constructor
    · rintro ⟨h1, h2⟩; exact ⟨by omega, h2⟩
    · rintro ⟨h1, h2⟩; exact ⟨by omega, h2⟩

/-! ### The pads -/
/-- How many pads are taken off: two at most. -/
def padN (s : ByteArray) : Nat := if 1 ≤ s.size ∧ PlainAid.bt s (s.size - 1) = 61 then (if 2 ≤ s.size ∧ PlainAid.bt s (s.size - 2) = 61 then 2 else 1) else 0
theorem padN_le (s : ByteArray) : padN s ≤ 2 ∧ padN s ≤ s.size := by unfold padN; split <;> (try split) <;> omega
/-- What is left. -/
def bare (s : ByteArray) : ByteArray := s.extract 0 (s.size - padN s)
theorem bare_size (s : ByteArray) : (bare s).size = s.size - padN s := by
  unfold bare; rw [ByteArray.size_extract]; omega
theorem bt_get (s : ByteArray) (k : Nat) (h : k < s.size) : PlainAid.bt s k = ((s.data.toList[k]'(by simpa using h)).toNat : Int) := by
  rw [← PlainAid.get_bt s k h]
  rfl
theorem bt_61 (s : ByteArray) (k : Nat) (h : k < s.size) (e : PlainAid.bt s k = 61) : s.data.toList[k]'(by simpa using h) = 61 := by
  rw [bt_get s k h] at e
  apply UInt8.toNat_inj.1
  have : (61 : UInt8).toNat = 61 := rfl
  omega
theorem bare_list (s : ByteArray) : s.data.toList = (bare s).data.toList ++ pad (padN s) := by
  have hl : s.data.toList.length = s.size := by simp
  have e : (bare s).data.toList = s.data.toList.take (s.size - padN s) := by
    unfold bare
    rw [ByteArray.data_extract, Array.toList_extract, List.extract]
    simp
  rw [e]
  have hp := padN_le s
  have hd : s.data.toList.drop (s.size - padN s) = pad (padN s) := by
    unfold padN
    split
    · rename_i h1
      split
      · rename_i h2
        have a1 := bt_61 s _ (by omega) h1.2
        have a2 := bt_61 s _ (by omega) h2.2
        rw [List.drop_eq_getElem_cons (by rw [hl]; omega), a2, show s.size - 2 + 1 = s.size - 1 from by omega, List.drop_eq_getElem_cons (by rw [hl]; omega), a1, List.drop_of_length_le (by rw [hl]; omega)]
        rfl
      · have a1 := bt_61 s _ (by omega) h1.2
        rw [List.drop_eq_getElem_cons (by rw [hl]; omega), a1, List.drop_of_length_le (by rw [hl]; omega)]
        rfl
    · rw [List.drop_of_length_le (by rw [hl]; omega)]
      rfl
  rw [← hd, List.take_append_drop]
theorem ok_last (u : List UInt8) (h : okB u = true) (k : Nat) (hk : k < u.length) : (u[k].toNat : Int) ≠ 61 := by
  intro e
  have h1 := List.all_eq_true.1 h u[k] (List.getElem_mem hk)
  rw [e] at h1
  exact absurd h1 (by decide)
theorem padN_of (s : ByteArray) (u : List UInt8) (p : Nat) (hp : p ≤ 2) (hu : okB u = true) (e : s.data.toList = u ++ pad p) : padN s = p := by
  have hl : s.size = u.length + p := by
    have := congrArg List.length e
    simpa [pad] using this
  have hin : ∀ k, k < u.length → PlainAid.bt s k ≠ 61 := fun k hk => by
    rw [bt_get s k (by omega)]
    simp only [e, List.getElem_append_left hk]
    exact ok_last u hu k hk
  have hout : ∀ k, u.length ≤ k → k < s.size → PlainAid.bt s k = 61 := fun k hk hs => by
    rw [bt_get s k hs]
    simp only [e, List.getElem_append_right hk]
    simp [pad]
  unfold padN
  rcases (show p = 0 ∨ p = 1 ∨ p = 2 by omega) with rfl | rfl | rfl
  · rw [if_neg]
    rintro ⟨h1, h2⟩
    exact hin _ (by omega) h2
  · rw [if_pos ⟨by omega, hout _ (by omega) (by omega)⟩, if_neg]
    rintro ⟨h1, h2⟩
    exact hin _ (by omega) h2
  · rw [if_pos ⟨by omega, hout _ (by omega) (by omega)⟩, if_pos ⟨by omega, hout _ (by omega) (by omega)⟩]
theorem bare_of (s : ByteArray) (u : List UInt8) (p : Nat) (hp : p ≤ 2) (hu : okB u = true) (e : s.data.toList = u ++ pad p) : (bare s).data.toList = u := by
  have h := bare_list s
  rw [padN_of s u p hp hu e, e] at h
  exact (List.append_cancel_right h).symm

/-! ### Base, Unbase of texts -/
def baseB (s : ByteArray) : ByteArray := ⟨(baseL s.data.toList).toArray⟩
def unbaseB (s : ByteArray) : Option ByteArray :=
  if okB (bare s).data.toList = true ∧ s.size % 4 = 0 ∧ (foldB (bare s).data.toList).2.1 = 0 then some ⟨(foldB (bare s).data.toList).1.toArray⟩ else none
theorem baseB_size (s : ByteArray) : (baseB s).size = (s.size + 2) / 3 * 4 := by
  show (baseL s.data.toList).toArray.size = _
  rw [List.size_toArray, baseL_length]
  simp
theorem bytes_of (s : ByteArray) (l : List UInt8) (h : s.data.toList = l) : (⟨l.toArray⟩ : ByteArray) = s := by
  obtain ⟨d⟩ := s
  subst h
  rfl
theorem base_told (s : ByteArray) (h : okB (bare s).data.toList = true) : baseB ⟨(foldB (bare s).data.toList).1.toArray⟩ = s ↔ (s.size % 4 = 0 ∧ (foldB (bare s).data.toList).2.1 = 0) := by
  have hk := base_key (bare s).data.toList (padN s) (padN_le s).1 h
  have hl : (bare s).data.toList.length + padN s = s.size := by
    have := congrArg List.length (bare_list s)
    simpa [pad] using this.symm
  rw [hl] at hk
  rw [← hk, ← bare_list s]
  constructor
  · intro e
    have := congrArg (fun x : ByteArray => x.data.toList) e
    simpa [baseB] using this
  · intro e
    exact bytes_of s _ e.symm
theorem baseB_unbaseB (s v : ByteArray) (h : unbaseB s = some v) : baseB v = s := by
  unfold unbaseB at h
  split at h
  · rename_i hc
    cases h
    exact (base_told s hc.1).2 hc.2
  · cases h
theorem base_comes (l : List UInt8) : ∃ u p, p ≤ 2 ∧ baseL l = u ++ pad p ∧ okB u = true ∧ (foldB u).1 = l ∧ (foldB u).2.1 = 0 := by
  have z : UInt8.size = 256 := rfl
  match l with
  | [] => exact ⟨[], 0, by omega, rfl, rfl, rfl, rfl⟩
  | [x] =>
    have hx := x.toNat_lt
    have o1 := sgn_ok (x.toNat / 4) (by omega)
    have o2 := sgn_ok (x.toNat % 4 * 16) (by omega)
    refine ⟨[sgn (x.toNat / 4), sgn (x.toNat % 4 * 16)], 2, by omega, by simp [baseL, pad], by simp [okB, o1.1, o2.1], ?_, ?_⟩
    all_goals simp only [foldB, List.foldl_cons, List.foldl_nil, o1.2, o2.2, Int.toNat_natCast]
    · simp [stepB, show (x.toNat / 4 * 64 + x.toNat % 4 * 16) / 16 = x.toNat from by omega]
    · simp [stepB]; omega
  | [x, y] =>
    have hx := x.toNat_lt
    have hy := y.toNat_lt
    have o1 := sgn_ok (x.toNat / 4) (by omega)
    have o2 := sgn_ok (x.toNat % 4 * 16 + y.toNat / 16) (by omega)
    have o3 := sgn_ok (y.toNat % 16 * 4) (by omega)
    refine ⟨[sgn (x.toNat / 4), sgn (x.toNat % 4 * 16 + y.toNat / 16), sgn (y.toNat % 16 * 4)], 1, by omega, by simp [baseL, pad], by simp [okB, o1.1, o2.1, o3.1], ?_, ?_⟩
    all_goals simp only [foldB, List.foldl_cons, List.foldl_nil, o1.2, o2.2, o3.2, Int.toNat_natCast]
    · simp [stepB, show (x.toNat / 4 * 64 + (x.toNat % 4 * 16 + y.toNat / 16)) / 16 = x.toNat from by omega, show ((x.toNat / 4 * 64 + (x.toNat % 4 * 16 + y.toNat / 16)) % 16 * 64 + y.toNat % 16 * 4) / 4 = y.toNat from by omega]
    · simp [stepB]; omega
  | x :: y :: z :: l =>
    have hx := x.toNat_lt
    have hy := y.toNat_lt
    have hz := z.toNat_lt
    have o1 := sgn_ok (x.toNat / 4) (by omega)
    have o2 := sgn_ok (x.toNat % 4 * 16 + y.toNat / 16) (by omega)
    have o3 := sgn_ok (y.toNat % 16 * 4 + z.toNat / 64) (by omega)
    have o4 := sgn_ok (z.toNat % 64) (by omega)
    obtain ⟨u, p, h1, h2, h3, h4, h5⟩ := base_comes l
    refine ⟨quad x.toNat y.toNat z.toNat ++ u, p, h1, by simp [baseL, h2], ?_, ?_, ?_⟩
    · simp only [okB] at h3
      simp [okB, quad, o1.1, o2.1, o3.1, o4.1]
      simpa using h3
    all_goals
      simp only [quad, List.cons_append, List.nil_append]
      rw [foldB_four]
      simp only [o1.2, o2.2, o3.2, o4.2, Int.toNat_natCast, h4, h5, three, List.cons_append, List.nil_append]
    · rw [show x.toNat / 4 * 4 + (x.toNat % 4 * 16 + y.toNat / 16) / 16 = x.toNat from by omega, show (x.toNat % 4 * 16 + y.toNat / 16) % 16 * 16 + (y.toNat % 16 * 4 + z.toNat / 64) / 4 = y.toNat from by omega, show (y.toNat % 16 * 4 + z.toNat / 64) % 4 * 64 + z.toNat % 64 = z.toNat from by omega]
      simp
theorem unbaseB_baseB (s : ByteArray) : unbaseB (baseB s) = some s := by
  obtain ⟨u, p, h1, h2, h3, h4, h5⟩ := base_comes s.data.toList
  have e : (baseB s).data.toList = u ++ pad p := by rw [← h2]; rfl
  have hb := bare_of (baseB s) u p h1 h3 e
  unfold unbaseB
  rw [hb, if_pos ⟨h3, by rw [baseB_size]; omega, h5⟩, h4, bytes_of s _ rfl]
theorem unbaseB_size (t v : ByteArray) (h : unbaseB t = some v) : v.size ≤ t.size := by
  have := baseB_size v
  rw [baseB_unbaseB t v h] at this
  omega
theorem baseB_append (a b : ByteArray) (h : a.size % 3 = 0) : baseB (a ++ b) = baseB a ++ baseB b := by
  have e : (a ++ b).data.toList = a.data.toList ++ b.data.toList := by simp
  unfold baseB
  rw [e, baseL_append _ _ (by simpa using h)]
  apply ByteArray.ext
  simp

/-! ### Base, three bytes at a time -/
theorem take_step (s : ByteArray) (k : Nat) (h : 3 * k + 2 < s.size) : s.data.toList.take (3 * (k + 1)) = s.data.toList.take (3 * k) ++ [s[3 * k]'(by omega), s[3 * k + 1]'(by omega), s[3 * k + 2]'(by omega)] := by
  rw [show 3 * (k + 1) = 3 * k + 1 + 1 + 1 from by omega, List.take_succ_eq_append_getElem (by simpa using h), List.take_succ_eq_append_getElem (by simpa using (show 3 * k + 1 < s.size by omega)), List.take_succ_eq_append_getElem (by simpa using (show 3 * k < s.size by omega))]
  simp
  exact ⟨rfl, rfl, rfl⟩
theorem take_len (s : ByteArray) (n : Nat) (h : n ≤ s.size) : (s.data.toList.take n).length = n := by
  rw [List.length_take, Nat.min_eq_left (by simpa using h)]
theorem cellsOf_append (a b : List UInt8) : cellsOf (a ++ b) = cellsOf a ++ cellsOf b := by simp [cellsOf]
theorem cells_quad (x y z : Int) (x0 : 0 ≤ x) (x1 : x ≤ 255) (y0 : 0 ≤ y) (y1 : y ≤ 255) (z0 : 0 ≤ z) :
    cellsOf (quad x.toNat y.toNat z.toNat) = [Value.int .u8 (sg (x / 4).toNat), Value.int .u8 (sg (x % 4 * 16 + y / 16).toNat), Value.int .u8 (sg (y % 16 * 4 + z / 64).toNat), Value.int .u8 (sg (z % 64).toNat)] := by
  simp only [cellsOf, quad, List.map_cons, List.map_nil, sg]
  rw [show x.toNat / 4 = (x / 4).toNat from by omega, show x.toNat % 4 * 16 + y.toNat / 16 = (x % 4 * 16 + y / 16).toNat from by omega, show y.toNat % 16 * 4 + z.toNat / 64 = (y % 16 * 4 + z / 64).toNat from by omega, show z.toNat % 64 = (z % 64).toNat from by omega]
theorem bt_nat (s : ByteArray) (k : Nat) (h : k < s.size) : (s[k]'h).toNat = (PlainAid.bt s k).toNat := by
  rw [← PlainAid.get_bt s k h]; omega
theorem base_step (s : ByteArray) (k : Nat) (h : 3 * k + 2 < s.size) : cellsOf (baseL (s.data.toList.take (3 * k))) ++ [Value.int .u8 (sg (PlainAid.bt s (3 * k) / 4).toNat), Value.int .u8 (sg (PlainAid.bt s (3 * k) % 4 * 16 + PlainAid.bt s (3 * k + 1) / 16).toNat), Value.int .u8 (sg (PlainAid.bt s (3 * k + 1) % 16 * 4 + PlainAid.bt s (3 * k + 2) / 64).toNat), Value.int .u8 (sg (PlainAid.bt s (3 * k + 2) % 64).toNat)] = cellsOf (baseL (s.data.toList.take (3 * (k + 1)))) := by
  rw [take_step s k h, baseL_append _ _ (by rw [take_len s _ (by omega)]; omega), cellsOf_append]
  congr 1
  simp only [baseL, List.append_nil]
  rw [bt_nat s _ (by omega), bt_nat s _ (by omega), bt_nat s _ (by omega)]
  exact (cells_quad _ _ _ (PlainAid.bt_nonneg _ _) (PlainAid.bt_le _ _) (PlainAid.bt_nonneg _ _) (PlainAid.bt_le _ _) (PlainAid.bt_nonneg _ _)).symm
theorem base_end0 (s : ByteArray) (m : Nat) (h : s.size = 3 * m + 0) : baseL (s.data.toList.take (3 * m)) = baseL s.data.toList := by
  rw [List.take_of_length_le (by simp; omega)]
theorem take_all (s : ByteArray) (n : Nat) (h : n = s.size) : s.data.toList.take n = s.data.toList := List.take_of_length_le (by simp; omega)
theorem base_end1 (s : ByteArray) (m : Nat) (h : s.size = 3 * m + 1) : cellsOf (baseL (s.data.toList.take (3 * m))) ++ [Value.int .u8 (sg (PlainAid.bt s (3 * m) / 4).toNat), Value.int .u8 (sg (PlainAid.bt s (3 * m) % 4 * 16).toNat), Value.int .u8 61, Value.int .u8 61] = cellsOf (baseL s.data.toList) := by
  have e : s.data.toList = s.data.toList.take (3 * m) ++ [s[3 * m]'(by omega)] := by
    have h1 := take_snoc s (3 * m) (by omega)
    rw [take_all s (3 * m + 1) h.symm] at h1
    exact h1
  have e2 : baseL s.data.toList = baseL (s.data.toList.take (3 * m)) ++ baseL [s[3 * m]'(by omega)] := by
    rw [← baseL_append _ _ (by rw [take_len s _ (by omega)]; omega), ← e]
  have x0 := PlainAid.bt_nonneg s (3 * m)
  rw [e2, cellsOf_append]
  congr 1
  simp only [baseL, cellsOf, List.map_cons, List.map_nil, sg]
  rw [bt_nat s _ (by omega), show (PlainAid.bt s (3 * m)).toNat / 4 = (PlainAid.bt s (3 * m) / 4).toNat from by omega, show (PlainAid.bt s (3 * m)).toNat % 4 * 16 = (PlainAid.bt s (3 * m) % 4 * 16).toNat from by omega]
  rfl
theorem base_end2 (s : ByteArray) (m : Nat) (h : s.size = 3 * m + 2) : cellsOf (baseL (s.data.toList.take (3 * m))) ++ [Value.int .u8 (sg (PlainAid.bt s (3 * m) / 4).toNat), Value.int .u8 (sg (PlainAid.bt s (3 * m) % 4 * 16 + PlainAid.bt s (3 * m + 1) / 16).toNat), Value.int .u8 (sg (PlainAid.bt s (3 * m + 1) % 16 * 4).toNat), Value.int .u8 61] = cellsOf (baseL s.data.toList) := by
  have e : s.data.toList = s.data.toList.take (3 * m) ++ [s[3 * m]'(by omega), s[3 * m + 1]'(by omega)] := by
    have h1 := take_snoc s (3 * m + 1) (by omega)
    rw [take_all s (3 * m + 1 + 1) h.symm, take_snoc s (3 * m) (by omega)] at h1
    simpa using h1
  have e2 : baseL s.data.toList = baseL (s.data.toList.take (3 * m)) ++ baseL [s[3 * m]'(by omega), s[3 * m + 1]'(by omega)] := by
    rw [← baseL_append _ _ (by rw [take_len s _ (by omega)]; omega), ← e]
  have x0 := PlainAid.bt_nonneg s (3 * m)
  have y0 := PlainAid.bt_nonneg s (3 * m + 1)
  rw [e2, cellsOf_append]
  congr 1
  simp only [baseL, cellsOf, List.map_cons, List.map_nil, sg]
  rw [bt_nat s _ (by omega), bt_nat s _ (by omega), show (PlainAid.bt s (3 * m)).toNat / 4 = (PlainAid.bt s (3 * m) / 4).toNat from by omega, show (PlainAid.bt s (3 * m)).toNat % 4 * 16 + (PlainAid.bt s (3 * m + 1)).toNat / 16 = (PlainAid.bt s (3 * m) % 4 * 16 + PlainAid.bt s (3 * m + 1) / 16).toNat from by omega, show (PlainAid.bt s (3 * m + 1)).toNat % 16 * 4 = (PlainAid.bt s (3 * m + 1) % 16 * 4).toNat from by omega]
  rfl

/-! ### Unbase, a sign at a time -/
theorem foldB_len (l : List UInt8) : (foldB l).1.length ≤ l.length := by
  unfold foldB
  suffices ∀ st : List UInt8 × Nat × Nat, (l.foldl (fun st c => stepB st (bval c.toNat).toNat) st).1.length ≤ st.1.length + l.length by simpa using this ([], 0, 0)
  induction l with
  | nil => intro st; simp
  | cons c l ih =>
    intro st
    have h1 := ih (stepB st (bval c.toNat).toNat)
    have h2 : (stepB st (bval c.toNat).toNat).1.length ≤ st.1.length + 1 := by unfold stepB; split <;> simp
    simp only [List.foldl_cons, List.length_cons]
    omega
theorem foldB_take (u : ByteArray) (k : Nat) (h : k < u.size) : foldB (u.data.toList.take (k + 1)) = stepB (foldB (u.data.toList.take k)) (bval (PlainAid.bt u k)).toNat := by
  rw [take_snoc u k h, foldB_snoc, PlainAid.get_bt u k h]
theorem okB_take (u : ByteArray) (k : Nat) (h : k < u.size) (h1 : okB (u.data.toList.take k) = true) (h2 : bok (PlainAid.bt u k) = true) : okB (u.data.toList.take (k + 1)) = true := by
  rw [take_snoc u k h]
  rw [← PlainAid.get_bt u k h] at h2
  simp only [okB] at h1
  simp [okB, h2]
  simpa using h1
theorem okB_not (u : ByteArray) (k : Nat) (h : k < u.size) (h2 : bok (PlainAid.bt u k) = false) : okB u.data.toList = false := by
  rw [← PlainAid.get_bt u k h] at h2
  rw [Bool.eq_false_iff]
  intro e
  have := List.all_eq_true.1 e (u[k]) (by rw [show u[k] = u.data.toList[k]'(by simpa using h) from rfl]; exact List.getElem_mem _)
  rw [h2] at this
  cases this
theorem unbase_none (s : ByteArray) (h : okB (bare s).data.toList = false ∨ s.size % 4 ≠ 0 ∨ (foldB (bare s).data.toList).2.1 ≠ 0) : unbaseB s = none := by
  unfold unbaseB
  rw [if_neg]
  rintro ⟨h1, h2, h3⟩
  rcases h with h | h | h
  · rw [h1] at h; cases h
  · exact h h2
  · exact h h3
theorem unbase_some (s : ByteArray) (h1 : okB (bare s).data.toList = true) (h2 : s.size % 4 = 0) (h3 : (foldB (bare s).data.toList).2.1 = 0) : unbaseB s = some ⟨(foldB (bare s).data.toList).1.toArray⟩ := by
  unfold unbaseB
  rw [if_pos ⟨h1, h2, h3⟩]
end Go.Proofs.Yteoiijiiccecfaa
