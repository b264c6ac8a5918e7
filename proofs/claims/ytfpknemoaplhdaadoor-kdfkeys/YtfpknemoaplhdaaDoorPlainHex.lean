/-
  PLAIN MATHEMATICS OF package code: what Hex, Unhex are as functions of lists of bytes, and that each undoes the other. No program is named here.
-/
import Derived.PlainAid
import Derived.Laws.IdiomStrings
namespace Go.Proofs.YtfpknemoaplhdaaDoor
open Go.RowKit

def cellsOf (l : List UInt8) : List Value := l.map fun b => .int .u8 b.toNat
theorem cells_snoc (l : List UInt8) (n : Int) (h0 : 0 ≤ n) (h1 : n ≤ 255) : cellsOf (l ++ [UInt8.ofNat n.toNat]) = cellsOf l ++ [.int .u8 n] := by
  simp only [cellsOf, List.map_append, List.map_cons, List.map_nil]
  rw [UInt8.toNat_ofNat_of_lt' (by have : UInt8.size = 256 := rfl; omega), Int.toNat_of_nonneg h0]

/-! ### Hex -/
def hexSign (n : Nat) : UInt8 := if n < 10 then UInt8.ofNat (48 + n) else UInt8.ofNat (87 + n)
def hexL : List UInt8 → List UInt8
  | [] => []
  | c :: l => hexSign (c.toNat / 16) :: hexSign (c.toNat % 16) :: hexL l

theorem hexL_append (a b : List UInt8) : hexL (a ++ b) = hexL a ++ hexL b := by
  induction a with
  | nil => rfl
  | cons c a ih => simp [hexL, ih]
theorem hexL_length (a : List UInt8) : (hexL a).length = 2 * a.length := by
  induction a with
  | nil => rfl
  | cons c a ih => simp [hexL, ih]; omega
theorem take_snoc (s : ByteArray) (k : Nat) (h : k < s.size) : s.data.toList.take (k + 1) = s.data.toList.take k ++ [s[k]] := by
  rw [List.take_succ_eq_append_getElem (by simpa using h)]; rfl

def hexD (n : Nat) : Int := if n < 10 then 48 + n else 87 + n
theorem hexSign_toNat : ∀ (n : Nat), n < 16 → ((hexSign n).toNat : Int) = hexD n := by
  decide +kernel
theorem hexAt : ∀ (n : Nat) (h : n < (⟨#[48, 49, 50, 51, 52, 53, 54, 55, 56, 57, 97, 98, 99, 100, 101, 102]⟩ : ByteArray).size), (((⟨#[48, 49, 50, 51, 52, 53, 54, 55, 56, 57, 97, 98, 99, 100, 101, 102]⟩ : ByteArray)[n]'h).toNat : Int) = hexD n := by
  decide +kernel
theorem hex_step (s : ByteArray) (k : Nat) (h : k < s.size) : cellsOf (hexL (s.data.toList.take k)) ++ [Value.int .u8 (hexD (PlainAid.bt s k / 16).toNat), Value.int .u8 (hexD (PlainAid.bt s k % 16).toNat)] = cellsOf (hexL (s.data.toList.take (k + 1))) := by
  rw [take_snoc s k h, hexL_append]
  have e : PlainAid.bt s k = (s[k].toNat : Int) := (PlainAid.get_bt s k h).symm
  have hl := s[k].toNat_lt
  simp only [hexL, cellsOf, List.map_append, List.map_cons, List.map_nil]
  rw [hexSign_toNat _ (by omega), hexSign_toNat _ (by omega), e]
  congr 3 <;> (congr 2) 

/-! ### Unhex -/
def hv (c : Int) : Int := if 48 ≤ c ∧ c ≤ 57 then c - 48 else if 97 ≤ c ∧ c ≤ 102 then c - 97 + 10 else 0
def hok (c : Int) : Bool := decide ((48 ≤ c ∧ c ≤ 57) ∨ (97 ≤ c ∧ c ≤ 102))
theorem hv_bd (c : Int) : 0 ≤ hv c ∧ hv c ≤ 15 := by unfold hv; split <;> (try split) <;> omega
def unhexL : List UInt8 → Option (List UInt8)
  | [] => some []
  | [_] => none
  | a :: b :: l => if hok a.toNat && hok b.toNat then (unhexL l).map (fun r => UInt8.ofNat (hv a.toNat * 16 + hv b.toNat).toNat :: r) else none

theorem unhexL_append (a b : List UInt8) (h : a.length % 2 = 0) : unhexL (a ++ b) = (unhexL a).bind fun x => (unhexL b).map (x ++ ·) := by
  induction a using unhexL.induct with
  | case1 => simp [unhexL]
  | case2 x => simp at h
  | case3 x y l hc ih =>
    simp only [List.length_cons] at h
    have := ih (by omega)
    simp only [List.cons_append, unhexL, hc, if_true, this]
    cases unhexL l <;> simp
    cases unhexL b <;> simp
  | case4 x y l hc =>
    simp [unhexL, hc]
theorem take_two (s : ByteArray) (k : Nat) (h : 2 * k + 1 < s.size) : s.data.toList = s.data.toList.take (2 * k) ++ (s[2 * k]'(by omega) :: s[2 * k + 1]'(by omega) :: s.data.toList.drop (2 * (k + 1))) := by
  have e1 : s[2 * k + 1]'(by omega) :: s.data.toList.drop (2 * (k + 1)) = s.data.toList.drop (2 * k + 1) := (List.drop_eq_getElem_cons (i := 2 * k + 1) (by simpa using h)).symm
  have e2 : s[2 * k]'(by omega) :: s.data.toList.drop (2 * k + 1) = s.data.toList.drop (2 * k) := (List.drop_eq_getElem_cons (i := 2 * k) (by simpa using (show 2 * k < s.size by omega))).symm
  rw [e1, e2, List.take_append_drop]
theorem take_two' (s : ByteArray) (k : Nat) (h : 2 * k + 1 < s.size) : s.data.toList.take (2 * (k + 1)) = s.data.toList.take (2 * k) ++ [s[2 * k]'(by omega), s[2 * k + 1]'(by omega)] := by
  rw [show 2 * (k + 1) = 2 * k + 1 + 1 from by omega, List.take_succ_eq_append_getElem (by simpa using h), List.take_succ_eq_append_getElem (by simpa using (show 2 * k < s.size by omega))]
  simp
  exact ⟨rfl, rfl⟩
theorem take_even (s : ByteArray) (k : Nat) (h : 2 * k ≤ s.size) : (s.data.toList.take (2 * k)).length % 2 = 0 := by
  rw [List.length_take, Nat.min_eq_left (by simpa using h)]; omega
theorem unhex_ok (s : ByteArray) (k : Nat) (l : List UInt8) (h : 2 * k + 1 < s.size) (hl : unhexL (s.data.toList.take (2 * k)) = some l)
    (ha : hok (PlainAid.bt s (2 * k)) = true) (hb : hok (PlainAid.bt s (2 * k + 1)) = true) :
    unhexL (s.data.toList.take (2 * (k + 1))) = some (l ++ [UInt8.ofNat (hv (PlainAid.bt s (2 * k)) * 16 + hv (PlainAid.bt s (2 * k + 1))).toNat]) := by
  rw [take_two' s k h, unhexL_append _ _ (take_even s k (by omega)), hl]
  rw [← PlainAid.get_bt s (2 * k) (by omega)] at ha ⊢
  rw [← PlainAid.get_bt s (2 * k + 1) (by omega)] at hb ⊢
  simp [unhexL, ha, hb]
theorem unhex_bad (s : ByteArray) (k : Nat) (l : List UInt8) (h : 2 * k + 1 < s.size) (hl : unhexL (s.data.toList.take (2 * k)) = some l)
    (hab : (hok (PlainAid.bt s (2 * k)) && hok (PlainAid.bt s (2 * k + 1))) = false) :
    unhexL s.data.toList = none := by
  rw [take_two s k h, unhexL_append _ _ (take_even s k (by omega)), hl]
  rw [← PlainAid.get_bt s (2 * k) (by omega), ← PlainAid.get_bt s (2 * k + 1) (by omega)] at hab
  simp only [unhexL, hab]
  rfl

theorem u8_join (a b : Int) (h0 : 0 ≤ a) (h1 : a ≤ 15) (h2 : 0 ≤ b) (h3 : b ≤ 15) : bits .or .u8 (a * 16) b = a * 16 + b :=
  bits_join .u8 8 (by decide) wraps_u8 4 (a * 16) b (by omega) (by omega) (by omega) h2 (by omega) (by omega)

theorem unhexL_odd (l : List UInt8) (h : l.length % 2 = 1) : unhexL l = none := by
  induction l using unhexL.induct with
  | case1 => simp at h
  | case2 x => rfl
  | case3 x y l hc ih => simp only [List.length_cons] at h; simp [unhexL, ih (by omega)]
  | case4 x y l hc => simp [unhexL, hc]

/-! ### Each undoes the other -/
theorem hexSign_ok : ∀ n, n < 16 → hok (hexSign n).toNat = true ∧ hv (hexSign n).toNat = n := by decide +kernel
theorem unhexL_hexL (l : List UInt8) : unhexL (hexL l) = some l := by
  induction l with
  | nil => rfl
  | cons c l ih =>
    have hc := c.toNat_lt
    have h1 := hexSign_ok (c.toNat / 16) (by omega)
    have h2 := hexSign_ok (c.toNat % 16) (by omega)
    simp only [hexL, unhexL, h1.1, h2.1, h1.2, h2.2, ih, Bool.and_self, if_true, Option.map_some]
    have e : (((c.toNat / 16 : Nat) : Int) * 16 + ((c.toNat % 16 : Nat) : Int)).toNat = c.toNat := by omega
    rw [e]; simp
theorem hexSign_hv (c : UInt8) (h : hok c.toNat = true) : hexSign (hv c.toNat).toNat = c ∧ (hv c.toNat).toNat < 16 := by
  have key : ∀ n, n < 256 → hok (UInt8.ofNat n).toNat = true → hexSign (hv (UInt8.ofNat n).toNat).toNat = UInt8.ofNat n ∧ (hv (UInt8.ofNat n).toNat).toNat < 16 := by decide +kernel
  have := key c.toNat c.toNat_lt
  simpa using this (by simpa using h)
theorem hexL_unhexL (t : List UInt8) : ∀ v, unhexL t = some v → hexL v = t := by
  induction t using unhexL.induct with
  | case1 => intro v h; simp [unhexL] at h; subst h; rfl
  | case2 x => intro v h; simp [unhexL] at h
  | case3 x y l hc ih =>
    intro v h
    obtain ⟨hx, hy⟩ := Bool.and_eq_true_iff.1 hc
    simp only [unhexL, hc, if_true, Option.map_eq_some_iff] at h
    obtain ⟨r, hr, rfl⟩ := h
    have ex := hexSign_hv x hx
    have ey := hexSign_hv y hy
    have bx := hv_bd x.toNat
    have bv := hv_bd y.toNat
    have e1 : (UInt8.ofNat (hv x.toNat * 16 + hv y.toNat).toNat).toNat = (hv x.toNat * 16 + hv y.toNat).toNat := UInt8.toNat_ofNat_of_lt' (by have : UInt8.size = 256 := rfl; omega)
    simp only [hexL, e1]
    rw [show (hv x.toNat * 16 + hv y.toNat).toNat / 16 = (hv x.toNat).toNat from by omega, show (hv x.toNat * 16 + hv y.toNat).toNat % 16 = (hv y.toNat).toNat from by omega, ex.1, ey.1, ih r hr]
  | case4 x y l hc => intro v h; simp [unhexL, hc] at h

/-! ### The two signs of a byte, searched for -/
/-- The last number below j that p takes; -1 where there is none. -/
def last (p : Nat → Bool) : Nat → Int
  | 0 => -1
  | j + 1 => if p j then (j : Int) else last p j
theorem last_none (p : Nat → Bool) (j : Nat) (h : ∀ n, n < j → p n = false) : last p j = -1 := by
  induction j with
  | zero => rfl
  | succ j ih => rw [last, h j (by omega)]; simpa using ih (fun n hn => h n (by omega))
theorem last_one (p : Nat → Bool) (m j : Nat) (hm : m < j) (h1 : p m = true) (h : ∀ n, n < j → p n = true → n = m) : last p j = m := by
  induction j with
  | zero => omega
  | succ j ih =>
    rw [last]
    by_cases hj : p j = true
    · have := h j (by omega) hj; subst this; simp [hj]
    · have : m ≠ j := fun e => hj (by rw [← e]; exact h1)
      simp only [hj]
      exact ih (by omega) (fun n hn hp => h n (by omega) hp)
theorem hexL_two (a b : UInt8) (n : Nat) (hn : n < 256) : hexL [UInt8.ofNat n] = [a, b] ↔ ((hok a.toNat && hok b.toNat) = true ∧ (n : Int) = hv a.toNat * 16 + hv b.toNat) := by
  have ba := hv_bd a.toNat
  have bb := hv_bd b.toNat
  constructor
  · intro h
    have e := unhexL_hexL [UInt8.ofNat n]
    rw [h] at e
    by_cases hc : (hok a.toNat && hok b.toNat) = true
    · simp only [unhexL, hc, if_true, Option.map_some, Option.some.injEq, List.cons.injEq, and_true] at e
      have e2 := congrArg UInt8.toNat e
      rw [UInt8.toNat_ofNat_of_lt' (by have : UInt8.size = 256 := rfl; omega), UInt8.toNat_ofNat_of_lt' (by have : UInt8.size = 256 := rfl; omega)] at e2
      exact ⟨hc, by omega⟩
    · simp only [unhexL, hc] at e
      cases e
  · rintro ⟨hc, e⟩
    apply hexL_unhexL
    simp only [unhexL, hc, if_true, Option.map_some]
    rw [← e]
    simp

/-! ### The same of texts -/
def hexB (s : ByteArray) : ByteArray := ⟨(hexL s.data.toList).toArray⟩
def unhexB (s : ByteArray) : Option ByteArray := (unhexL s.data.toList).map fun l => ⟨l.toArray⟩
theorem hexB_size (s : ByteArray) : (hexB s).size = 2 * s.size := by
  obtain ⟨d⟩ := s
  show (hexL d.toList).toArray.size = 2 * d.size
  rw [List.size_toArray, hexL_length, Array.length_toList]
theorem unhexB_hexB (s : ByteArray) : unhexB (hexB s) = some s := by
  obtain ⟨d⟩ := s
  have e : (hexB ⟨d⟩).data.toList = hexL d.toList := rfl
  unfold unhexB
  rw [e, unhexL_hexL]
  rfl
theorem hexB_unhexB (t v : ByteArray) (h : unhexB t = some v) : hexB v = t := by
  unfold unhexB at h
  obtain ⟨l, hl, rfl⟩ := Option.map_eq_some_iff.1 h
  obtain ⟨d⟩ := t
  have e := hexL_unhexL d.toList l hl
  show (⟨(hexL l).toArray⟩ : ByteArray) = _
  rw [e]
theorem unhexL_size (l : List UInt8) : ∀ v, unhexL l = some v → 2 * v.length = l.length := by
  intro v h
  rw [← hexL_unhexL l v h, hexL_length]
theorem unhexB_size (t v : ByteArray) (h : unhexB t = some v) : 2 * v.size = t.size := by
  rw [← hexB_unhexB t v h, hexB_size]
end Go.Proofs.YtfpknemoaplhdaaDoor
