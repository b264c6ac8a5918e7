/-
  PLAIN MATHEMATICS OF the numbers modulo 2^255 - 19 as a field: inverses, squares and what is no square. No program is named here.
-/
import Derived.Test.YtdpokjhoedhadaaDoorPlainField
namespace Go.Proofs.YtdpokjhoedhadaaDoor.num

/-- The numbers below 2^255 - 19, added and multiplied modulo it. -/
abbrev K := Fin 57896044618658097711785492504343953926634992332820282019728792003956564819949
/-- What a whole number leaves. -/
def kap (v : Int) : K := ⟨(v % P).toNat, by unfold P; omega⟩
theorem kap_val (v : Int) : (((kap v).val : Nat) : Int) = v % P := by show (((v % P).toNat : Nat) : Int) = v % P; unfold P; omega
theorem kap_of (a : K) : kap (a.val : Int) = a := Fin.ext (by
  show ((a.val : Int) % P).toNat = a.val
  have := a.isLt
  unfold P; omega)
theorem kap_iff (u v : Int) : kap u = kap v ↔ u % P = v % P := by
  constructor
  · intro h; rw [← kap_val, ← kap_val, h]
  · intro h; exact Fin.ext (by show (u % P).toNat = (v % P).toNat; rw [h])
theorem kap_add (u v : Int) : kap (u + v) = kap u + kap v := Fin.ext (by
  rw [Fin.val_add]
  show ((u + v) % P).toNat = ((u % P).toNat + (v % P).toNat) % _
  unfold P; omega)
theorem kap_sub (u v : Int) : kap (u - v) = kap u - kap v := Fin.ext (by
  rw [Fin.sub_def]
  show ((u - v) % P).toNat = (57896044618658097711785492504343953926634992332820282019728792003956564819949 - (v % P).toNat + (u % P).toNat) % _
  unfold P; omega)
theorem kap_mul (u v : Int) : kap (u * v) = kap u * kap v := Fin.ext (by
  rw [Fin.val_mul]
  have h : (((kap (u * v)).val : Nat) : Int) = ((((kap u).val * (kap v).val) % 57896044618658097711785492504343953926634992332820282019728792003956564819949 : Nat) : Int) := by
    rw [Int.natCast_emod, Int.natCast_mul, kap_val, kap_val, kap_val]
    exact Int.mul_emod u v P
  omega)
theorem kap_0 : kap 0 = 0 := by decide
theorem kap_1 : kap 1 = 1 := by decide

/-- The inverse; 0 of 0. -/
def kinv (a : K) : K := kap ((a.val : Int) ^ einv)
theorem kap_inv (v : Int) : kap (v ^ einv) = kinv (kap v) := by
  unfold kinv
  rw [kap_iff, kap_val, ← pow_low]
theorem kinv_mul (a : K) (h : a ≠ 0) : a * kinv a = 1 := by
  have h1 : (a.val : Int) % P ≠ 0 := fun e => h (by
    have : kap (a.val : Int) = kap 0 := (kap_iff _ _).2 e
    rw [kap_of, kap_0] at this; exact this)
  have h2 := inverse (a.val : Int) h1 einv einv_val
  calc a * kinv a = kap (a.val : Int) * kap ((a.val : Int) ^ einv) := by rw [kap_of]; rfl
    _ = kap 1 := by rw [← kap_mul, kap_iff, h2]; rfl
    _ = 1 := kap_1
theorem kinv_0 : kinv 0 = 0 := by
  obtain ⟨e, he⟩ : ∃ e, einv = e + 1 := ⟨einv - 1, by have := einv_val; unfold P at this; omega⟩
  have h : kap ((((0 : K).val : Nat) : Int) ^ einv) = kap 0 := by
    rw [kap_iff, he, Int.pow_succ]
    show _ * 0 % P = 0 % P
    rw [Int.mul_zero]
  exact h.trans kap_0

theorem mul0 {a b : K} (h : a * b = 0) : a = 0 ∨ b = 0 := by
  by_cases h1 : a = 0
  · exact .inl h1
  · have := kinv_mul a h1
    right
    grind -lia -linarith
theorem mul_ne {a b : K} (h : a ≠ 0) (h2 : b ≠ 0) : a * b ≠ 0 := fun e => (mul0 e).elim h h2
theorem sq0 {a : K} (h : a * a = 0) : a = 0 := (mul0 h).elim id id
theorem cancel {a b c : K} (h : a ≠ 0) (e : a * b = a * c) : b = c := by
  have := kinv_mul a h
  grind -lia -linarith
theorem half : ∃ h : K, 2 * h = 1 := ⟨28948022309329048855892746252171976963317496166410141009864396001978282409975, by decide⟩
theorem one_ne : (1 : K) ≠ 0 := by decide
theorem two_ne : (2 : K) ≠ 0 := by decide
theorem kinv_1 : kinv 1 = 1 := by have := kinv_mul 1 one_ne; grind -lia -linarith

/-- No square: no square is d times another, but 0. -/
def NS (d : K) : Prop := ∀ s t : K, s*s = d*(t*t) → t = 0
theorem kap_pow (v : Int) (n : Nat) : kap (v ^ (n + n)) = kap ((((kap v) * (kap v) : K).val : Int) ^ n) := by
  rw [kap_iff, ← kap_mul, kap_val, ← pow_low, Int.mul_pow, Int.pow_add]
theorem ns_of (e : Nat) (he : e < 57896044618658097711785492504343953926634992332820282019728792003956564819949) (h : pw 255 e 28948022309329048855892746252171976963317496166410141009864396001978282409974 57896044618658097711785492504343953926634992332820282019728792003956564819949 = 57896044618658097711785492504343953926634992332820282019728792003956564819948) (h0 : 0 < e) : NS ⟨e, he⟩ := by
  intro s t hst
  by_cases ht : t = 0
  · exact ht
  · exfalso
    have hi := kinv_mul t ht
    obtain ⟨r, hr⟩ : ∃ r, s * kinv t = r := ⟨_, rfl⟩
    have h1 : r * r = ⟨e, he⟩ := by
      generalize (⟨e, he⟩ : K) = d at *
      grind -lia -linarith
    have hr0 : r ≠ 0 := fun e0 => by
      rw [e0] at h1
      have h3 : ((0 : K) * 0).val = e := congrArg Fin.val h1
      have h4 : ((0 : K) * 0).val = 0 := by decide
      omega
    have h2 : (r.val : Int) % P ≠ 0 := fun e0 => hr0 (by
      have : kap (r.val : Int) = kap 0 := (kap_iff _ _).2 e0
      rw [kap_of, kap_0] at this; exact this)
    have h3 := little (r.val : Int) h2 (28948022309329048855892746252171976963317496166410141009864396001978282409974 + 28948022309329048855892746252171976963317496166410141009864396001978282409974) (by unfold P; omega)
    rw [pw_eq _ _ _ _ (by decide)] at h
    generalize 28948022309329048855892746252171976963317496166410141009864396001978282409974 = n at *
    have h4 := (kap_iff _ _).1 (kap_pow (r.val : Int) n)
    rw [kap_of, h1, h3] at h4
    have h5 : ((e ^ n % 57896044618658097711785492504343953926634992332820282019728792003956564819949 : Nat) : Int) = ((57896044618658097711785492504343953926634992332820282019728792003956564819948 : Nat) : Int) := congrArg _ h
    rw [Int.natCast_emod, Int.natCast_pow] at h5
    have h6 : ((e : Int)) ^ n % P = 57896044618658097711785492504343953926634992332820282019728792003956564819948 := h5
    rw [show (((⟨e, he⟩ : K).val : Nat) : Int) = (e : Int) from rfl] at h4
    rw [h6] at h4
    exact absurd h4 (by decide)
/-- Each number is a square, or twice one. -/
theorem squares (a : K) : ∃ v, a = v * v ∨ a = 2 * (v * v) := by
  by_cases h : a = 0
  · exact ⟨0, .inl (by rw [h]; decide)⟩
  · have h0 : 0 < a.val := by
      rcases Nat.eq_zero_or_pos a.val with h1 | h1
      · exact absurd (Fin.ext h1) h
      · exact h1
    obtain ⟨k, hk⟩ := c6.gen a.val h0 a.isLt
    have hk2 : a = kap ((2 : Int) ^ k) := by
      rw [← kap_of a, ← hk, kap_iff]
      show (((2 ^ k % 57896044618658097711785492504343953926634992332820282019728792003956564819949 : Nat)) : Int) % P = _
      rw [Int.natCast_emod, Int.natCast_pow]
      exact Int.emod_emod_of_dvd _ (Int.dvd_refl _)
    refine ⟨kap ((2 : Int) ^ (k / 2)), ?_⟩
    have h2 := Nat.div_add_mod k 2
    rcases Nat.mod_two_eq_zero_or_one k with h3 | h3
    · left
      rw [hk2, ← kap_mul, ← Int.pow_add]
      congr 2; omega
    · right
      rw [hk2, ← kap_mul, ← Int.pow_add, show (2 : K) = kap 2 from by decide, ← kap_mul, Int.mul_comm, ← Int.pow_succ]
      congr 2; omega
theorem ns_2 : NS 2 := ns_of 2 (by decide) (by decide +kernel) (by decide)
end Go.Proofs.YtdpokjhoedhadaaDoor.num
