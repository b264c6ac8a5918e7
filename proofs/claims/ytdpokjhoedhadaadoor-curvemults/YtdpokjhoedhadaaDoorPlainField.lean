/-
  PLAIN MATHEMATICS OF what is left modulo 2^255 - 19: each number but nought is a power of 2, so it has an inverse, and to the power of 2^255 - 19 it is itself. No program is named here.
-/
import Derived.Test.YtdpokjhoedhadaaDoorPlainNum
namespace Go.Proofs.YtdpokjhoedhadaaDoor.num

/-! ### A map of a finite range into itself that is one to one meets each -/
theorem onto (n : Nat) : ∀ f : Nat → Nat, (∀ i, i < n → f i < n) → (∀ i j, i < n → j < n → f i = f j → i = j) → ∀ m, m < n → ∃ i, i < n ∧ f i = m := by
  induction n with
  | zero => intro f _ _ m hm; omega
  | succ n ih =>
    intro f hb hi m hm
    by_cases ha : f n = n
    · -- f n = n: the others go below n
      have hlt : ∀ i, i < n → f i < n := by
        intro i h
        have h1 := hb i (by omega)
        have h2 : f i ≠ n := fun e => by
          have := hi i n (by omega) (by omega) (by rw [e, ha])
          omega
        omega
      by_cases hmn : m = n
      · exact ⟨n, by omega, by rw [ha, hmn]⟩
      · obtain ⟨i, h1, h2⟩ := ih f hlt (fun i j h1 h2 => hi i j (by omega) (by omega)) m (by omega)
        exact ⟨i, by omega, h2⟩
    · have han : f n < n := by have := hb n (by omega); omega
      have hne : ∀ i, i < n → f i ≠ f n := fun i h e => by
        have := hi i n (by omega) (by omega) e
        omega
      have hS := ih (fun i => if f i = n then f n else f i)
        (by
          intro i h
          have h1 := hb i (by omega)
          show (if f i = n then f n else f i) < n
          split <;> omega)
        (by
          intro i j h1 h2 he
          replace he : (if f i = n then f n else f i) = (if f j = n then f n else f j) := he
          have k1 := hne i h1
          have k2 := hne j h2
          by_cases c1 : f i = n
          · by_cases c2 : f j = n
            · exact hi i j (by omega) (by omega) (by rw [c1, c2])
            · rw [if_pos c1, if_neg c2] at he; exact absurd he.symm k2
          · by_cases c2 : f j = n
            · rw [if_neg c1, if_pos c2] at he; exact absurd he k1
            · rw [if_neg c1, if_neg c2] at he; exact hi i j (by omega) (by omega) he)
      by_cases hma : m = f n
      · exact ⟨n, by omega, hma.symm⟩
      · by_cases hmn : m = n
        · obtain ⟨i, h1, h2⟩ := hS (f n) han
          replace h2 : (if f i = n then f n else f i) = f n := h2
          by_cases c : f i = n
          · exact ⟨i, by omega, by rw [c, hmn]⟩
          · rw [if_neg c] at h2; exact absurd h2 (hne i h1)
        · obtain ⟨i, h1, h2⟩ := hS m (by omega)
          replace h2 : (if f i = n then f n else f i) = m := h2
          by_cases c : f i = n
          · rw [if_pos c] at h2; exact absurd h2.symm hma
          · rw [if_neg c] at h2; exact ⟨i, by omega, h2⟩

/-! ### Numbers that nothing divides -/
/-- A prime. -/
def Pr (q : Nat) : Prop := 1 < q ∧ ∀ d, d ∣ q → d = 1 ∨ d = q
theorem pr_coprime {q e : Nat} (h : Pr q) (hn : ¬ q ∣ e) : q.Coprime e := by
  rcases h.2 (q.gcd e) (Nat.gcd_dvd_left q e) with h1 | h1
  · exact h1
  · exact absurd (h1 ▸ Nat.gcd_dvd_right q e) hn
/-- Nothing of 2 .. divides q (f of them). -/
def tried : Nat → Nat → Nat → Bool
  | 0, d, q => decide (q < d * d)
  | f + 1, d, q => decide (q < d * d) || (decide (q % d ≠ 0) && tried f (d + 1) q)
theorem tried_all (f d q : Nat) (h : tried f d q = true) : ∀ k, d ≤ k → k * k ≤ q → q % k ≠ 0 := by
  induction f generalizing d with
  | zero =>
    intro k hk hq
    have h1 := of_decide_eq_true h
    have := Nat.mul_le_mul hk hk
    omega
  | succ f ih =>
    intro k hk hq
    simp only [tried, Bool.or_eq_true, Bool.and_eq_true, decide_eq_true_eq] at h
    rcases h with h | ⟨h1, h2⟩
    · have := Nat.mul_le_mul hk hk
      omega
    · by_cases hkd : k = d
      · rw [hkd]; exact h1
      · exact ih (d + 1) h2 k (by omega) hq
theorem pr_tried (f q : Nat) (h1 : 1 < q) (h : tried f 2 q = true) : Pr q := by
  refine ⟨h1, fun d hd => ?_⟩
  obtain ⟨c, hc⟩ := hd
  have hA := tried_all f 2 q h
  by_cases d1 : d = 1
  · exact .inl d1
  · by_cases dq : d = q
    · exact .inr dq
    · exfalso
      have d0 : d ≠ 0 := fun e => by rw [e, Nat.zero_mul] at hc; omega
      have c0 : c ≠ 0 := fun e => by rw [e, Nat.mul_zero] at hc; omega
      have c1 : c ≠ 1 := fun e => by rw [e, Nat.mul_one] at hc; omega
      rcases Nat.le_total d c with hl | hl
      · exact hA d (by omega) (by rw [hc]; exact Nat.mul_le_mul_left d hl) (by rw [hc]; exact Nat.mul_mod_right d c)
      · exact hA c (by omega) (by rw [hc]; exact Nat.mul_le_mul_right c hl) (by rw [hc]; exact Nat.mul_mod_left d c)

/-! ### Powers modulo n -/
theorem mulmod (a b n : Nat) : a * b % n = (a % n) * (b % n) % n := Nat.mul_mod a b n
theorem one_pow_mod {g n a : Nat} (h : g ^ a % n = 1 % n) (k : Nat) : g ^ (a * k) % n = 1 % n := by
  rw [Nat.pow_mul, Nat.pow_mod, h, ← Nat.pow_mod, Nat.one_pow]
theorem gcd_one {g n : Nat} (a b : Nat) : g ^ a % n = 1 % n → g ^ b % n = 1 % n → g ^ (Nat.gcd a b) % n = 1 % n := by
  refine Nat.gcd.induction (P := fun a b => g ^ a % n = 1 % n → g ^ b % n = 1 % n → g ^ (Nat.gcd a b) % n = 1 % n) a b ?_ ?_
  · intro b _ hb
    rw [Nat.gcd_zero_left]; exact hb
  · intro a b ha ih h1 h2
    rw [Nat.gcd_rec]
    refine ih ?_ h1
    have h3 := one_pow_mod h1 (b / a)
    rw [← Nat.div_add_mod b a, Nat.pow_add, mulmod, h3, ← mulmod, Nat.one_mul] at h2
    exact h2
/-- All primes of a product, one at least of which is in what divides it. -/
theorem some_prime (qs : List Nat) (hp : ∀ q ∈ qs, Pr q) (e : Nat) (he : 1 < e) (hd : e ∣ qs.foldr (· * ·) 1) : ∃ q ∈ qs, q ∣ e := by
  induction qs with
  | nil =>
    have : e = 1 := Nat.dvd_one.1 hd
    omega
  | cons q qs ih =>
    by_cases h : q ∣ e
    · exact ⟨q, by simp, h⟩
    · have hc := pr_coprime (hp q (by simp)) h
      have hd2 : e ∣ qs.foldr (· * ·) 1 := Nat.Coprime.dvd_of_dvd_mul_left hc.symm hd
      obtain ⟨r, h1, h2⟩ := ih (fun q hq => hp q (by simp [hq])) hd2
      exact ⟨r, by simp [h1], h2⟩
/-- g makes all: what a certificate says. -/
structure Cert (n g : Nat) (qs : List Nat) : Prop where
  one : 1 < n
  all : qs.foldr (· * ·) 1 = n - 1
  pr : ∀ q ∈ qs, Pr q
  top : g ^ (n - 1) % n = 1
  no : ∀ q ∈ qs, g ^ ((n - 1) / q) % n ≠ 1
theorem Cert.order {n g : Nat} {qs : List Nat} (h : Cert n g qs) (k : Nat) (h0 : 0 < k) (h1 : k < n - 1) : g ^ k % n ≠ 1 := by
  intro hk
  have one := h.one
  have e1 : 1 % n = 1 := Nat.mod_eq_of_lt one
  have hg := gcd_one (g := g) (n := n) k (n - 1) (by rw [hk, e1]) (by rw [h.top, e1])
  obtain ⟨e, he⟩ := Nat.gcd_dvd_right k (n - 1)
  have hle : Nat.gcd k (n - 1) ≤ k := Nat.le_of_dvd h0 (Nat.gcd_dvd_left _ _)
  have e2 : 1 < e := by
    rcases Nat.lt_or_ge 1 e with h | h
    · exact h
    · exfalso
      have : Nat.gcd k (n - 1) * e ≤ Nat.gcd k (n - 1) * 1 := Nat.mul_le_mul_left _ h
      omega
  obtain ⟨q, hq, hqe⟩ := some_prime qs h.pr e e2 (by rw [h.all]; exact ⟨_, by rw [Nat.mul_comm]; exact he⟩)
  obtain ⟨t, ht⟩ := hqe
  have hq0 : 0 < q := by have := (h.pr q hq).1; omega
  refine h.no q hq ?_
  have hdiv : (n - 1) / q = Nat.gcd k (n - 1) * t := by
    obtain ⟨d, hd⟩ : ∃ d, Nat.gcd k (n - 1) = d := ⟨_, rfl⟩
    rw [hd] at he ⊢
    rw [he, ht, show d * (q * t) = q * (d * t) from by rw [← Nat.mul_assoc, Nat.mul_comm d q, Nat.mul_assoc]]
    exact Nat.mul_div_cancel_left _ hq0
  rw [hdiv, one_pow_mod hg t, e1]
theorem Cert.unit {n g : Nat} {qs : List Nat} (h : Cert n g qs) (i : Nat) (hi : i ≤ n - 1) : g ^ i * g ^ (n - 1 - i) % n = 1 := by
  rw [← Nat.pow_add, show i + (n - 1 - i) = n - 1 from by omega]; exact h.top
theorem Cert.nonzero {n g : Nat} {qs : List Nat} (h : Cert n g qs) (i : Nat) (hi : i ≤ n - 1) : 0 < g ^ i % n := by
  rcases Nat.eq_zero_or_pos (g ^ i % n) with h0 | h0
  · have hu := h.unit i hi
    rw [mulmod, h0, Nat.zero_mul, Nat.zero_mod] at hu
    omega
  · exact h0
theorem Cert.apart {n g : Nat} {qs : List Nat} (h : Cert n g qs) (i j : Nat) (hij : i < j) (hj : j < n - 1) : g ^ i % n ≠ g ^ j % n := by
  intro he
  have hu := h.unit i (by omega)
  rw [mulmod, he, ← mulmod, ← Nat.pow_add, show j + (n - 1 - i) = (n - 1) + (j - i) from by omega, Nat.pow_add, mulmod, h.top, Nat.one_mul, Nat.mod_mod] at hu
  exact h.order (j - i) (by omega) (by omega) hu
/-- Each number but nought is a power. -/
theorem Cert.gen {n g : Nat} {qs : List Nat} (h : Cert n g qs) (m : Nat) (h0 : 0 < m) (h1 : m < n) : ∃ k, g ^ k % n = m := by
  have one := h.one
  obtain ⟨i, hi, he⟩ := onto (n - 1) (fun i => g ^ i % n - 1)
    (by
      intro i hi
      have a := h.nonzero i (by omega)
      have b := Nat.mod_lt (g ^ i) (show n > 0 by omega)
      show g ^ i % n - 1 < n - 1
      omega)
    (by
      intro i j hi hj he
      replace he : g ^ i % n - 1 = g ^ j % n - 1 := he
      have a := h.nonzero i (by omega)
      have b := h.nonzero j (by omega)
      rcases Nat.lt_trichotomy i j with c | c | c
      · exact absurd (by omega) (h.apart i j c hj)
      · exact c
      · exact absurd (by omega) (h.apart j i c hi))
    (m - 1) (by omega)
  replace he : g ^ i % n - 1 = m - 1 := he
  have a := h.nonzero i (by omega)
  exact ⟨i, by omega⟩
theorem Cert.little {n g : Nat} {qs : List Nat} (h : Cert n g qs) (m : Nat) (h0 : 0 < m) (h1 : m < n) : m ^ (n - 1) % n = 1 := by
  obtain ⟨k, hk⟩ := h.gen m h0 h1
  have one := h.one
  have e1 : 1 % n = 1 := Nat.mod_eq_of_lt one
  rw [← hk, ← Nat.pow_mod, ← Nat.pow_mul, Nat.mul_comm, one_pow_mod (by rw [h.top, e1]) k, e1]
theorem Cert.prime {n g : Nat} {qs : List Nat} (h : Cert n g qs) : Pr n := by
  refine ⟨h.one, fun d hd => ?_⟩
  have one := h.one
  by_cases d1 : d = 1
  · exact .inl d1
  · by_cases dn : d = n
    · exact .inr dn
    · exfalso
      have hle := Nat.le_of_dvd (by omega) hd
      have d0 : d ≠ 0 := fun e => by rw [e] at hd; have := Nat.eq_zero_of_zero_dvd hd; omega
      have hl := h.little d (by omega) (by omega)
      have h1 : d ∣ d ^ (n - 1) := by
        rw [show n - 1 = (n - 2) + 1 from by omega, Nat.pow_succ]
        exact Nat.dvd_mul_left _ _
      have h2 : d ∣ d ^ (n - 1) % n := (Nat.dvd_mod_iff hd).2 h1
      rw [hl] at h2
      exact d1 (Nat.dvd_one.1 h2)

/-! ### Reckoning -/
def pw : Nat → Nat → Nat → Nat → Nat
  | 0, _, _, n => 1 % n
  | f + 1, g, e, n => pw f g (e / 2) n * pw f g (e / 2) n * (if e % 2 = 1 then g else 1) % n
theorem pw_eq (f g e n : Nat) (h : e < 2 ^ f) : pw f g e n = g ^ e % n := by
  induction f generalizing e with
  | zero => obtain rfl : e = 0 := by omega
            simp [pw]
  | succ f ih =>
    rw [pw, ih (e / 2) (by rw [Nat.pow_succ] at h; omega)]
    have h2 := Nat.div_add_mod e 2
    have h3 : g ^ e = g ^ (e / 2) * g ^ (e / 2) * g ^ (e % 2) := by rw [← Nat.pow_add, ← Nat.pow_add]; congr 1; omega
    rw [h3, mulmod (g ^ (e / 2) * g ^ (e / 2)), mulmod (g ^ (e / 2)), mulmod _ (if e % 2 = 1 then g else 1)]
    rw [mulmod (g ^ (e / 2) % n), Nat.mod_mod]
    congr 3
    rcases Nat.mod_two_eq_zero_or_one e with h4 | h4
    · rw [h4]; simp
    · rw [h4]; simp
def certB (f n g : Nat) (qs : List Nat) : Bool := decide (1 < n) && (decide (qs.foldr (· * ·) 1 = n - 1) && (decide (n - 1 < 2 ^ f) && (decide (pw f g (n - 1) n = 1) && qs.all fun q => decide (pw f g ((n - 1) / q) n ≠ 1))))
theorem cert_of (f n g : Nat) (qs : List Nat) (h : certB f n g qs = true) (hp : ∀ q ∈ qs, Pr q) : Cert n g qs := by
  simp only [certB, Bool.and_eq_true, decide_eq_true_eq, List.all_eq_true] at h
  obtain ⟨h1, h2, h3, h4, h5⟩ := h
  refine ⟨h1, h2, hp, by rw [← pw_eq f _ _ _ h3]; exact h4, fun q hq => ?_⟩
  rw [← pw_eq f _ _ _ (Nat.lt_of_le_of_lt (Nat.div_le_self _ _) h3)]
  exact h5 q hq

theorem smalls : ∀ q ∈ [2, 3, 5, 7, 13, 19, 31, 47, 107, 127, 223, 353, 2437, 4153, 57467, 65147, 75707, 132049, 430751, 569003, 1923133, 8574133], Pr q := by
  have h : ([2, 3, 5, 7, 13, 19, 31, 47, 107, 127, 223, 353, 2437, 4153, 57467, 65147, 75707, 132049, 430751, 569003, 1923133, 8574133] : List Nat).all (fun q => decide (1 < q) && tried 3000 2 q) = true := by decide +kernel
  intro q hq
  have h1 := List.all_eq_true.1 h q hq
  rw [Bool.and_eq_true, decide_eq_true_eq] at h1
  exact pr_tried 3000 q h1.1 h1.2
theorem c0 : Cert 2773320623 5 [2, 2437, 569003] := cert_of 32 _ _ _ (by decide +kernel) (by
  intro q hq
  simp only [List.mem_cons, List.not_mem_nil, or_false] at hq
  rcases hq with rfl | rfl | rfl
  · exact smalls _ (by decide)
  · exact smalls _ (by decide)
  · exact smalls _ (by decide))
theorem c1 : Cert 72106336199 7 [2, 13, 2773320623] := cert_of 37 _ _ _ (by decide +kernel) (by
  intro q hq
  simp only [List.mem_cons, List.not_mem_nil, or_false] at hq
  rcases hq with rfl | rfl | rfl
  · exact smalls _ (by decide)
  · exact smalls _ (by decide)
  · exact c0.prime)
theorem c2 : Cert 1919519569386763 2 [2, 3, 7, 19, 47, 47, 127, 8574133] := cert_of 51 _ _ _ (by decide +kernel) (by
  intro q hq
  simp only [List.mem_cons, List.not_mem_nil, or_false] at hq
  rcases hq with rfl | rfl | rfl | rfl | rfl | rfl | rfl | rfl
  · exact smalls _ (by decide)
  · exact smalls _ (by decide)
  · exact smalls _ (by decide)
  · exact smalls _ (by decide)
  · exact smalls _ (by decide)
  · exact smalls _ (by decide)
  · exact smalls _ (by decide)
  · exact smalls _ (by decide))
theorem c3 : Cert 31757755568855353 10 [2, 2, 2, 3, 31, 107, 223, 4153, 430751] := cert_of 55 _ _ _ (by decide +kernel) (by
  intro q hq
  simp only [List.mem_cons, List.not_mem_nil, or_false] at hq
  rcases hq with rfl | rfl | rfl | rfl | rfl | rfl | rfl | rfl | rfl
  · exact smalls _ (by decide)
  · exact smalls _ (by decide)
  · exact smalls _ (by decide)
  · exact smalls _ (by decide)
  · exact smalls _ (by decide)
  · exact smalls _ (by decide)
  · exact smalls _ (by decide)
  · exact smalls _ (by decide)
  · exact smalls _ (by decide))
theorem c4 : Cert 75445702479781427272750846543864801 7 [2, 2, 2, 2, 2, 3, 3, 5, 5, 75707, 72106336199, 1919519569386763] := cert_of 116 _ _ _ (by decide +kernel) (by
  intro q hq
  simp only [List.mem_cons, List.not_mem_nil, or_false] at hq
  rcases hq with rfl | rfl | rfl | rfl | rfl | rfl | rfl | rfl | rfl | rfl | rfl | rfl
  · exact smalls _ (by decide)
  · exact smalls _ (by decide)
  · exact smalls _ (by decide)
  · exact smalls _ (by decide)
  · exact smalls _ (by decide)
  · exact smalls _ (by decide)
  · exact smalls _ (by decide)
  · exact smalls _ (by decide)
  · exact smalls _ (by decide)
  · exact smalls _ (by decide)
  · exact c1.prime
  · exact c2.prime)
theorem c5 : Cert 74058212732561358302231226437062788676166966415465897661863160754340907 2 [2, 3, 353, 57467, 132049, 1923133, 31757755568855353, 75445702479781427272750846543864801] := cert_of 236 _ _ _ (by decide +kernel) (by
  intro q hq
  simp only [List.mem_cons, List.not_mem_nil, or_false] at hq
  rcases hq with rfl | rfl | rfl | rfl | rfl | rfl | rfl | rfl
  · exact smalls _ (by decide)
  · exact smalls _ (by decide)
  · exact smalls _ (by decide)
  · exact smalls _ (by decide)
  · exact smalls _ (by decide)
  · exact smalls _ (by decide)
  · exact c3.prime
  · exact c4.prime)
theorem c6 : Cert 57896044618658097711785492504343953926634992332820282019728792003956564819949 2 [2, 2, 3, 65147, 74058212732561358302231226437062788676166966415465897661863160754340907] := cert_of 255 _ _ _ (by decide +kernel) (by
  intro q hq
  simp only [List.mem_cons, List.not_mem_nil, or_false] at hq
  rcases hq with rfl | rfl | rfl | rfl | rfl
  · exact smalls _ (by decide)
  · exact smalls _ (by decide)
  · exact smalls _ (by decide)
  · exact smalls _ (by decide)
  · exact c5.prime)

/-! ### Whole numbers modulo P -/
theorem P_prime : Pr 57896044618658097711785492504343953926634992332820282019728792003956564819949 := c6.prime
/-- What is left, as a number that is not below 0. -/
theorem low_nat (x : Int) : ∃ m : Nat, m < 57896044618658097711785492504343953926634992332820282019728792003956564819949 ∧ x % P = (m : Int) :=
  ⟨(x % P).toNat, by unfold P; omega, by unfold P; omega⟩
theorem pow_low (x : Int) (e : Nat) : x ^ e % P = (x % P) ^ e % P := by
  induction e with
  | zero => rw [Int.pow_zero, Int.pow_zero]
  | succ e ih => rw [Int.pow_succ, Int.pow_succ]; exact emod_mul _ _ _ _ _ ih (Int.emod_emod_of_dvd x (Int.dvd_refl P)).symm
theorem Cert.little_e {n g : Nat} {qs : List Nat} (h : Cert n g qs) (m e : Nat) (h0 : 0 < m) (h1 : m < n) (he : e = n - 1) : m ^ e % n = 1 := by rw [he]; exact h.little m h0 h1
/-- FERMAT. -/
theorem little (x : Int) (h : x % P ≠ 0) (e : Nat) (hp : (e : Int) = P - 1) : x ^ e % P = 1 := by
  obtain ⟨m, hm, he⟩ := low_nat x
  have h0 : 0 < m := by
    rcases Nat.eq_zero_or_pos m with rfl | h1
    · exact absurd he h
    · exact h1
  have hl := c6.little_e m e h0 hm (by unfold P at hp; omega)
  rw [pow_low, he]
  have h2 : ((m ^ e % 57896044618658097711785492504343953926634992332820282019728792003956564819949 : Nat) : Int) = 1 := congrArg _ hl
  rw [Int.natCast_emod, Int.natCast_pow] at h2
  exact h2
theorem inverse (x : Int) (h : x % P ≠ 0) (e : Nat) (hp : (e : Int) = P - 2) : x * x ^ e % P = 1 := by
  rw [Int.mul_comm, ← Int.pow_succ]
  exact little x h _ (by unfold P at *; omega)
theorem nought_mul (x y : Int) (h : x % P = 0) : x * y % P = 0 := by
  have h1 := emod_mul x 0 y y P (by rw [h]; rfl) rfl
  rw [Int.zero_mul] at h1
  exact h1
theorem product (x y : Int) : x * y % P = 0 ↔ x % P = 0 ∨ y % P = 0 := by
  constructor
  · intro h
    by_cases hx : x % P = 0
    · exact .inl hx
    · right
      have hi := inverse x hx (P - 2).toNat (by unfold P; omega)
      obtain ⟨z, hz⟩ : ∃ z, x ^ (P - 2).toNat = z := ⟨_, rfl⟩
      rw [hz] at hi
      have h1 := nought_mul (x * y) z h
      rw [show x * y * z = x * z * y from by rw [Int.mul_assoc, Int.mul_comm y z, ← Int.mul_assoc]] at h1
      have h2 := emod_mul (x * z) 1 y y P hi rfl
      rw [Int.one_mul] at h2
      rw [← h2]; exact h1
  · rintro (h | h)
    · exact nought_mul x y h
    · rw [Int.mul_comm]; exact nought_mul y x h
theorem nought_pow (x : Int) (e : Nat) (h : x % P = 0) : x ^ (e + 1) % P = 0 := by
  rw [Int.pow_succ]; exact (product _ _).2 (.inr h)
theorem fermat (x : Int) (e : Nat) (hp : (e : Int) = P + 19) : x ^ e % P = x ^ 20 % P := by
  obtain ⟨d, hd⟩ : ∃ d, e = d + 20 := ⟨e - 20, by unfold P at hp; omega⟩
  by_cases h : x % P = 0
  · rw [hd, nought_pow x (d + 19) h, nought_pow x 19 h]
  · rw [hd, Int.pow_add]
    have h2 := emod_mul _ 1 _ (x ^ 20) P (little x h d (by unfold P at *; omega)) rfl
    rw [Int.one_mul] at h2
    exact h2
end Go.Proofs.YtdpokjhoedhadaaDoor.num
