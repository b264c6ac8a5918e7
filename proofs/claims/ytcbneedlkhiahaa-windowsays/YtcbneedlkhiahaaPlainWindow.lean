/-
  WHAT CAME ALREADY, plainly: a window as a number and 64 bits (chk: what is wrong with a number; tN, tT: the state behind a Take), and as all that was taken (nx: one more than the highest one; rchk); both are one (Inv).
-/
import Derived.Test.YtcbneedlkhiahaaProg
namespace Go.Proofs.Ytcbneedlkhiahaa.win

/-- A number below the highest one: was it taken, or does it lie too low? -/
def old (N T n : Nat) : Bool := decide (64 ≤ N - 1 - n) || T.testBit (N - 1 - n)
/-- What is wrong with a number. -/
def chk (N T : Nat) (n : Int) : Int := if n < 0 ∨ 1099511627776 < n then 1 else if n < N ∧ old N T n.toNat = true then 11 else 0
/-- The bits, moved up: what is beyond 64 is lost. -/
def mv (T s : Nat) : Nat := T * 2 ^ (min s 64) % 18446744073709551616
/-- The state behind a number that is taken. -/
def uN (N n : Nat) : Nat := if n < N then N else n + 1
def uT (N T n : Nat) : Nat := (if n < N then T else mv T (n + 1 - N)) ||| 2 ^ (uN N n - 1 - n)
/-- The state behind Take. -/
def tN (N T : Nat) (n : Int) : Nat := if chk N T n = 0 then uN N n.toNat else N
def tT (N T : Nat) (n : Int) : Nat := if chk N T n = 0 then uT N T n.toNat else T
theorem chk_cases (N T : Nat) (n : Int) : chk N T n = 0 ∨ chk N T n = 1 ∨ chk N T n = 11 := by
  unfold chk
  split
  · exact .inr (.inl rfl)
  · split
    · exact .inr (.inr rfl)
    · exact .inl rfl
theorem chk_arg {N T : Nat} {n : Int} (h : n < 0 ∨ 1099511627776 < n) : chk N T n = 1 := by unfold chk; rw [if_pos h]
theorem chk_nat {N T : Nat} {n : Nat} (h : n ≤ 1099511627776) : chk N T (n : Int) = if n < N ∧ old N T n = true then 11 else 0 := by
  unfold chk
  rw [if_neg (by omega), Int.toNat_natCast]
  simp only [Int.ofNat_lt]
theorem chk_zero {N T : Nat} {n : Int} (h : chk N T n = 0) : ∃ m : Nat, n = m ∧ m ≤ 1099511627776 ∧ (m < N → m + 64 ≥ N ∧ T.testBit (N - 1 - m) = false) := by
  unfold chk at h
  split at h
  · cases h
  · rename_i h1
    obtain ⟨m, rfl⟩ : ∃ m : Nat, n = m := ⟨n.toNat, by omega⟩
    refine ⟨m, rfl, by omega, fun hm => ?_⟩
    split at h
    · cases h
    · rename_i h2
      rw [Int.toNat_natCast] at h2
      have h3 : old N T m = false := by
        cases e : old N T m
        · rfl
        · exact absurd ⟨by omega, e⟩ h2
      unfold old at h3
      rw [Bool.or_eq_false_iff] at h3
      have := of_decide_eq_false h3.1
      exact ⟨by omega, h3.2⟩

/-- One more than the highest one of all. -/
def nx (L : List Int) : Int := L.foldl max (-1) + 1
theorem nx_nil : nx [] = 0 := rfl
theorem nx_snoc (L : List Int) (n : Int) : nx (L ++ [n]) = max (nx L) (n + 1) := by
  unfold nx
  rw [List.foldl_append]
  show max _ n + 1 = _
  omega
/-- What is wrong with a number, by all that was taken. -/
def rchk (L : List Int) (n : Int) : Int := if n < 0 ∨ 1099511627776 < n then 1 else if n ∈ L ∨ n + 64 < nx L then 11 else 0
/-- The list behind a Take. -/
def rL (L : List Int) (n : Int) : List Int := if rchk L n = 0 then L ++ [n] else L

theorem mv_lt (T s : Nat) : mv T s < 18446744073709551616 := Nat.mod_lt _ (by decide)
theorem mv_bit (T s i : Nat) : (mv T s).testBit i = (decide (i < 64) && (decide (s ≤ i) && T.testBit (i - s))) := by
  unfold mv
  rw [show (18446744073709551616 : Nat) = 2 ^ 64 from rfl, Nat.testBit_mod_two_pow, Nat.mul_comm, Nat.testBit_two_pow_mul]
  by_cases hi : i < 64
  · rcases Nat.lt_or_ge s 64 with h | h
    · rw [Nat.min_eq_left (Nat.le_of_lt h)]
    · rw [Nat.min_eq_right h]
      have e1 : decide (i ≥ 64) = false := decide_eq_false (by omega)
      have e2 : decide (s ≤ i) = false := decide_eq_false (by omega)
      rw [e1, e2]; simp
  · rw [decide_eq_false hi]; simp

/-- A window as a number and 64 bits, and all that was taken. -/
structure Inv (L : List Int) (N T : Nat) : Prop where
  mem : ∀ x ∈ L, 0 ≤ x ∧ x < (N : Int)
  top : nx L = (N : Int)
  tb : T < 18446744073709551616
  nb : N ≤ 1099511627777
  bit : ∀ i, i < 64 → T.testBit i = decide (i < N ∧ ((N : Int) - 1 - i) ∈ L)
theorem Inv.nil : Inv [] 0 0 := ⟨fun x h => (nomatch h), rfl, by decide, by decide, fun i _ => by simp⟩
theorem Inv.chk {L : List Int} {N T : Nat} (h : Inv L N T) (n : Int) : chk N T n = rchk L n := by
  unfold win.chk rchk
  by_cases h1 : n < 0 ∨ 1099511627776 < n
  · rw [if_pos h1, if_pos h1]
  · rw [if_neg h1, if_neg h1, h.top]
    obtain ⟨m, rfl⟩ : ∃ m : Nat, n = m := ⟨n.toNat, by omega⟩
    rw [Int.toNat_natCast]
    have e : ((m : Int) < (N : Int) ∧ old N T m = true) ↔ ((m : Int) ∈ L ∨ (m : Int) + 64 < (N : Int)) := by
      unfold old
      rw [Bool.or_eq_true, decide_eq_true_eq]
      constructor
      · rintro ⟨h2, h3 | h3⟩
        · right; omega
        · by_cases c : 64 ≤ N - 1 - m
          · right; omega
          · left
            rw [h.bit _ (by omega), decide_eq_true_eq] at h3
            have e : (N : Int) - 1 - ((N - 1 - m : Nat) : Int) = m := by omega
            rw [e] at h3
            exact h3.2
      · rintro (h2 | h2)
        · have h3 := (h.mem _ h2).2
          refine ⟨h3, ?_⟩
          by_cases c : 64 ≤ N - 1 - m
          · exact .inl c
          · right
            rw [h.bit _ (by omega), decide_eq_true_eq]
            have e : (N : Int) - 1 - ((N - 1 - m : Nat) : Int) = m := by omega
            rw [e]
            exact ⟨by omega, h2⟩
        · exact ⟨by omega, .inl (by omega)⟩
    by_cases c : (m : Int) < (N : Int) ∧ old N T m = true
    · rw [if_pos c, if_pos (e.1 c)]
    · rw [if_neg c, if_neg (fun x => c (e.2 x))]
theorem Inv.take {L : List Int} {N T : Nat} (h : Inv L N T) (n : Nat) (hn : n ≤ 1099511627776) (hlo : n + 64 ≥ N) : Inv (L ++ [(n : Int)]) (uN N n) (uT N T n) := by
  have hm : nx (L ++ [(n : Int)]) = (uN N n : Int) := by
    rw [nx_snoc, h.top]
    unfold uN
    split <;> omega
  have hNn : n < uN N n ∧ N ≤ uN N n := by unfold uN; split <;> omega
  refine ⟨fun x hx => ?_, hm, ?_, ?_, fun i hi => ?_⟩
  · rcases List.mem_append.1 hx with hx | hx
    · have := h.mem x hx; omega
    · rw [List.mem_singleton.1 hx]; omega
  · unfold uT
    refine Nat.or_lt_two_pow (n := 64) ?_ (Nat.pow_lt_pow_right (by decide) ?_)
    · split
      · exact h.tb
      · exact mv_lt _ _
    · unfold uN; split <;> omega
  · unfold uN; split
    · exact h.nb
    · omega
  · unfold uT
    rw [Nat.testBit_or, Nat.testBit_two_pow]
    by_cases c : n < N
    · have e : uN N n = N := by unfold uN; rw [if_pos c]
      rw [if_pos c, e, h.bit i hi, ← Bool.decide_or]
      apply decide_eq_decide.2
      constructor
      · rintro (⟨h1, h2⟩ | h1)
        · exact ⟨h1, List.mem_append_left _ h2⟩
        · exact ⟨by omega, List.mem_append_right _ (List.mem_singleton.2 (by omega))⟩
      · rintro ⟨h1, h2⟩
        rcases List.mem_append.1 h2 with h2 | h2
        · exact .inl ⟨h1, h2⟩
        · right; have := List.mem_singleton.1 h2; omega
    · have e : uN N n = n + 1 := by unfold uN; rw [if_neg c]
      rw [if_neg c, e, mv_bit, decide_eq_true hi, Bool.true_and]
      by_cases c2 : n + 1 - N ≤ i
      · rw [decide_eq_true c2, Bool.true_and, h.bit _ (by omega), ← Bool.decide_or]
        apply decide_eq_decide.2
        have ei : (N : Int) - 1 - ((i - (n + 1 - N) : Nat) : Int) = ((n + 1 : Nat) : Int) - 1 - (i : Int) := by omega
        rw [ei]
        constructor
        · rintro (⟨h1, h2⟩ | h1)
          · exact ⟨by omega, List.mem_append_left _ h2⟩
          · exact ⟨by omega, List.mem_append_right _ (List.mem_singleton.2 (by omega))⟩
        · rintro ⟨h1, h2⟩
          rcases List.mem_append.1 h2 with h2 | h2
          · have := (h.mem _ h2).1; exact .inl ⟨by omega, h2⟩
          · right; have := List.mem_singleton.1 h2; omega
      · rw [decide_eq_false c2, Bool.false_and, Bool.false_or]
        apply decide_eq_decide.2
        constructor
        · intro h1
          exact ⟨by omega, List.mem_append_right _ (List.mem_singleton.2 (by omega))⟩
        · rintro ⟨h1, h2⟩
          rcases List.mem_append.1 h2 with h2 | h2
          · have := (h.mem _ h2).2; omega
          · have := List.mem_singleton.1 h2; omega
/-- Behind a Take. -/
theorem Inv.step {L : List Int} {N T : Nat} (h : Inv L N T) (n : Int) : Inv (rL L n) (tN N T n) (tT N T n) := by
  unfold rL tN tT
  rw [← h.chk n]
  by_cases c : win.chk N T n = 0
  · rw [if_pos c, if_pos c, if_pos c]
    obtain ⟨m, rfl, hm, hlo⟩ := chk_zero c
    rw [Int.toNat_natCast]
    refine h.take m hm ?_
    rcases Nat.lt_or_ge m N with h1 | h1
    · exact (hlo h1).1
    · omega
  · rw [if_neg c, if_neg c, if_neg c]; exact h
/-- All that was taken of a list. -/
def rAll : List Int → List Int → List Int
  | [], L => L
  | n :: l, L => rAll l (rL L n)
theorem rAll_snoc (l : List Int) (n : Int) : ∀ L, rAll (l ++ [n]) L = rL (rAll l L) n := by
  induction l with
  | nil => intro L; rfl
  | cons x l ih => intro L; exact ih _
theorem rL_sub {L : List Int} {n x : Int} (h : x ∈ rL L n) : x ∈ L ∨ x = n := by
  unfold rL at h
  split at h
  · rcases List.mem_append.1 h with h | h
    · exact .inl h
    · exact .inr (List.mem_singleton.1 h)
  · exact .inl h
theorem rAll_sub (l : List Int) : ∀ {L : List Int} {x : Int}, x ∈ rAll l L → x ∈ L ∨ x ∈ l := by
  induction l with
  | nil => intro L x h; exact .inl h
  | cons n l ih =>
    intro L x h
    rcases ih h with h | h
    · rcases rL_sub h with h | h
      · exact .inl h
      · exact .inr (by rw [h]; exact List.mem_cons_self)
    · exact .inr (List.mem_cons_of_mem _ h)
theorem rchk_not {L : List Int} {n : Int} (h : rchk L n = 0) : n ∉ L := by
  unfold rchk at h
  split at h
  · cases h
  · split at h
    · cases h
    · rename_i h2; exact fun hm => h2 (.inl hm)
theorem rL_zero {L : List Int} {n : Int} (h : rchk L n = 0) : rL L n = L ++ [n] := by unfold rL; rw [if_pos h]
theorem rL_not {L : List Int} {n : Int} (h : rchk L n ≠ 0) : rL L n = L := by unfold rL; rw [if_neg h]
theorem rchk_mem {L : List Int} {n : Int} (h0 : 0 ≤ n) (h1 : n ≤ 1099511627776) (h : n ∈ L) : rchk L n = 11 := by
  unfold rchk
  rw [if_neg (by omega), if_pos (.inl h)]
theorem tN_not {N T : Nat} {n : Int} (h : chk N T n ≠ 0) : tN N T n = N ∧ tT N T n = T := by
  unfold tN tT
  rw [if_neg h, if_neg h]
  exact ⟨rfl, rfl⟩
theorem tN_zero {N T m : Nat} (h : chk N T (m : Int) = 0) : m < tN N T (m : Int) ∧ N ≤ tN N T (m : Int) := by
  unfold tN
  rw [if_pos h, Int.toNat_natCast]
  unfold uN
  split <;> omega
theorem nx_le {L : List Int} {b : Int} (h0 : 0 ≤ b) (h : ∀ x ∈ L, x < b) : nx L ≤ b := by
  have go : ∀ (l : List Int) (c : Int), c ≤ b - 1 → (∀ x ∈ l, x < b) → l.foldl max c ≤ b - 1 := by
    intro l
    induction l with
    | nil => intro c hc _; exact hc
    | cons x l ih =>
      intro c hc hl
      have hx := hl x List.mem_cons_self
      exact ih (max c x) (by omega) (fun y hy => hl y (List.mem_cons_of_mem _ hy))
  have := go L (-1) (by omega) h
  unfold nx
  omega
theorem rchk_new {L : List Int} {f m : Int} (h0 : 0 ≤ f) (h1 : f ≤ m) (h2 : m ≤ 1099511627776) (hL : ∀ x ∈ L, x < f + 64) (hm : m ∉ L) : rchk L m = 0 := by
  have := nx_le (b := f + 64) (by omega) hL
  unfold rchk
  rw [if_neg (by omega), if_neg (by rintro (h | h); exact hm h; omega)]
end Go.Proofs.Ytcbneedlkhiahaa.win
