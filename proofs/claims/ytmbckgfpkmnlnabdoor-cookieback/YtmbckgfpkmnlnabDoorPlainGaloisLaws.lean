/-
  PLAIN MATHEMATICS OF bytes as polynomials: they are a field; each stands for just one. No program is named here.
-/
import Derived.Test.YtmbckgfpkmnlnabDoorBundle1
namespace Go.Proofs.YtmbckgfpkmnlnabDoor.gal

/-! ### What goes bit by bit -/
/-- A bit of two that are xored. -/
theorem bit_xor (a b i : Nat) : (a ^^^ b) / 2 ^ i % 2 = (a / 2 ^ i % 2 + b / 2 ^ i % 2) % 2 := by
  have h := Nat.testBit_xor a b i
  simp only [Nat.testBit_eq_decide_div_mod_eq] at h
  have h1 : (a ^^^ b) / 2 ^ i % 2 < 2 := Nat.mod_lt _ (by decide)
  have h2 : a / 2 ^ i % 2 < 2 := Nat.mod_lt _ (by decide)
  have h3 : b / 2 ^ i % 2 < 2 := Nat.mod_lt _ (by decide)
  generalize (a ^^^ b) / 2 ^ i % 2 = x at *
  generalize a / 2 ^ i % 2 = y at *
  generalize b / 2 ^ i % 2 = z at *
  rcases (by omega : x = 0 ∨ x = 1) with rfl | rfl <;> rcases (by omega : y = 0 ∨ y = 1) with rfl | rfl <;> rcases (by omega : z = 0 ∨ z = 1) with rfl | rfl <;> simp at h ⊢
/-- So many times, by a bit. -/
theorem times_bits (x u v : Nat) (hu : u < 2) (hv : v < 2) : x * ((u + v) % 2) = x * u ^^^ x * v := by
  rcases (by omega : u = 0 ∨ u = 1) with rfl | rfl <;> rcases (by omega : v = 0 ∨ v = 1) with rfl | rfl <;> simp
theorem xor_swap (a b c d : Nat) : (a ^^^ b) ^^^ (c ^^^ d) = (a ^^^ c) ^^^ (b ^^^ d) := by
  rw [Nat.xor_assoc, Nat.xor_assoc, ← Nat.xor_assoc b c d, Nat.xor_comm b c, Nat.xor_assoc c b d]
/-- Linear. -/
def Lin (f : Nat → Nat) : Prop := ∀ a b, f (a ^^^ b) = f a ^^^ f b
theorem Lin.xor {f g : Nat → Nat} (hf : Lin f) (hg : Lin g) : Lin fun a => f a ^^^ g a := fun a b => by
  show f (a ^^^ b) ^^^ g (a ^^^ b) = _
  rw [hf, hg, xor_swap]
theorem Lin.comp {f g : Nat → Nat} (hf : Lin f) (hg : Lin g) : Lin fun a => f (g a) := fun a b => by
  show f (g (a ^^^ b)) = _
  rw [hg, hf]
theorem Lin.bit (x i : Nat) : Lin fun a => x * (a / 2 ^ i % 2) := fun a b => by
  show x * ((a ^^^ b) / 2 ^ i % 2) = _
  rw [bit_xor, times_bits _ _ _ (Nat.mod_lt _ (by decide)) (Nat.mod_lt _ (by decide))]
theorem Lin.id : Lin fun a => a := fun _ _ => rfl
theorem Lin.nought : Lin fun _ => 0 := fun _ _ => by show 0 = 0 ^^^ 0; rfl
theorem Lin.shift (k : Nat) : Lin fun a => a * 2 ^ k := fun a b => by
  show (a ^^^ b) * 2 ^ k = a * 2 ^ k ^^^ b * 2 ^ k
  rw [← Nat.shiftLeft_eq, ← Nat.shiftLeft_eq, ← Nat.shiftLeft_eq, Nat.shiftLeft_xor_distrib]
theorem Lin.when {f : Nat → Nat} (hf : Lin f) (u : Nat) (hu : u < 2) : Lin fun a => f a * u := fun a b => by
  show f (a ^^^ b) * u = _
  rw [hf]
  rcases (by omega : u = 0 ∨ u = 1) with rfl | rfl <;> simp
theorem Lin.low : Lin fun a => a % 256 := fun a b => by
  show (a ^^^ b) % 2 ^ 8 = a % 2 ^ 8 ^^^ b % 2 ^ 8
  exact Nat.xor_mod_two_pow
theorem rows_right (a : Nat) : ∀ k, Lin fun b => rows a b k
  | 0 => Lin.nought
  | k + 1 => (rows_right a k).xor (Lin.bit _ k)
theorem rows_left (b : Nat) : ∀ k, Lin fun a => rows a b k
  | 0 => Lin.nought
  | k + 1 => (rows_left b k).xor ((Lin.shift k).when _ (Nat.mod_lt _ (by decide)))
theorem cuts_lin : ∀ k, Lin fun n => cuts n k
  | 0 => Lin.id
  | k + 1 => (cuts_lin k).xor ((Lin.bit _ (14 - k)).comp (cuts_lin k))
theorem gm_right (a : Nat) : Lin fun b => gm a b := Lin.low.comp ((cuts_lin 7).comp (rows_right a 8))
theorem gm_left (b : Nat) : Lin fun a => gm a b := Lin.low.comp ((cuts_lin 7).comp (rows_left b 8))

/-- Two that are linear, and the same at 1, 2, 4 ..: the same. -/
theorem Lin.zero {f : Nat → Nat} (h : Lin f) : f 0 = 0 := by
  have := h 0 0
  rw [Nat.xor_self, Nat.xor_self] at this
  exact this
theorem top_bit (a k : Nat) (h : a < 2 ^ (k + 1)) (h2 : 2 ^ k ≤ a) : a = 2 ^ k ^^^ (a - 2 ^ k) ∧ a - 2 ^ k < 2 ^ k := by
  rw [Nat.pow_succ] at h
  have h3 : a - 2 ^ k < 2 ^ k := by omega
  refine ⟨?_, h3⟩
  have := Nat.two_pow_add_eq_or_of_lt h3 1
  rw [Nat.mul_one] at this
  have e : 2 ^ k + (a - 2 ^ k) = a := by omega
  rw [e] at this
  apply Nat.eq_of_testBit_eq
  intro i
  rw [Nat.testBit_xor]
  have h4 := congrArg (fun n => Nat.testBit n i) this
  simp only [Nat.testBit_or] at h4
  rw [h4]
  by_cases hi : i = k
  · subst hi
    rw [Nat.testBit_two_pow_self, Nat.testBit_lt_two_pow h3]; rfl
  · rw [Nat.testBit_two_pow_of_ne (Ne.symm hi)]; simp
theorem Lin.ext {f g : Nat → Nat} (hf : Lin f) (hg : Lin g) : ∀ n, (∀ i, i < n → f (2 ^ i) = g (2 ^ i)) → ∀ a, a < 2 ^ n → f a = g a
  | 0, _, a, ha => by
    obtain rfl : a = 0 := by simpa using ha
    rw [hf.zero, hg.zero]
  | n + 1, h, a, ha => by
    by_cases h2 : a < 2 ^ n
    · exact Lin.ext hf hg n (fun i hi => h i (by omega)) a h2
    · obtain ⟨e, hl⟩ := top_bit a n ha (by omega)
      rw [e, hf, hg, h n (by omega), Lin.ext hf hg n (fun i hi => h i (by omega)) _ hl]
/-! ### Reckoning, written out -/
def cutU (n i : Nat) : Nat := n ^^^ 283 * 2 ^ (i - 8) * (n / 2 ^ i % 2)
def rowU (a b k : Nat) : Nat := a * 2 ^ k * (b / 2 ^ k % 2)
def gmU (a b : Nat) : Nat := cutU (cutU (cutU (cutU (cutU (cutU (cutU (0 ^^^ rowU a b 0 ^^^ rowU a b 1 ^^^ rowU a b 2 ^^^ rowU a b 3 ^^^ rowU a b 4 ^^^ rowU a b 5 ^^^ rowU a b 6 ^^^ rowU a b 7) 14) 13) 12) 11) 10) 9) 8 % 256
theorem gm_u (a b : Nat) : gm a b = gmU a b := rfl
theorem comm_base : (List.range 8).all (fun i => (List.range 8).all fun j => gmU (2 ^ i) (2 ^ j) == gmU (2 ^ j) (2 ^ i)) = true := by decide +kernel
theorem assoc_base : (List.range 8).all (fun i => (List.range 8).all fun j => (List.range 8).all fun k => gmU (gmU (2 ^ i) (2 ^ j)) (2 ^ k) == gmU (2 ^ i) (gmU (2 ^ j) (2 ^ k))) = true := by decide +kernel
theorem one_base : (List.range 8).all (fun i => gmU (2 ^ i) 1 == 2 ^ i) = true := by decide +kernel
theorem all2 {p : Nat → Nat → Bool} {n m : Nat} (h : (List.range n).all (fun i => (List.range m).all fun j => p i j) = true) (i j : Nat) (hi : i < n) (hj : j < m) : p i j = true :=
  List.all_eq_true.1 (List.all_eq_true.1 h i (List.mem_range.2 hi)) j (List.mem_range.2 hj)
theorem all1 {p : Nat → Bool} {n : Nat} (h : (List.range n).all p = true) (i : Nat) (hi : i < n) : p i = true := List.all_eq_true.1 h i (List.mem_range.2 hi)
theorem gm_comm (a b : Nat) (ha : a < 256) (hb : b < 256) : gm a b = gm b a := by
  refine Lin.ext (gm_left b) (gm_right b) 8 (fun i hi => ?_) a ha
  refine Lin.ext (gm_right (2 ^ i)) (gm_left (2 ^ i)) 8 (fun j hj => ?_) b hb
  have := all2 comm_base i j hi hj
  exact eq_of_beq this
theorem gm_assoc (a b c : Nat) (ha : a < 256) (hb : b < 256) (hc : c < 256) : gm (gm a b) c = gm a (gm b c) := by
  refine Lin.ext ((gm_left c).comp (gm_left b)) (gm_left (gm b c)) 8 (fun i hi => ?_) a ha
  refine Lin.ext ((gm_left c).comp (gm_right (2 ^ i))) ((gm_right (2 ^ i)).comp (gm_left c)) 8 (fun j hj => ?_) b hb
  refine Lin.ext (gm_right (gm (2 ^ i) (2 ^ j))) ((gm_right (2 ^ i)).comp (gm_right (2 ^ j))) 8 (fun k hk => ?_) c hc
  have := all1 (List.all_eq_true.1 (all1 assoc_base i hi) j (List.mem_range.2 hj)) k hk
  exact eq_of_beq this
theorem gm_one (a : Nat) (ha : a < 256) : gm a 1 = a :=
  Lin.ext (gm_left 1) Lin.id 8 (fun i hi => eq_of_beq (all1 one_base i hi)) a ha
theorem gm_dist (a b c : Nat) : gm a (b ^^^ c) = gm a b ^^^ gm a c := gm_right a b c
theorem gm_zero_right (a : Nat) : gm a 0 = 0 := (gm_right a).zero
theorem gm_zero_left (a : Nat) : gm 0 a = 0 := (gm_left a).zero

/-! ### Inverses -/
def p254 (a : Nat) : Nat :=
  (fun a2 => (fun a3 => (fun a12 => (fun a15 => (fun a60 => gmU (gmU (gmU a60 a60) (gmU a60 a60)) (gmU a12 a2)) (gmU (gmU a15 a15) (gmU a15 a15))) (gmU a12 a3)) (gmU (gmU a3 a3) (gmU a3 a3))) (gmU a2 a)) (gmU a a)
theorem p254_all : (List.range 256).all (fun a => a == 0 || (decide (p254 a < 256) && gmU a (p254 a) == 1)) = true := by decide +kernel
theorem srch_some (p : Nat → Bool) : ∀ n k, k < n → p k = true → ∃ j, srch p n = some j ∧ p j = true := by
  intro n
  induction n with
  | zero => intro k hk; omega
  | succ n ih =>
    intro k hk hp
    by_cases e : k < n
    · obtain ⟨j, h1, h2⟩ := ih k e hp
      exact ⟨j, by simp [srch, h1], h2⟩
    · obtain rfl : k = n := by omega
      cases h : srch p k with
      | some j =>
        refine ⟨j, by simp [srch, h], ?_⟩
        -- what was found below k holds
        have : ∀ n j, srch p n = some j → p j = true := by
          intro n
          induction n with
          | zero => intro j hj; simp [srch] at hj
          | succ n ih2 =>
            intro j hj
            unfold srch at hj
            cases h2 : srch p n with
            | some i => rw [h2] at hj; simp at hj; subst hj; exact ih2 i h2
            | none =>
              rw [h2] at hj
              by_cases hp2 : p n = true
              · simp [hp2] at hj; subst hj; exact hp2
              · simp [hp2] at hj
        exact this k j h
      | none => exact ⟨k, by simp [srch, h, hp], hp⟩
theorem gm_inv (a : Nat) (ha : a < 256) (h : a ≠ 0) : gm a (ginv a) = 1 := by
  have h1 := all1 p254_all a ha
  simp only [Bool.or_eq_true, Bool.and_eq_true, beq_iff_eq, decide_eq_true_eq] at h1
  rcases h1 with h1 | ⟨h1, h2⟩
  · exact absurd h1 h
  · obtain ⟨j, h3, h4⟩ := srch_some (fun b => gm a b == 1) 256 (p254 a) h1 (by rw [gm_u]; simpa using h2)
    unfold ginv
    rw [h3]
    simpa using h4
theorem gm_nought (a b : Nat) (ha : a < 256) (hb : b < 256) : gm a b = 0 ↔ a = 0 ∨ b = 0 := by
  constructor
  · intro h
    by_cases h0 : a = 0
    · exact .inl h0
    · right
      have h1 := gm_assoc (ginv a) a b (ginv_lt a) ha hb
      rw [gm_comm (ginv a) a (ginv_lt a) ha, gm_inv a ha h0, h, gm_zero_right, gm_comm 1 b (by decide) hb, gm_one b hb] at h1
      exact h1
  · rintro (rfl | rfl)
    · exact gm_zero_left b
    · exact gm_zero_right a
theorem inv_unique (a b : Nat) (ha : a < 256) (hb : b < 256) (h : gm a b = 1) : b = ginv a := by
  have h0 : a ≠ 0 := fun e => by rw [e, gm_zero_left] at h; omega
  have h1 := gm_assoc (ginv a) a b (ginv_lt a) ha hb
  rw [gm_comm (ginv a) a (ginv_lt a) ha, gm_inv a ha h0, h, gm_comm 1 b (by decide) hb, gm_one b hb, gm_one _ (ginv_lt a)] at h1
  exact h1
theorem ginv_zero : ginv 0 = 0 := by
  unfold ginv
  have h : ∀ n, srch (fun b => gm 0 b == 1) n = none := by
    intro n
    induction n with
    | zero => rfl
    | succ n ih =>
      unfold srch
      rw [ih]
      simp [gm_zero_left]
  rw [h]; rfl
/-- The inverse, reckoned. -/
theorem ginv_eq (a : Nat) (ha : a < 256) : ginv a = if a = 0 then 0 else p254 a := by
  by_cases h : a = 0
  · rw [if_pos h, h, ginv_zero]
  · rw [if_neg h]
    have h1 := all1 p254_all a ha
    simp only [Bool.or_eq_true, Bool.and_eq_true, beq_iff_eq, decide_eq_true_eq] at h1
    rcases h1 with h1 | ⟨h1, h2⟩
    · exact absurd h1 h
    · exact (inv_unique a _ ha h1 (by rw [gm_u]; exact h2)).symm

/-! ### What a byte stands for -/
/-- The k-th byte of a great number. -/
def at8 (T k : Nat) : Nat := T / 256 ^ k % 256
def SB : Nat := 2869618975290639062594974519597816386035077209210385677284518162336985023502962151465775969507961862820568736543004676439868535775640188584098917533413284844376797297285941524888791401501466624530423689326528054213168201056672989590893583853414110162539122864583953358348775951166211353578440977400428507475679327181038682772945817200201960445064847785221508011893952350688324234443749897213621340677040612747745615276448919507935121141307752692835344166708617454322778699219895865633266409040561742768581056182730443599545881830075941537620590442514083341749674612746994879540562701631131184186066652929592955206755
def BK : Nat := 15785769749828884342349381641981096363179738000380205650940338083111619982568718420166261191398703005748170232611805704157196303061330872280026969925224128193193768962594508714770967646139604422718174787315048227180018877623049221087186576642191304514338137614235628241783007805847129270530950856841486400764657112140097236091222567730363620332611309375046737430203438830593833719428588466121688739068564421474273450162064709239629809347626728710072303178617319436726577534667237755444692000788692193415136619289353224918429728194544458916874716857284226411602766869706570927007876872095880586785662942963508062062930
def bitU (b i : Nat) : Nat := (99 / 2 ^ i + b / 2 ^ ((i + 0) % 8) + b / 2 ^ ((i + 4) % 8) + b / 2 ^ ((i + 5) % 8) + b / 2 ^ ((i + 6) % 8) + b / 2 ^ ((i + 7) % 8)) % 2 * 2 ^ i
def affU (b : Nat) : Nat := (0 + bitU b 0 + bitU b 1 + bitU b 2 + bitU b 3 + bitU b 4 + bitU b 5 + bitU b 6 + bitU b 7) % 256
theorem gaff_u (b : Nat) : gaff b = affU b := rfl
theorem sub_base : (List.range 256).all (fun a => affU (if a = 0 then 0 else p254 a) == at8 SB a) = true := by decide +kernel
theorem gsub_eq (a : Nat) (ha : a < 256) : gsub a = at8 SB a := by
  unfold gsub
  rw [ginv_eq a ha, gaff_u]
  exact eq_of_beq (all1 sub_base a ha)
theorem box_base : (List.range 256).all (fun a => at8 BK (at8 SB a) == a && (at8 SB (at8 BK a) == a && (at8 SB a != a && at8 SB a != 255 - a))) = true := by decide +kernel
theorem box (a : Nat) (ha : a < 256) : at8 BK (gsub a) = a ∧ gsub (at8 BK a) = a ∧ gsub a ≠ a ∧ gsub a ≠ 255 - a := by
  have h := all1 box_base a ha
  simp only [Bool.and_eq_true, beq_iff_eq, bne_iff_ne] at h
  rw [gsub_eq a ha, gsub_eq (at8 BK a) (Nat.mod_lt _ (by decide))]
  exact ⟨h.1, h.2.1, h.2.2.1, h.2.2.2⟩
theorem gsub_inj (a b : Nat) (ha : a < 256) (hb : b < 256) (h : gsub a = gsub b) : a = b := by
  rw [← (box a ha).1, h, (box b hb).1]
theorem srch_holds (p : Nat → Bool) (n k : Nat) (h : srch p n = some k) : k < n ∧ p k = true := by
  refine ⟨srch_lt p n k h, ?_⟩
  induction n with
  | zero => simp [srch] at h
  | succ n ih =>
    unfold srch at h
    cases h2 : srch p n with
    | some i => rw [h2] at h; simp at h; subst h; exact ih h2
    | none =>
      rw [h2] at h
      by_cases hp2 : p n = true
      · simp [hp2] at h; subst h; exact hp2
      · simp [hp2] at h
theorem sub_back (a : Nat) (ha : a < 256) : gsub (gback a) = a := by
  obtain ⟨j, h1, h2⟩ := srch_some (fun b => gsub b == a) 256 (at8 BK a) (Nat.mod_lt _ (by decide)) (by simpa using (box a ha).2.1)
  unfold gback
  rw [h1]
  simpa using h2
theorem back_sub (a : Nat) (ha : a < 256) : gback (gsub a) = a := gsub_inj _ _ (gback_lt _) ha (sub_back _ (gsub_lt a))
end Go.Proofs.YtmbckgfpkmnlnabDoor.gal
