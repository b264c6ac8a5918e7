/-
  WHOSE ADDRESSES THEY ARE, plainly: a table as a list of prefixes (address, bits, peer), rising by both; one laid in (ins); what a tree of bits tells from its root on (en); the longest prefix that has an address (lng).
-/
import Derived.Test.YtmkhojaddedpfaaDoorProg
namespace Go.Proofs.YtmkhojaddedpfaaDoor.pth

/-- An address, how many bits, whose. -/
abbrev En := Nat × Nat × Nat
def lt (e f : En) : Prop := e.1 < f.1 ∨ (e.1 = f.1 ∧ e.2.1 < f.2.1)
instance (e f : En) : Decidable (lt e f) := inferInstanceAs (Decidable (_ ∨ _))
/-- The same prefix. -/
def same (e f : En) : Prop := e.1 = f.1 ∧ e.2.1 = f.2.1
instance (e f : En) : Decidable (same e f) := inferInstanceAs (Decidable (_ ∧ _))
theorem lt_trans {e f g : En} (h : lt e f) (k : lt f g) : lt e g := by unfold lt at *; omega
theorem lt_not_same {e f : En} (h : lt e f) : ¬ same e f := by unfold lt at h; unfold same; omega
theorem lt_irr (e : En) : ¬ lt e e := by unfold lt; omega
theorem lt_asym {e f : En} (h : lt e f) : ¬ lt f e := by unfold lt at *; omega
theorem lt_or (e f : En) : lt e f ∨ same e f ∨ lt f e := by unfold lt same; omega
theorem same_symm {e f : En} (h : same e f) : same f e := by unfold same at *; omega
theorem lt_same {e f g : En} (h : lt e f) (k : same f g) : lt e g := by unfold lt same at *; omega
theorem same_lt {e f g : En} (h : same e f) (k : lt f g) : lt e g := by unfold lt same at *; omega
/-- Two rising lists of the same are the same list. -/
theorem rising_ext : ∀ (L M : List En), L.Pairwise lt → M.Pairwise lt → (∀ e, e ∈ L ↔ e ∈ M) → L = M := by
  intro L
  induction L with
  | nil =>
    intro M _ _ h
    cases M with
    | nil => rfl
    | cons m M => exact absurd ((h m).2 (by simp)) (by simp)
  | cons l L ih =>
    intro M hL hM h
    cases M with
    | nil => exact absurd ((h l).1 (by simp)) (by simp)
    | cons m M =>
      have hL' := List.pairwise_cons.1 hL
      have hM' := List.pairwise_cons.1 hM
      have e : l = m := by
        rcases List.mem_cons.1 ((h l).1 (by simp)) with e | e
        · exact e
        · rcases List.mem_cons.1 ((h m).2 (by simp)) with e2 | e2
          · exact e2.symm
          · exact absurd (hL'.1 m e2) (lt_asym (hM'.1 l e))
      subst e
      rw [ih M hL'.2 hM'.2 (fun x => ?_)]
      have hx := h x
      simp only [List.mem_cons] at hx
      constructor
      · intro k
        rcases hx.1 (.inr k) with e | e
        · subst e; exact absurd (hL'.1 _ k) (lt_irr _)
        · exact e
      · intro k
        rcases hx.2 (.inr k) with e | e
        · subst e; exact absurd (hM'.1 _ k) (lt_irr _)
        · exact e
/-- In a rising list a prefix stands once. -/
theorem rising_same {L : List En} (hL : L.Pairwise lt) {e f : En} (he : e ∈ L) (hf : f ∈ L) (hs : same e f) : e = f := by
  induction L with
  | nil => cases he
  | cons l L ih =>
    have h' := List.pairwise_cons.1 hL
    rcases List.mem_cons.1 he with e1 | e1 <;> rcases List.mem_cons.1 hf with e2 | e2
    · rw [e1, e2]
    · subst e1; exact absurd hs (lt_not_same (h'.1 _ e2))
    · subst e2; exact absurd (same_symm hs) (lt_not_same (h'.1 _ e1))
    · exact ih h'.2 e1 e2
/-- A prefix is laid in: where it stands already it is turned. -/
def ins (e : En) : List En → List En
  | [] => [e]
  | f :: L => if lt e f then e :: f :: L else if lt f e then f :: ins e L else e :: L
theorem mem_ins (e x : En) : ∀ L : List En, L.Pairwise lt → (x ∈ ins e L ↔ x = e ∨ (x ∈ L ∧ ¬ same x e)) := by
  intro L
  induction L with
  | nil => intro _; simp [ins]
  | cons f L ih =>
    intro hL
    have h' := List.pairwise_cons.1 hL
    unfold ins
    split
    · rename_i h
      have : ∀ y ∈ f :: L, ¬ same y e := fun y hy => by
        rcases List.mem_cons.1 hy with e1 | e1
        · subst e1; exact fun k => lt_not_same h (same_symm k)
        · exact fun k => lt_not_same (lt_trans h (h'.1 _ e1)) (same_symm k)
      constructor
      · intro k
        rcases List.mem_cons.1 k with e1 | e1
        · exact .inl e1
        · exact .inr ⟨e1, this x e1⟩
      · rintro (k | ⟨k, _⟩)
        · rw [k]; simp
        · exact List.mem_cons_of_mem _ k
    · rename_i h1
      split
      · rename_i h
        rw [List.mem_cons, ih h'.2, List.mem_cons]
        constructor
        · rintro (k | k | ⟨k1, k2⟩)
          · subst k; exact .inr ⟨.inl rfl, lt_not_same h⟩
          · exact .inl k
          · exact .inr ⟨.inr k1, k2⟩
        · rintro (k | ⟨k1 | k1, k2⟩)
          · exact .inr (.inl k)
          · exact .inl k1
          · exact .inr (.inr ⟨k1, k2⟩)
      · rename_i h2
        have hs : same e f := by rcases lt_or e f with k | k | k; exact absurd k h1; exact k; exact absurd k h2
        rw [List.mem_cons]
        constructor
        · rintro (k | k)
          · exact .inl k
          · exact .inr ⟨List.mem_cons_of_mem _ k, fun q => lt_not_same (same_lt hs (h'.1 _ k)) (same_symm q)⟩
        · rintro (k | ⟨k1, k2⟩)
          · exact .inl k
          · rcases List.mem_cons.1 k1 with e1 | e1
            · subst e1; exact absurd (same_symm hs) k2
            · exact .inr e1
theorem rising_ins (e : En) : ∀ L : List En, L.Pairwise lt → (ins e L).Pairwise lt := by
  intro L
  induction L with
  | nil => intro _; simp [ins]
  | cons f L ih =>
    intro hL
    have h' := List.pairwise_cons.1 hL
    unfold ins
    split
    · rename_i h
      refine List.pairwise_cons.2 ⟨fun y hy => ?_, hL⟩
      rcases List.mem_cons.1 hy with e1 | e1
      · rw [e1]; exact h
      · exact lt_trans h (h'.1 _ e1)
    · rename_i h1
      split
      · rename_i h
        refine List.pairwise_cons.2 ⟨fun y hy => ?_, ih h'.2⟩
        rcases (mem_ins e y L h'.2).1 hy with e1 | e1
        · rw [e1]; exact h
        · exact h'.1 _ e1.1
      · rename_i h2
        have hs : same e f := by rcases lt_or e f with k | k | k; exact absurd k h1; exact k; exact absurd k h2
        exact List.pairwise_cons.2 ⟨fun y hy => same_lt hs (h'.1 _ hy), h'.2⟩
theorem len_ins_new (e : En) : ∀ L : List En, (∀ f ∈ L, ¬ same f e) → (ins e L).length = L.length + 1 := by
  intro L
  induction L with
  | nil => intro _; rfl
  | cons f L ih =>
    intro h
    unfold ins
    split
    · rfl
    · rename_i h1
      split
      · rw [List.length_cons, ih (fun g hg => h g (by simp [hg])), List.length_cons]
      · rename_i h2
        have hs : same e f := by rcases lt_or e f with k | k | k; exact absurd k h1; exact k; exact absurd k h2
        exact absurd (same_symm hs) (h f (by simp))
theorem len_ins_old (e : En) : ∀ L : List En, L.Pairwise lt → (∃ f ∈ L, same f e) → (ins e L).length = L.length := by
  intro L
  induction L with
  | nil => rintro _ ⟨f, hf, _⟩; cases hf
  | cons f L ih =>
    rintro hL ⟨g, hg, hs⟩
    have h' := List.pairwise_cons.1 hL
    unfold ins
    split
    · rename_i h
      rcases List.mem_cons.1 hg with e1 | e1
      · subst e1; exact absurd (same_symm hs) (lt_not_same h)
      · exact absurd (same_symm hs) (lt_not_same (lt_trans h (h'.1 _ e1)))
    · split
      · rename_i h
        rcases List.mem_cons.1 hg with e1 | e1
        · subst e1; exact absurd hs (lt_not_same h)
        · rw [List.length_cons, ih h'.2 ⟨g, e1, hs⟩, List.length_cons]
      · rfl
/-- What lies above all others comes last. -/
theorem ins_end (e : En) : ∀ L : List En, (∀ f ∈ L, lt f e) → ins e L = L ++ [e] := by
  intro L
  induction L with
  | nil => intro _; rfl
  | cons f L ih =>
    intro h
    have h1 := h f (by simp)
    unfold ins
    rw [if_neg (lt_asym h1), if_pos h1, ih (fun g hg => h g (by simp [hg])), List.cons_append]

/-- The node behind the first d bits, u: whose it is. -/
def at' (L : List En) (d u : Nat) : Option Nat := (L.find? fun e => decide (same e (u * 2 ^ (32 - d), d, 0))).map fun e => e.2.2
theorem at_some {L : List En} (hL : L.Pairwise lt) {d u p : Nat} : at' L d u = some p ↔ (u * 2 ^ (32 - d), d, p) ∈ L := by
  unfold at'
  constructor
  · intro h
    rw [Option.map_eq_some_iff] at h
    obtain ⟨e, he, rfl⟩ := h
    have h1 := List.mem_of_find?_eq_some he
    have h2 := List.find?_some he
    simp only [decide_eq_true_eq] at h2
    obtain ⟨h3, h4⟩ := h2
    obtain ⟨a, b, c⟩ := e
    simp only at h3 h4
    subst h3 h4
    exact h1
  · intro h
    cases hf : L.find? (fun e => decide (same e (u * 2 ^ (32 - d), d, 0))) with
    | none =>
      rw [List.find?_eq_none] at hf
      have := hf _ h
      simp [same] at this
    | some e =>
      have h1 := List.mem_of_find?_eq_some hf
      have h2 := List.find?_some hf
      simp only [decide_eq_true_eq] at h2
      have : e = (u * 2 ^ (32 - d), d, p) := rising_same hL h1 h ⟨h2.1, h2.2⟩
      rw [this]; rfl
theorem at_none {L : List En} (hL : L.Pairwise lt) {d u : Nat} : at' L d u = none ↔ ∀ p, (u * 2 ^ (32 - d), d, p) ∉ L := by
  cases h : at' L d u with
  | none => simp only [true_iff]; intro p hp; rw [(at_some hL).2 hp] at h; cases h
  | some p => simp only [reduceCtorEq, false_iff, Classical.not_forall, Classical.not_not]; exact ⟨p, (at_some hL).1 h⟩
/-- Each prefix is one: its address has no bit behind its bits. -/
structure Ok (L : List En) : Prop where
  rising : L.Pairwise lt
  each : ∀ e ∈ L, e.2.1 ≤ 32 ∧ e.1 < 4294967296 ∧ e.1 % 2 ^ (32 - e.2.1) = 0 ∧ e.2.2 < 8
theorem Ok.nil : Ok [] := ⟨List.Pairwise.nil, fun _ h => (nomatch h)⟩
theorem Ok.filter {L : List En} (h : Ok L) (f : En → Bool) : Ok (L.filter f) := ⟨h.rising.filter f, fun e he => h.each e (List.mem_filter.1 he).1⟩
theorem Ok.ins {L : List En} (h : Ok L) {e : En} (he : e.2.1 ≤ 32 ∧ e.1 < 4294967296 ∧ e.1 % 2 ^ (32 - e.2.1) = 0 ∧ e.2.2 < 8) : Ok (ins e L) :=
  ⟨rising_ins e L h.rising, fun x hx => by rcases (mem_ins e x L h.rising).1 hx with k | k; rw [k]; exact he; exact h.each x k.1⟩
theorem two_pos (k : Nat) : 0 < 2 ^ k := Nat.two_pow_pos k
theorem two_up {d : Nat} (h : d ≤ 32) : 2 ^ d * 2 ^ (32 - d) = 4294967296 := by rw [← Nat.pow_add, show d + (32 - d) = 32 from by omega]
theorem two_half {d : Nat} (h : d < 32) : 2 ^ (32 - d) = 2 * 2 ^ (32 - (d + 1)) := by rw [show 32 - d = 32 - (d + 1) + 1 from by omega, Nat.pow_succ]; omega
/-- The node of a prefix. -/
theorem Ok.node {L : List En} (h : Ok L) {e : En} (he : e ∈ L) : e.1 = e.1 / 2 ^ (32 - e.2.1) * 2 ^ (32 - e.2.1) ∧ e.1 / 2 ^ (32 - e.2.1) < 2 ^ e.2.1 := by
  obtain ⟨h1, h2, h3, _⟩ := h.each e he
  constructor
  · have := Nat.div_add_mod e.1 (2 ^ (32 - e.2.1))
    rw [h3, Nat.mul_comm] at this
    omega
  · rw [Nat.div_lt_iff_lt_mul (two_pos _), two_up h1]
    exact h2
/-- What stands at a node. -/
def own (D : Nat → Nat → Option Nat) (d v : Nat) : List En := match D d v with
  | none => []
  | some p => [(v * 2 ^ (32 - d), d, p)]
/-- What stands at a node and below it, k bits deep. -/
def en (D : Nat → Nat → Option Nat) : Nat → Nat → Nat → List En
  | 0, d, v => own D d v
  | k + 1, d, v => own D d v ++ (en D k (d + 1) (2 * v) ++ en D k (d + 1) (2 * v + 1))
theorem mem_own {D : Nat → Nat → Option Nat} {d v : Nat} {e : En} : e ∈ own D d v ↔ e.2.1 = d ∧ e.1 = v * 2 ^ (32 - d) ∧ D d v = some e.2.2 := by
  unfold own
  cases h : D d v with
  | none => simp
  | some p =>
    obtain ⟨a, b, c⟩ := e
    simp only [List.mem_singleton, Prod.mk.injEq, Option.some.injEq]
    constructor
    · rintro ⟨rfl, rfl, rfl⟩; exact ⟨rfl, rfl, rfl⟩
    · rintro ⟨rfl, rfl, rfl⟩; exact ⟨rfl, rfl, rfl⟩
/-- Where it lies. -/
theorem en_bounds {D : Nat → Nat → Option Nat} : ∀ (k d v : Nat), k + d = 32 → ∀ e ∈ en D k d v, v * 2 ^ (32 - d) ≤ e.1 ∧ e.1 < (v + 1) * 2 ^ (32 - d) ∧ d ≤ e.2.1 := by
  intro k
  induction k with
  | zero =>
    intro d v _ e he
    obtain ⟨h1, h2, _⟩ := mem_own.1 he
    have := two_pos (32 - d)
    rw [Nat.add_mul]
    omega
  | succ k ih =>
    intro d v hk e he
    have hh := two_half (show d < 32 by omega)
    rw [en, List.mem_append, List.mem_append] at he
    have hp := two_pos (32 - (d + 1))
    rw [hh]
    have ih0 := fun u hu => ih (d + 1) u hu e
    clear ih
    generalize 2 ^ (32 - (d + 1)) = T at *
    have a1 : v * (2 * T) = 2 * (v * T) := by rw [Nat.mul_left_comm]
    have a2 : (v + 1) * (2 * T) = 2 * (v * T) + 2 * T := by rw [Nat.add_mul, a1]; omega
    have b1 : 2 * v * T = 2 * (v * T) := Nat.mul_assoc _ _ _
    have b2 : (2 * v + 1) * T = 2 * (v * T) + T := by rw [Nat.add_mul, b1]; omega
    have b3 : (2 * v + 1 + 1) * T = 2 * (v * T) + 2 * T := by rw [Nat.add_mul, b2]; omega
    rcases he with h | h | h
    · obtain ⟨h1, h2, _⟩ := mem_own.1 h
      rw [hh, a1] at h2
      rw [a1, a2]
      omega
    · have := ih0 (2 * v) (by omega) h
      rw [b1, b2] at this
      rw [a1, a2]
      omega
    · have := ih0 (2 * v + 1) (by omega) h
      rw [b2, b3] at this
      rw [a1, a2]
      omega
theorem en_rising {D : Nat → Nat → Option Nat} : ∀ (k d v : Nat), k + d = 32 → (en D k d v).Pairwise lt := by
  have ho : ∀ d v, (own D d v).Pairwise lt := fun d v => by unfold own; split <;> simp
  intro k
  induction k with
  | zero => intro d v _; exact ho d v
  | succ k ih =>
    intro d v hk
    have hh := two_half (show d < 32 by omega)
    have hp := two_pos (32 - (d + 1))
    rw [en, List.pairwise_append, List.pairwise_append]
    refine ⟨ho d v, ⟨ih _ _ (by omega), ih _ _ (by omega), fun x hx y hy => ?_⟩, fun x hx y hy => ?_⟩
    · have h1 := en_bounds k (d + 1) (2 * v) (by omega) x hx
      have h2 := en_bounds k (d + 1) (2 * v + 1) (by omega) y hy
      exact .inl (by omega)
    · obtain ⟨h1, h2, _⟩ := mem_own.1 hx
      have e1 : v * 2 ^ (32 - d) = 2 * v * 2 ^ (32 - (d + 1)) := by rw [hh, Nat.mul_left_comm, Nat.mul_assoc]
      rcases List.mem_append.1 hy with h | h
      · have h3 := en_bounds k (d + 1) (2 * v) (by omega) y h
        unfold lt
        omega
      · have h3 := en_bounds k (d + 1) (2 * v + 1) (by omega) y h
        rw [Nat.add_mul] at h3
        unfold lt
        omega
theorem mem_en {D : Nat → Nat → Option Nat} : ∀ (k d v : Nat), ∀ e, e ∈ en D k d v ↔ ∃ j u, j ≤ k ∧ u / 2 ^ j = v ∧ e.2.1 = d + j ∧ e.1 = u * 2 ^ (32 - (d + j)) ∧ D (d + j) u = some e.2.2 := by
  intro k
  induction k with
  | zero =>
    intro d v e
    rw [en, mem_own]
    constructor
    · rintro ⟨h1, h2, h3⟩; exact ⟨0, v, Nat.le_refl _, by simp, h1, h2, h3⟩
    · rintro ⟨j, u, hj, hu, h1, h2, h3⟩
      obtain rfl : j = 0 := by omega
      simp at hu
      subst hu
      exact ⟨h1, h2, h3⟩
  | succ k ih =>
    intro d v e
    rw [en, List.mem_append, List.mem_append, mem_own, ih, ih]
    constructor
    · rintro (⟨h1, h2, h3⟩ | ⟨j, u, hj, hu, h1, h2, h3⟩ | ⟨j, u, hj, hu, h1, h2, h3⟩)
      · exact ⟨0, v, by omega, by simp, h1, h2, h3⟩
      · refine ⟨j + 1, u, by omega, ?_, by omega, ?_, ?_⟩
        · rw [Nat.pow_succ, ← Nat.div_div_eq_div_mul, hu]; omega
        · rw [show d + (j + 1) = d + 1 + j from by omega]; exact h2
        · rw [show d + (j + 1) = d + 1 + j from by omega]; exact h3
      · refine ⟨j + 1, u, by omega, ?_, by omega, ?_, ?_⟩
        · rw [Nat.pow_succ, ← Nat.div_div_eq_div_mul, hu]; omega
        · rw [show d + (j + 1) = d + 1 + j from by omega]; exact h2
        · rw [show d + (j + 1) = d + 1 + j from by omega]; exact h3
    · rintro ⟨j, u, hj, hu, h1, h2, h3⟩
      cases j with
      | zero =>
        simp at hu
        subst hu
        exact .inl ⟨h1, h2, h3⟩
      | succ j =>
        rw [Nat.pow_succ, ← Nat.div_div_eq_div_mul] at hu
        rw [show d + (j + 1) = d + 1 + j from by omega] at h1 h2 h3
        rcases Nat.mod_two_eq_zero_or_one (u / 2 ^ j) with hm | hm
        · exact .inr (.inl ⟨j, u, by omega, by omega, h1, h2, h3⟩)
        · exact .inr (.inr ⟨j, u, by omega, by omega, h1, h2, h3⟩)
/-- FROM THE ROOT ON ALL ARE TOLD, RISING. -/
theorem en_all {L : List En} (h : Ok L) : en (at' L) 32 0 0 = L := by
  refine rising_ext _ _ (en_rising 32 0 0 (by omega)) h.rising fun e => ?_
  rw [mem_en]
  constructor
  · rintro ⟨j, u, hj, hu, h1, h2, h3⟩
    rw [Nat.zero_add] at h1 h2 h3
    have := (at_some h.rising).1 h3
    obtain ⟨a, b, c⟩ := e
    simp only at h1 h2 this
    subst h1 h2
    exact this
  · intro he
    obtain ⟨n1, n2⟩ := h.node he
    refine ⟨e.2.1, e.1 / 2 ^ (32 - e.2.1), (h.each e he).1, ?_, by omega, ?_, ?_⟩
    · exact Nat.div_eq_of_lt n2
    · rw [Nat.zero_add]; exact n1
    · rw [Nat.zero_add, at_some h.rising, ← n1]
      exact he
/-- Below a node of which nothing is known nothing stands. -/
theorem en_nil {D : Nat → Nat → Option Nat} {k d v : Nat} (h : ∀ j u, j ≤ k → u / 2 ^ j = v → D (d + j) u = none) : en D k d v = [] := by
  rw [List.eq_nil_iff_forall_not_mem]
  intro e he
  obtain ⟨j, u, hj, hu, _, _, h3⟩ := (mem_en k d v e).1 he
  rw [h j u hj hu] at h3
  cases h3
/-- A node's place is its own. -/
theorem at_ins {L : List En} (h : L.Pairwise lt) {d0 u0 p d u : Nat} : at' (ins (u0 * 2 ^ (32 - d0), d0, p) L) d u = if d = d0 ∧ u = u0 then some p else at' L d u := by
  have hp := two_pos (32 - d)
  split
  · rename_i k
    obtain ⟨rfl, rfl⟩ := k
    rw [at_some (rising_ins _ _ h), mem_ins _ _ _ h]
    exact .inl rfl
  · rename_i k
    have hs : ∀ q, ¬ same (u * 2 ^ (32 - d), d, q) (u0 * 2 ^ (32 - d0), d0, p) := fun q hq => by
      obtain ⟨q1, q2⟩ := hq
      simp only at q1 q2
      subst q2
      exact k ⟨rfl, Nat.eq_of_mul_eq_mul_right hp q1⟩
    have hm : ∀ q, (u * 2 ^ (32 - d), d, q) ∈ ins (u0 * 2 ^ (32 - d0), d0, p) L ↔ (u * 2 ^ (32 - d), d, q) ∈ L := fun q => by
      rw [mem_ins _ _ _ h]
      constructor
      · rintro (e | e)
        · exact absurd (by rw [e]; exact ⟨rfl, rfl⟩) (hs q)
        · exact e.1
      · exact fun e => .inr ⟨e, hs q⟩
    cases hc : at' L d u with
    | none =>
      rw [at_none (rising_ins _ _ h)]
      intro q hq
      exact (at_none h).1 hc q ((hm q).1 hq)
    | some q =>
      rw [at_some (rising_ins _ _ h), hm]
      exact (at_some h).1 hc
/-- The longest prefix that has address a, of fewer than n bits. -/
def lng (L : List En) (a : Nat) : Nat → Option Nat
  | 0 => none
  | n + 1 => match at' L n (a / 2 ^ (32 - n)) with
    | some p => some p
    | none => lng L a n
/-- Has a prefix an address? -/
def hasA (e : En) (a : Nat) : Prop := a / 2 ^ (32 - e.2.1) = e.1 / 2 ^ (32 - e.2.1)
instance (e : En) (a : Nat) : Decidable (hasA e a) := inferInstanceAs (Decidable (_ = _))
theorem has_at {L : List En} (h : Ok L) {a n p : Nat} : at' L n (a / 2 ^ (32 - n)) = some p ↔ ∃ e ∈ L, e.2.1 = n ∧ hasA e a ∧ e.2.2 = p := by
  rw [at_some h.rising]
  constructor
  · intro he
    have := (h.node he).1
    refine ⟨_, he, rfl, ?_, rfl⟩
    unfold hasA
    simp only
    rw [Nat.mul_div_cancel _ (two_pos _)]
  · rintro ⟨e, he, rfl, hh, rfl⟩
    unfold hasA at hh
    rw [hh, ← (h.node he).1]
    exact he
/-- What the longest is: one that has it, and none that has it has more bits. -/
theorem lng_some {L : List En} (h : Ok L) {a : Nat} : ∀ (n p : Nat), lng L a n = some p → ∃ e ∈ L, e.2.1 < n ∧ hasA e a ∧ e.2.2 = p ∧ ∀ f ∈ L, hasA f a → f.2.1 < n → f.2.1 ≤ e.2.1 := by
  intro n
  induction n with
  | zero => intro p h; cases h
  | succ n ih =>
    intro p hp
    unfold lng at hp
    split at hp
    · rename_i q hq
      cases hp
      obtain ⟨e, he, h1, h2, h3⟩ := (has_at h).1 hq
      exact ⟨e, he, by omega, h2, h3, fun f _ _ hf => by omega⟩
    · rename_i hq
      obtain ⟨e, he, h1, h2, h3, h4⟩ := ih p hp
      refine ⟨e, he, by omega, h2, h3, fun f hf hfa hfn => ?_⟩
      refine h4 f hf hfa ?_
      rcases Nat.lt_or_ge f.2.1 n with k | k
      · exact k
      · exfalso
        have : at' L n (a / 2 ^ (32 - n)) = some f.2.2 := (has_at h).2 ⟨f, hf, by omega, hfa, rfl⟩
        rw [hq] at this
        cases this
theorem lng_none {L : List En} (h : Ok L) {a : Nat} : ∀ (n : Nat), lng L a n = none → ∀ f ∈ L, hasA f a → n ≤ f.2.1 := by
  intro n
  induction n with
  | zero => intro _ f _ _; exact Nat.zero_le _
  | succ n ih =>
    intro hp f hf hfa
    unfold lng at hp
    split at hp
    · cases hp
    · rename_i hq
      have := ih hp f hf hfa
      rcases Nat.lt_or_ge n f.2.1 with k | k
      · exact k
      · exfalso
        have : at' L n (a / 2 ^ (32 - n)) = some f.2.2 := (has_at h).2 ⟨f, hf, by omega, hfa, rfl⟩
        rw [hq] at this
        cases this
/-- Two that have an address, and as many bits, are the same prefix. -/
theorem has_same {L : List En} (h : Ok L) {e f : En} {a : Nat} (he : e ∈ L) (hf : f ∈ L) (h1 : hasA e a) (h2 : hasA f a) (hb : e.2.1 = f.2.1) : e = f := by
  refine rising_same h.rising he hf ⟨?_, hb⟩
  have n1 := (h.node he).1
  have n2 := (h.node hf).1
  unfold hasA at h1 h2
  rw [n1, n2, ← h1, ← h2, hb]
end Go.Proofs.YtmkhojaddedpfaaDoor.pth
