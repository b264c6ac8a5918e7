/-
  A TABLE IN MEMORY: a tree of bits; node (d, v), behind the first d bits v, lies at block B d v; a node's cells tell whose it is (at') and where its two children lie.
-/
import Derived.Test.YtmkhojaddedpfaaDoorPlainPaths
import Derived.Test.YtmkhojaddedpfaaDoorBut
namespace Go.Proofs.YtmkhojaddedpfaaDoor.pth
open Go.RowKit

/-- A pointer to block k's begin. -/
def ptr : Option Nat → Value
  | none => .pointer none
  | some k => .pointer (some ⟨k, 0, none⟩)
theorem ptr_none : ptr none = .pointer none := rfl
theorem ptr_some (k : Nat) : ptr (some k) = .pointer (some ⟨k, 0, none⟩) := rfl
def adC (o : Option Nat) (d v : Nat) : Nat := if o.isSome then v * 2 ^ (32 - d) else 0
def btC (o : Option Nat) (d : Nat) : Nat := if o.isSome then d else 0
def prC (o : Option Nat) : Nat := o.getD 0
def cellsN (o : Option Nat) (d v : Nat) (p q : Option Nat) : List Value :=
  [.bool o.isSome, .int .u32 (adC o d v : Int), .int .i64 (btC o d : Int), .int .i64 (prC o : Int), ptr p, ptr q]
def tailN (d n : Nat) : List Value := if d = 0 then [.int .i64 (n : Int)] else []
def tyN (d : Nat) : Nat := if d = 0 then 49 else 47
/-- Where the nodes lie. -/
structure Shape (B : Nat → Nat → Option Nat) (L : List En) (b : Nat) : Prop where
  root : B 0 0 = some b
  dom : ∀ d v k, B d v = some k → d ≤ 32 ∧ v < 2 ^ d
  inj : ∀ d v d' v' k, B d v = some k → B d' v' = some k → d = d' ∧ v = v'
  up : ∀ d v k, B (d + 1) v = some k → ∃ j, B d (v / 2) = some j
  all : ∀ d v p, at' L d v = some p → ∃ k, B d v = some k
structure Tab (w : World) (b : Nat) (L : List En) (B : Nat → Nat → Option Nat) : Prop where
  ok : Ok L
  shape : Shape B L b
  blk : ∀ d v k, B d v = some k → Blk w k (tyN d) (cellsN (at' L d v) d v (B (d + 1) (2 * v)) (B (d + 1) (2 * v + 1)) ++ tailN d L.length)
theorem Tab.mono {w w' : World} {b : Nat} {L : List En} {B : Nat → Nat → Option Nat} (h : Tab w b L B) (hw : ∀ d v k, B d v = some k → w'.heap[k]? = w.heap[k]?) : Tab w' b L B :=
  ⟨h.ok, h.shape, fun d v k hk => by
    have := h.blk d v k hk
    unfold Blk at this ⊢
    rw [hw d v k hk]
    exact this⟩
theorem Tab.lt {w : World} {b : Nat} {L : List En} {B : Nat → Nat → Option Nat} (h : Tab w b L B) {d v k : Nat} (hk : B d v = some k) : k < w.heap.size := (h.blk d v k hk).lt
theorem Tab.below {w w' : World} {b : Nat} {L : List En} {B : Nat → Nat → Option Nat} (h : Tab w b L B) (hb : Below w.heap.size w w') : Tab w' b L B :=
  h.mono fun _ _ k hk => hb.block k (h.lt hk)
theorem Tab.drew {w : World} {b : Nat} {L : List En} {B : Nat → Nat → Option Nat} (h : Tab w b L B) : Tab w.drew b L B := h.mono fun _ _ _ _ => rfl
/-- What is not in the tree is nobody's. -/
theorem Shape.nobody {B : Nat → Nat → Option Nat} {L : List En} {b : Nat} (h : Shape B L b) {d v : Nat} (hB : B d v = none) : at' L d v = none := by
  cases hc : at' L d v with
  | none => rfl
  | some p =>
    obtain ⟨k, hk⟩ := h.all d v p hc
    rw [hB] at hk
    cases hk
theorem Shape.deep {B : Nat → Nat → Option Nat} {L : List En} {b : Nat} (h : Shape B L b) {d v : Nat} (hd : 32 < d) : B d v = none := by
  cases hc : B d v with
  | none => rfl
  | some k => have := (h.dom d v k hc).1; omega
theorem Shape.kid {B : Nat → Nat → Option Nat} {L : List En} {b : Nat} (h : Shape B L b) {d v : Nat} (hB : B d (v / 2) = none) : B (d + 1) v = none := by
  cases hc : B (d + 1) v with
  | none => rfl
  | some k =>
    obtain ⟨j, hj⟩ := h.up d v k hc
    rw [hB] at hj
    cases hj
/-- Below what is not there nothing is. -/
theorem Shape.below {B : Nat → Nat → Option Nat} {L : List En} {b : Nat} (h : Shape B L b) {d : Nat} : ∀ (j u : Nat), B d (u / 2 ^ j) = none → B (d + j) u = none := by
  intro j
  induction j with
  | zero => intro u hu; simpa using hu
  | succ j ih =>
    intro u hu
    refine h.kid (ih (u / 2) ?_)
    rw [Nat.div_div_eq_div_mul, Nat.mul_comm, ← Nat.pow_succ]
    exact hu
/-- The bit by which the way goes on. -/
def bt (a k : Nat) : Nat := if k < 32 then a / 2 ^ (31 - k) % 2 else 0
theorem bt_lt (a k : Nat) : bt a k < 2 := by unfold bt; split <;> omega
theorem bt_num {a k : Nat} (hk : k ≤ 32) : a * 2 ^ k % 4294967296 / 2147483648 = bt a k := by
  unfold bt
  split
  · rename_i h
    have e1 : (4294967296 : Nat) = 2 ^ k * 2 ^ (32 - k) := (two_up hk).symm
    have e2 : (2147483648 : Nat) = 2 ^ k * 2 ^ (31 - k) := by rw [← Nat.pow_add, show k + (31 - k) = 31 from by omega]
    rw [e1, Nat.mul_comm a, Nat.mul_mod_mul_left, e2, Nat.mul_div_mul_left _ _ (two_pos k)]
    have e3 : 2 ^ (32 - k) = 2 ^ (31 - k) * 2 := by rw [show 32 - k = 31 - k + 1 from by omega, Nat.pow_succ]
    rw [e3, Nat.mod_mul_right_div_self]
  · obtain rfl : k = 32 := by omega
    rw [show (2 : Nat) ^ 32 = 4294967296 from rfl, Nat.mul_mod_left]
theorem way {a k : Nat} (hk : k < 32) : 2 * (a / 2 ^ (32 - k)) + bt a k = a / 2 ^ (32 - (k + 1)) := by
  unfold bt
  rw [if_pos hk, show 32 - (k + 1) = 31 - k from by omega]
  have e3 : 2 ^ (32 - k) = 2 ^ (31 - k) * 2 := by rw [show 32 - k = 31 - k + 1 from by omega, Nat.pow_succ]
  rw [e3, ← Nat.div_div_eq_div_mul]
  omega
theorem Shape.way {B : Nat → Nat → Option Nat} {L : List En} {b : Nat} (h : Shape B L b) {a k : Nat} (hk : k ≤ 32) : B (k + 1) (2 * (a / 2 ^ (32 - k)) + bt a k) = B (k + 1) (a / 2 ^ (32 - (k + 1))) := by
  rcases Nat.lt_or_ge k 32 with c | c
  · rw [pth.way c]
  · rw [h.deep (by omega), h.deep (by omega)]
/-- On the way to an address: what is not there at some depth is not there deeper. -/
theorem Shape.ends {B : Nat → Nat → Option Nat} {L : List En} {b : Nat} (h : Shape B L b) {a k : Nat} (hB : B k (a / 2 ^ (32 - k)) = none) (j : Nat) (hj : k ≤ j) : B j (a / 2 ^ (32 - j)) = none := by
  rcases Nat.lt_or_ge 32 j with c | c
  · exact h.deep c
  · obtain ⟨i, rfl⟩ : ∃ i, j = k + i := ⟨j - k, by omega⟩
    refine h.below i _ ?_
    rw [Nat.div_div_eq_div_mul, ← Nat.pow_add, show 32 - (k + i) + i = 32 - k from by omega]
    exact hB
theorem lng_stop {L : List En} {a k : Nat} (h : ∀ j, k ≤ j → j ≤ 32 → at' L j (a / 2 ^ (32 - j)) = none) : ∀ n, k ≤ n → n ≤ 33 → lng L a n = lng L a k := by
  intro n
  induction n with
  | zero => intro hk _; rw [show k = 0 from by omega]
  | succ n ih =>
    intro hk hn
    rcases Nat.lt_or_ge n k with c | c
    · rw [show k = n + 1 from by omega]
    · rw [lng, h n c (by omega)]
      exact ih c (by omega)
theorem Shape.longest {B : Nat → Nat → Option Nat} {L : List En} {b : Nat} (h : Shape B L b) {a k : Nat} (hk : k ≤ 33) (hB : B k (a / 2 ^ (32 - k)) = none) : lng L a 33 = lng L a k :=
  lng_stop (fun j hj _ => h.nobody (h.ends hB j hj)) 33 hk (Nat.le_refl _)
end Go.Proofs.YtmkhojaddedpfaaDoor.pth
