/-
  A MAP FROM INTS TO BOOLS THAT THE CALL MAKES: what it says of each int; a look-up as one equation, a store of 'true' at the operation.
-/
import Derived.Test.YtcbneedlkhiahaaProg
import Derived.WalkKit
import Derived.Maps.Own
import Derived.Maps.Views
import Derived.Maps.OwnSet
namespace Go.Proofs.Ytcbneedlkhiahaa
open Go.RowKit Go.Maps

theorem plainElem_bool_inv {H : Type} {P : Program} {e : TypeId} (he : P.underlying e = some .bool) {v : Value} {z : DataW H × List MemPlace} (h : plainElem P e v = some z) : ∃ x, v = .bool x ∧ z = (.lit (.bool x), []) := by
  unfold plainElem at h
  rw [he] at h
  cases v <;> simp at h
  exact ⟨_, rfl, h.symm⟩
theorem intKeyed : Keyed Try.prog 3 := int_keyed Try.underlying3
theorem zeroBOOL (w : World) : (zeroValue 4).run Try.prog w = .ok (.bool false) w := by kernel_rfl
/-- Block b is a map of at most n entries that says f of each int (false, where it has no entry). -/
def Seen (w : World) (b n : Nat) (f : Int → Bool) : Prop :=
  ∃ D : DataW Unit, w.ownsMap Try.prog 3 (plainElem Try.prog 4) b n D ∧ ∀ x, (Lit.int .i64 x).wf = true → D.atKey (.int .i64 x) (.lit (.bool false)) = .lit (.bool (f x))
theorem Seen.made (w : World) : Seen (w.alloc (.map #[] 0)) w.heap.size 0 (fun _ => false) :=
  ⟨.map [], World.ownsMap_made _ _ _ _, fun _ _ => rfl⟩
theorem Seen.lt {w : World} {b n : Nat} {f : Int → Bool} (h : Seen w b n f) : b < w.heap.size := by
  obtain ⟨D, hown, _⟩ := h
  exact hown.lt
theorem Seen.kept {w w' : World} {row : Option Nat} {b n : Nat} {f : Int → Bool} (h : Seen w b n f) (hg : w.grownBy w' row) (hne : some b ≠ row) : Seen w' b n f := by
  obtain ⟨D, hown, hat⟩ := h
  exact ⟨D, hown.kept hg hne, hat⟩
theorem Seen.mono {w : World} {b n m : Nat} {f : Int → Bool} (h : Seen w b n f) (hn : n ≤ m) : Seen w b m f := by
  obtain ⟨D, hown, hat⟩ := h
  exact ⟨D, hown.mono hn, hat⟩
theorem Seen.same {w : World} {b n : Nat} {f g : Int → Bool} (h : Seen w b n f) (hf : ∀ x, f x = g x) : Seen w b n g := by
  rw [show g = f from funext fun x => (hf x).symm]
  exact h
theorem Seen.look {w : World} {b n : Nat} {f : Int → Bool} (h : Seen w b n f) (x : Int) (hx : (Lit.int .i64 x).wf = true) :
    (Instr.lookup 33 (.map (some b)) (.int .i64 x) false).run Try.prog w = .ok (.bool (f x)) w := by
  obtain ⟨D, hown, hat⟩ := h
  obtain ⟨v, ps, hrun, hv⟩ := hown.lookup intKeyed Try.underlying33 (zeroBOOL w) (plainElem_bool Try.underlying4 false) (keyOf_int_mk Try.underlying3 hx)
  obtain ⟨y, rfl, hy⟩ := plainElem_bool_inv Try.underlying4 hv
  have h1 := congrArg Prod.fst hy
  simp only [] at h1
  rw [hat x hx] at h1
  injection h1 with h1
  injection h1 with h1
  rw [hrun, h1]
theorem wpList_seen {w : World} {ops : Array Oper} {rest : List Oper} {o : Oper} {a : Act} {Q : Exit → Act → World → Prop} (hg : o.guard = none) (m x v : Operand) (hop : o.op = Op.mapUpdate 33 m x v)
    (b n : Nat) (f : Int → Bool) (hm : a.eval m = .map (some b)) (hS : Seen w b n f) (hn : n < maxLen) (z : Int) (hx : a.eval x = .int .i64 z) (hv : a.eval v = .bool true) (hz : (Lit.int .i64 z).wf = true)
    (hK : ∀ w', Seen w' b (n + 1) (fun y => f y || decide (y = z)) → w.grownBy w' (some b) → wpList Try.prog ops Q rest (a.put o.dst undef) w') : wpList Try.prog ops Q (o :: rest) a w := by
  obtain ⟨D, hown, hat⟩ := hS
  have hk := keyOf_int_mk Try.underlying3 hz
  refine wpList_mapUpdate_own w hg m x v 33 hop 3 4 intKeyed Try.underlying33 _ b n D hm hown hn _ _ _ hx hv hk _ [] (plainElem_bool Try.underlying4 true) ?_
  intro w' hown' hgr
  refine hK w' ⟨_, hown', fun y hy => ?_⟩ hgr
  by_cases e : y = z
  · subst e
    rw [atKey_put_same hown.isMap (intKeyed.key hk)]
    simp
  · rw [atKey_put_other (fun h => e (by injection h)), hat y hy]
    simp [e]
end Go.Proofs.Ytcbneedlkhiahaa
