/-
  WHAT MAY TURN: some blocks of what lies; new ones besides.
-/
import Derived.Test.YtnomfkmdckmjeaaBlk
import Derived.Maps.OwnSet
namespace Go.Proofs.Ytnomfkmdckmjeaa
open Go.RowKit

/-- Of what lies only blocks of F have turned. -/
structure Chg (F : Nat → Prop) (w w' : World) : Prop where
  low : Below 0 w w'
  same : ∀ k, k < w.heap.size → ¬ F k → w'.heap[k]? = w.heap[k]?
theorem Chg.refl (F : Nat → Prop) (w : World) : Chg F w w := ⟨Below.refl _ _, fun _ _ _ => rfl⟩
theorem Chg.size {F : Nat → Prop} {w w' : World} (h : Chg F w w') : w.heap.size ≤ w'.heap.size := h.low.size
theorem Chg.trans {F : Nat → Prop} {a b c : World} (h : Chg F a b) (k : Chg F b c) : Chg F a c :=
  ⟨h.low.trans k.low, fun i hi hx => (k.same i (Nat.lt_of_lt_of_le hi h.low.size) hx).trans (h.same i hi hx)⟩
theorem Chg.mono {F G : Nat → Prop} {w w' : World} (h : Chg F w w') (hFG : ∀ k, F k → G k) : Chg G w w' := ⟨h.low, fun k hk hx => h.same k hk (fun q => hx (hFG k q))⟩
theorem Chg.below {F : Nat → Prop} {w w' : World} (h : Below w.heap.size w w') : Chg F w w' := ⟨h.mono (Nat.zero_le _), fun k hk _ => h.block k hk⟩
theorem Chg.alloc {F : Nat → Prop} {a w : World} (h : Chg F a w) (o : Obj) : Chg F a (w.alloc o) := h.trans (Chg.below ((Below.refl _ _).alloc (Nat.le_refl _) _))
theorem Chg.drew {F : Nat → Prop} {a w : World} (h : Chg F a w) : Chg F a w.drew := h.trans (Chg.below (Below.refl _ w).drew)
theorem Chg.set {F : Nat → Prop} {a w : World} (h : Chg F a w) {b : Nat} (hb : F b ∨ a.heap.size ≤ b) (o : Nat) (v : Value) : Chg F a (w.setCell ⟨b, o, none⟩ v) :=
  ⟨h.low.trans ((Below.refl 0 w).setCell (Nat.zero_le _) _), fun k hk hx => (Below.heap_setCell _ _ _ _ (fun e => by
    have e : k = b := e
    subst e
    rcases hb with hb | hb
    · exact hx hb
    · omega)).trans (h.same k hk hx)⟩
/-- One block of F, or a new one, has turned on the way. -/
theorem Chg.but {F : Nat → Prop} {a w w' : World} {row : Option Nat} (h : Chg F a w) (hg : w.grownBy w' row) (hr : ∀ j, row = some j → F j ∨ a.heap.size ≤ j) : Chg F a w' :=
  ⟨h.low.trans ⟨hg.os, hg.tape, hg.output, hg.size, fun k hk => absurd hk (Nat.not_lt_zero _)⟩, fun k hk hx => (hg.block k (Nat.lt_of_lt_of_le hk h.low.size) (fun e => by
    rcases hr k e.symm with q | q
    · exact hx q
    · omega)).trans (h.same k hk hx)⟩
theorem Chg.blk {F : Nat → Prop} {w w' : World} (h : Chg F w w') {b t : Nat} {l : List Value} (hB : Blk w b t l) (hx : ¬ F b) : Blk w' b t l := by
  have := hB.lt
  unfold Blk at hB ⊢
  rw [h.same b this hx]
  exact hB
theorem Chg.toBelow {F : Nat → Prop} {w w' : World} (h : Chg F w w') {B : Nat} (hB : B ≤ w.heap.size) (hF : ∀ k, F k → B ≤ k) : Below B w w' :=
  ⟨h.low.os, h.low.tape, h.low.output, h.low.size, fun k hk => h.same k (by omega) (fun q => by have := hF k q; omega)⟩
theorem Chg.map {F : Nat → Prop} {w w' : World} (h : Chg F w w') {H : Type} {P : Program} {k : TypeId} {R : Value → Option (DataW H × List MemPlace)} {b n : Nat} {D : DataW H} (ho : w.ownsMap P k R b n D) (hx : ¬ F b) : w'.ownsMap P k R b n D := by
  have hlt := ho.lt
  obtain ⟨es, clock, hb, r⟩ := ho
  exact ⟨es, clock, (h.same b hlt hx).trans hb, r⟩
end Go.Proofs.Ytnomfkmdckmjeaa
