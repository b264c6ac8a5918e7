/-
  REGIONS THAT DRAW THEIR ORDER, WHOSE OPERATIONS ONLY READ AND WHOSE CALLEES MAKE NEW MEMORY AT MOST: one walk, in the text's order, in the worlds that have all that stood at the region's head.
-/
import Derived.WalkKit
import Derived.BigQuiet
namespace Go.Proofs.Ytnomfkmdckmjeaa
open Go.RowKit

/-- The worlds that have all that w has: new blocks at most. -/
def Up (w : World) : Type := { x : World // Below w.heap.size w x }
theorem Up.some (w : World) : Nonempty (Up w) := ⟨⟨w, Below.refl _ _⟩⟩
theorem up_drawn (w : World) : Below w.heap.size w { w with drawn := w.drawn + 1 } := ⟨rfl, rfl, rfl, Nat.le_refl _, fun _ _ => rfl⟩
theorem wp_region_up {P : Program} {id : Nat} {Q : Exit → Act → World → Prop} {a : Act} {w : World} {l : List Oper} (hm : P.follows .mixedOrders = true) (hB : Region.lexB .any l.toArray = true)
    (h : wpQuiet P l.toArray (fun w' => ∃ x : Up w, w' = x.1) (fun a' => ∀ w', (∃ x : Up w, w' = x.1) → Q .normal a' w') l a) : (Code.region id l.toArray true).wp P Q a w :=
  wp_region_quiet (C := fun w' => ∃ x : Up w, w' = x.1) hm hB ⟨⟨_, up_drawn w⟩, rfl⟩ (by simpa using h)
theorem calls_up {P : Program} {f : FuncId} {args : Array Value} {w : World} {x : Up w} {v : Value}
    (h : Calls P f args x.1 fun e w' => e = .returned v ∧ Below x.1.heap.size x.1 w') : Calls P f args x.1 fun e w'' => e = .returned v ∧ ∃ y : Up w, w'' = y.1 :=
  h.mono fun _ w' ⟨he, hb⟩ => ⟨he, ⟨w', x.2.trans (hb.mono x.2.size)⟩, rfl⟩
end Go.Proofs.Ytnomfkmdckmjeaa
