/-
  A TABLE OF package elem's: limbs that lie at package level.
-/
import Derived.Test.YtdpokjhoedhadaaDoorArrLimb
namespace Go.Proofs.YtdpokjhoedhadaaDoor.limb
open Go.RowKit
/-- Block b begins with these limbs. -/
def Tab (w : World) (b : Nat) (l : List Int) : Prop := ∀ k, k < 8 → w.cell? ⟨b, k, none⟩ = some (.int .u32 (l.getD k 0))
theorem Tab.lt {w : World} {b : Nat} {l : List Int} (h : Tab w b l) : b < w.heap.size := by
  rcases Nat.lt_or_ge b w.heap.size with hlt | hge
  · exact hlt
  · have := h 0 (by decide)
    unfold World.cell? at this
    simp [Array.getElem?_eq_none hge] at this
theorem Tab.below {w w' : World} {b B : Nat} {l : List Int} (h : Tab w b l) (hb : Below B w w') (hlt : b < B) : Tab w' b l := fun k hk => (hb.cell hlt).trans (h k hk)
theorem Tab.range {w : World} {b : Nat} {l : List Int} (h : Tab w b l) (hl : l.length = 8) : w.rangeAt b 0 (l.map (Value.int .u32)) := fun j v hv => by
  have hj : j < l.length := by
    have := (List.getElem?_eq_some_iff.1 hv).1
    simpa using this
  rw [Nat.zero_add, h j (by omega)]
  simp only [List.getElem?_map, List.getElem?_eq_getElem hj, Option.map_some, Option.some.injEq] at hv
  rw [← hv]
  simp [hj]
/-- A whole load of it. -/
theorem wpList_load_tab {P : Program} {ops : Array Oper} {rest : List Oper} {op : Oper} {a : Act} {w : World} {Q : Exit → Act → World → Prop} (hgd : op.guard = none) (ty : TypeId) (x : Operand) (ho : op.op = .load ty x)
    (b : Nat) (hx : a.eval x = .pointer (some ⟨b, 0, none⟩)) (l : List Int) (hl : l.length = 8) (d : TypeDesc) (hA : Tab w b l)
    (hu : P.underlying ty = some d) (hd : d.isRow = true) (hi : (P.info? ty).map (·.size) = some 8)
    (h : wpList P ops Q rest (a.put op.dst (.agg (ints l))) w) : wpList P ops Q (op :: rest) a w :=
  wpList_load_mid hgd ty x ho b 0 hx (l.map (Value.int .u32)) d (hA.range hl) hu hd (by rw [hi]; simp [hl]) h
end Go.Proofs.YtdpokjhoedhadaaDoor.limb
