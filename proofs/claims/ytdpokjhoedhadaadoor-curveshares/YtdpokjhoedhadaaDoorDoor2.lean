/-
  BOTH LISTED TABLES, as cells.
-/
import Derived.Test.YtdpokjhoedhadaaDoorDoor
import Derived.Test.YtdpokjhoedhadaaDoorCurveNum
namespace Go.Proofs.YtdpokjhoedhadaaDoor
open Go.ChangeShapes Go.WideShapes Go.ChangeAt Go.WideMaps Go.WideElems Go.RowKit

theorem tab_head {W : World} {n : String} {G : Nat} {l : List Int} {rest : List (String × DataW Unit)} {ps : List MemPlace} (hl : l.length = 8) (hn : Tryd.prog.globalNamed n = some G) (ht : (Tryd.prog.globals[G]?).map (·.type) = some 59)
    (h : DataW.LaidVars Tryd.prog W ((n, .agg (l.map fun a => .lit (.int .u32 a))) :: rest) ps) : limb.Tab W G l ∧ ∃ qs, DataW.LaidVars Tryd.prog W rest qs := by
  obtain ⟨g0, t0, cs0, f0, p0, q0, hg0, ht0, hv0, hd0, hrest, _⟩ := h
  refine ⟨?_, _, hrest⟩
  obtain rfl := Option.some.inj (hn.symm.trans hg0)
  obtain rfl := Option.some.inj (ht.symm.trans ht0)
  obtain ⟨xs, m1, rfl, hx1, _, hn8, hel⟩ := DataW.trod_array Tryd.underlying59 hd0
  have c1 : Tryd.prog.cellsOf 57 = 1 := by kernel_rfl
  simp only [Prod.mk.injEq, DataW.agg.injEq] at hx1
  intro k hk
  have h0 := hel k hk
  rw [c1, Nat.mul_one] at h0
  have hxk : k < xs.length := by omega
  rw [List.getElem?_eq_getElem hxk] at h0
  obtain ⟨v, e1, e2, _⟩ := DataW.trod_int Tryd.underlying57 h0
  have e3 : (xs.map (·.1))[k]? = some (.lit (.int .u32 v)) := by
    rw [List.getElem?_map, List.getElem?_eq_getElem hxk, Option.map_some, e2]
  rw [← hx1.1, List.getElem?_map, List.getElem?_eq_getElem (show k < l.length by omega), Option.map_some] at e3
  have e4 : l.getD k 0 = v := by
    rw [List.getD_eq_getElem?_getD, List.getElem?_eq_getElem (show k < l.length by omega)]
    simpa using e3
  rw [e4, World.var?_cell hg0 hv0 k]
  have e5 : (cs0.toList.drop k)[0]? = some (.int .u32 v) := by
    have := congrArg (fun l => l[0]?) e1
    simpa using this
  simpa using e5
def laid2 : List (String × DataW Unit) := [("souterrain/elem.prime", Rows.laid_souterrain_elem_prime), ("souterrain/elem.primeLessTwo", Rows.laid_souterrain_elem_primeLessTwo)]
theorem both_tabs {W : World} (h : laidMetH Tryd.prog laid2 W) : crv.Tabs W := by
  rw [MakeChecks.laidMetH_plain _ _ _ (by kernel_rfl)] at h
  obtain ⟨ps, hv, _, _⟩ := h
  obtain ⟨h1, qs, hr⟩ := tab_head (l := limb.primeL) (G := 1) rfl (by kernel_rfl) (by kernel_rfl) hv
  obtain ⟨h2, _⟩ := tab_head (l := limb.lessL) (G := 0) rfl (by kernel_rfl) (by kernel_rfl) hr
  exact ⟨h1, h2⟩
theorem both_met (os : Os) (args : Array Value) : laidMetH Tryd.prog laid2 ((World.doorLaid Tryd.prog 400 os).forCall (fun _ _ => 0) ⟨#[], args, []⟩).memory :=
  laidMetH_of_parts3 (fuel := 8) (laidMet_of_run' 8 (by kernel_rfl) (by kernel_rfl)) (by kernel_rfl) (by kernel_rfl)
end Go.Proofs.YtdpokjhoedhadaaDoor
