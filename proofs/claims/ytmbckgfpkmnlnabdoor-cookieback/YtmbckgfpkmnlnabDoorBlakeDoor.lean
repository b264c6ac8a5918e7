/-
  WHAT THE LISTED TABLES GIVE: package blake's three tables at package level, as cells.
-/
import Derived.Test.YtmbckgfpkmnlnabDoorRows
import Derived.Test.YtmbckgfpkmnlnabDoorBlakeTab
import Derived.ProofKit
import Derived.LaidMore
import Derived.OpenShut
import Derived.Stop.Joined
import Derived.MakeChecks
namespace Go.Proofs.YtmbckgfpkmnlnabDoor.bla
open Go.ChangeShapes Go.WideShapes Go.ChangeAt Go.WideMaps Go.WideElems Go.RowKit
open Go.Proofs.YtmbckgfpkmnlnabDoor.sha (h0)

/-- An array of numbers, as cells. -/
theorem flat_cells {H : Type} {enc : TypeId × Value → H} {P : Program} {w : World} {base : Nat} {spare : Nat → Bool} {held : Bool} {fuel t n e : Nat} {k : IntKind} {cs : List Value} {l : List Int} {p : List MemPlace}
    (ht : P.underlying t = some (.array n e)) (he : P.underlying e = some (.int k)) (hc : P.cellsOf e = 1) (hl : l.length = n)
    (h : DataW.trod enc P w base spare held fuel t cs = some (.agg (l.map fun a => .lit (.int k a)), p)) : ∀ j, j < n → cs[j]? = some (.int k (l.getD j 0)) := by
  obtain ⟨xs, m1, rfl, hx1, _, hn8, hel⟩ := DataW.trod_array ht h
  simp only [Prod.mk.injEq, DataW.agg.injEq] at hx1
  intro j hj
  have h0 := hel j hj
  rw [hc, Nat.mul_one] at h0
  have hxk : j < xs.length := by omega
  rw [List.getElem?_eq_getElem hxk] at h0
  obtain ⟨v, e1, e2, _⟩ := DataW.trod_int he h0
  have e3 : (xs.map (·.1))[j]? = some (.lit (.int k v)) := by
    rw [List.getElem?_map, List.getElem?_eq_getElem hxk, Option.map_some, e2]
  rw [← hx1.1, List.getElem?_map, List.getElem?_eq_getElem (show j < l.length by omega), Option.map_some] at e3
  have e4 : l.getD j 0 = v := by
    rw [List.getD_eq_getElem?_getD, List.getElem?_eq_getElem (show j < l.length by omega)]
    simpa using e3
  rw [e4]
  have e5 : (cs.drop j)[0]? = some (.int k v) := by
    have := congrArg (fun l => l[0]?) e1
    simpa using this
  simpa using e5
/-- An array of arrays of numbers, as cells. -/
theorem nest_cells {H : Type} {enc : TypeId × Value → H} {P : Program} {w : World} {base : Nat} {spare : Nat → Bool} {held : Bool} {fuel t n e s u : Nat} {k : IntKind} {cs : List Value} {L : List (List Int)} {p : List MemPlace}
    (ht : P.underlying t = some (.array n e)) (he : P.underlying e = some (.array s u)) (hu : P.underlying u = some (.int k)) (hc : P.cellsOf u = 1) (hce : P.cellsOf e = s) (hl : L.length = n) (hs : ∀ x ∈ L, x.length = s)
    (h : DataW.trod enc P w base spare held fuel t cs = some (.agg (L.map fun l => .agg (l.map fun a => .lit (.int k a))), p)) : ∀ r j, r < n → j < s → cs[r * s + j]? = some (.int k ((L.getD r []).getD j 0)) := by
  obtain ⟨xs, m1, rfl, hx1, _, hn8, hel⟩ := DataW.trod_array ht h
  simp only [Prod.mk.injEq, DataW.agg.injEq] at hx1
  intro r j hr hj
  have h0 := hel r hr
  rw [hce] at h0
  have hxk : r < xs.length := by omega
  rw [List.getElem?_eq_getElem hxk] at h0
  have hLr : r < L.length := by omega
  have e3 : (xs.map (·.1))[r]? = some ((xs[r]'hxk).1) := by
    rw [List.getElem?_map, List.getElem?_eq_getElem hxk, Option.map_some]
  rw [← hx1.1, List.getElem?_map, List.getElem?_eq_getElem hLr, Option.map_some] at e3
  have e4 := Option.some.inj e3
  have e5 : L.getD r [] = L[r]'hLr := by rw [List.getD_eq_getElem?_getD, List.getElem?_eq_getElem hLr]; rfl
  have h1 : DataW.trod enc P w base spare held m1 e ((cs.drop (r * s)).take s) = some (.agg ((L[r]'hLr).map fun a => .lit (.int k a)), (xs[r]'hxk).2) := by
    rw [h0, e4]
  have h2 := flat_cells he hu hc (hs _ (List.getElem_mem hLr)) h1 j hj
  rw [List.getElem?_take, if_pos hj, List.getElem?_drop] at h2
  rw [h2, e5]
def rowsL : List (List Int) := [[0, 1, 2, 3, 4, 5, 6, 7, 8, 9, 10, 11, 12, 13, 14, 15], [14, 10, 4, 8, 9, 15, 13, 6, 1, 12, 0, 2, 11, 7, 5, 3], [11, 8, 12, 0, 5, 2, 15, 13, 10, 14, 3, 6, 7, 1, 9, 4], [7, 9, 3, 1, 13, 12, 11, 14, 2, 6, 5, 10, 4, 0, 15, 8], [9, 0, 5, 7, 2, 4, 10, 15, 14, 1, 11, 12, 6, 8, 3, 13], [2, 12, 6, 10, 0, 11, 8, 3, 4, 13, 7, 5, 15, 14, 1, 9], [12, 5, 1, 15, 14, 13, 4, 10, 0, 7, 6, 3, 9, 2, 8, 11], [13, 11, 7, 14, 12, 1, 3, 9, 5, 0, 15, 4, 8, 6, 2, 10], [6, 15, 14, 9, 11, 3, 0, 8, 12, 2, 13, 7, 1, 4, 10, 5], [10, 2, 8, 4, 7, 6, 1, 5, 15, 11, 9, 14, 3, 12, 13, 0]]
def rowsP : List (List Int) := [[0, 4, 8, 12], [1, 5, 9, 13], [2, 6, 10, 14], [3, 7, 11, 15], [0, 5, 10, 15], [1, 6, 11, 12], [2, 7, 8, 13], [3, 4, 9, 14]]
theorem rowsL_flat : ∀ r, r < 10 → ∀ j, j < 16 → (rowsL.getD r []).getD j 0 = ((linesL.getD (r * 16 + j) 0 : Nat) : Int) := by decide +kernel
theorem rowsP_flat : ∀ r, r < 8 → ∀ j, j < 4 → (rowsP.getD r []).getD j 0 = ((placesL.getD (r * 4 + j) 0 : Nat) : Int) := by decide +kernel
def laidB : List (String × DataW Unit) := [("souterrain/blake.iv", Rows.laid_souterrain_blake_iv), ("souterrain/blake.lines", Rows.laid_souterrain_blake_lines), ("souterrain/blake.places", Rows.laid_souterrain_blake_places)]
theorem laid_iv : (Rows.laid_souterrain_blake_iv : DataW Unit) = .agg ((h0.map fun n : Nat => (n : Int)).map fun a => .lit (.int .u32 a)) := by kernel_rfl
theorem laid_lines : (Rows.laid_souterrain_blake_lines : DataW Unit) = .agg (rowsL.map fun l => .agg (l.map fun a => .lit (.int .u8 a))) := by kernel_rfl
theorem laid_places : (Rows.laid_souterrain_blake_places : DataW Unit) = .agg (rowsP.map fun l => .agg (l.map fun a => .lit (.int .u8 a))) := by kernel_rfl
theorem tabs {W : World} (h : laidMetH Tryd.prog laidB W) : Tab W := by
  rw [MakeChecks.laidMetH_plain _ _ _ (by kernel_rfl)] at h
  unfold laidB at h
  rw [laid_iv, laid_lines, laid_places] at h
  obtain ⟨ps, ⟨g0, t0, cs0, f0, p0, q0, hg0, ht0, hv0, hd0, ⟨g1, t1, cs1, f1, p1, q1, hg1, ht1, hv1, hd1, ⟨g2, t2, cs2, f2, p2, q2, hg2, ht2, hv2, hd2, _, _⟩, _⟩, _⟩, _, _⟩ := h
  obtain rfl : 0 = g0 := Option.some.inj ((show Tryd.prog.globalNamed "souterrain/blake.iv" = some 0 by kernel_rfl).symm.trans hg0)
  obtain rfl : 2 = g1 := Option.some.inj ((show Tryd.prog.globalNamed "souterrain/blake.lines" = some 2 by kernel_rfl).symm.trans hg1)
  obtain rfl : 3 = g2 := Option.some.inj ((show Tryd.prog.globalNamed "souterrain/blake.places" = some 3 by kernel_rfl).symm.trans hg2)
  obtain rfl : 65 = t0 := Option.some.inj ((show (Tryd.prog.globals[0]?).map (·.type) = some 65 by kernel_rfl).symm.trans ht0)
  obtain rfl : 102 = t1 := Option.some.inj ((show (Tryd.prog.globals[2]?).map (·.type) = some 102 by kernel_rfl).symm.trans ht1)
  obtain rfl : 104 = t2 := Option.some.inj ((show (Tryd.prog.globals[3]?).map (·.type) = some 104 by kernel_rfl).symm.trans ht2)
  have c32 : Tryd.prog.cellsOf 28 = 1 := by kernel_rfl
  have c8 : Tryd.prog.cellsOf 5 = 1 := by kernel_rfl
  have cL : Tryd.prog.cellsOf 101 = 16 := by kernel_rfl
  have cP : Tryd.prog.cellsOf 103 = 4 := by kernel_rfl
  have k0 := flat_cells Tryd.underlying65 Tryd.underlying28 c32 rfl hd0
  have k1 := nest_cells Tryd.underlying102 Tryd.underlying101 Tryd.underlying5 c8 cL rfl (by decide) hd1
  have k2 := nest_cells Tryd.underlying104 Tryd.underlying103 Tryd.underlying5 c8 cP rfl (by decide) hd2
  refine ⟨fun j v hv => ?_, fun j v hv => ?_, fun j v hv => ?_⟩
  · have hj : j < 8 := (List.getElem?_eq_some_iff.1 hv).1
    rw [Nat.zero_add, World.var?_cell hg0 hv0 j, ← Array.getElem?_toList, k0 j hj, ← hv, wd_get h0 j hj]
    rw [List.getD_eq_getElem?_getD, List.getD_eq_getElem?_getD, List.getElem?_map, List.getElem?_eq_getElem (show j < h0.length from hj)]
    rfl
  · have hj : j < 160 := by have := (List.getElem?_eq_some_iff.1 hv).1; rwa [by8_length, linesL_length] at this
    have e : j = j / 16 * 16 + j % 16 := by omega
    have h1 := k1 (j / 16) (j % 16) (by omega) (by omega)
    rw [rowsL_flat _ (by omega) _ (by omega), ← e] at h1
    rw [Nat.zero_add, World.var?_cell hg1 hv1 j, ← Array.getElem?_toList, h1, ← hv, by8_get linesL j (by rw [linesL_length]; exact hj)]
  · have hj : j < 32 := by have := (List.getElem?_eq_some_iff.1 hv).1; rwa [by8_length, placesL_length] at this
    have e : j = j / 4 * 4 + j % 4 := by omega
    have h1 := k2 (j / 4) (j % 4) (by omega) (by omega)
    rw [rowsP_flat _ (by omega) _ (by omega), ← e] at h1
    rw [Nat.zero_add, World.var?_cell hg2 hv2 j, ← Array.getElem?_toList, h1, ← hv, by8_get placesL j (by rw [placesL_length]; exact hj)]
theorem tabs_met (os : Os) (args : Array Value) : laidMetH Tryd.prog laidB ((World.doorLaid Tryd.prog 400 os).forCall (fun _ _ => 0) ⟨#[], args, []⟩).memory :=
  laidMetH_of_parts3 (fuel := 8) (laidMet_of_run' 8 (by kernel_rfl) (by kernel_rfl)) (by kernel_rfl) (by kernel_rfl)
end Go.Proofs.YtmbckgfpkmnlnabDoor.bla
