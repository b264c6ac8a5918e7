/-
  WHAT THE LISTED TABLE GIVES: package sha's roots at package level, as cells.
  WHAT THE LISTED TABLES GIVE: package blake's three tables and package sha's one at package level, as cells.
-/
import Derived.Test.YtmkhojaddedpfaaDoorRows
import Derived.Test.YtmkhojaddedpfaaDoorShaTaken
import Derived.ProofKit
import Derived.LaidMore
import Derived.OpenShut
import Derived.Stop.Joined
import Derived.MakeChecks
import Derived.Test.YtmkhojaddedpfaaDoorBlakeDoor
namespace Go.Proofs.YtmkhojaddedpfaaDoor.sha
open Go.ChangeShapes Go.WideShapes Go.ChangeAt Go.WideMaps Go.WideElems Go.RowKit

theorem tab_of {W : World} {n : String} {G : Nat} {l : List Int} (hl : l.length = 64) (hn : Tryd.prog.globalNamed n = some G) (ht : (Tryd.prog.globals[G]?).map (·.type) = some 96)
    (h : laidMet Tryd.prog [(n, .agg (l.map fun a => .lit (.int .u32 a)))] W) : ∀ k, k < 64 → W.cell? ⟨G, k, none⟩ = some (.int .u32 (l.getD k 0)) := by
  obtain ⟨ps, ⟨g0, t0, cs0, f0, p0, q0, hg0, ht0, hv0, hd0, _, _⟩, _, _⟩ := h
  obtain rfl := Option.some.inj (hn.symm.trans hg0)
  obtain rfl := Option.some.inj (ht.symm.trans ht0)
  obtain ⟨xs, m1, rfl, hx1, _, hn8, hel⟩ := DataW.trod_array Tryd.underlying96 hd0
  have c1 : Tryd.prog.cellsOf 27 = 1 := by kernel_rfl
  simp only [Prod.mk.injEq, DataW.agg.injEq] at hx1
  intro k hk
  have h0 := hel k hk
  rw [c1, Nat.mul_one] at h0
  have hxk : k < xs.length := by omega
  rw [List.getElem?_eq_getElem hxk] at h0
  obtain ⟨v, e1, e2, _⟩ := DataW.trod_int Tryd.underlying27 h0
  have e3 : (xs.map (·.1))[k]? = some (.lit (.int .u32 v)) := by
    rw [List.getElem?_map, List.getElem?_eq_getElem hxk, Option.map_some, e2]
  rw [← hx1.1, List.getElem?_map, List.getElem?_eq_getElem (show k < l.length by omega), Option.map_some] at e3
  have e4 : l.getD k 0 = v := by
    rw [List.getD_eq_getElem?_getD, List.getElem?_eq_getElem (show k < l.length by omega)]
    simpa using e3
  rw [e4, World.var?_cell hg0 hv0 k]
  have e5 : (cs0.toList.drop k)[0]? = some (.int .u32 v) := by
    have := congrArg (fun l => l[0]?) e1
    simpa using this
  simpa using e5
def laidR : List (String × DataW Unit) := [("souterrain/sha.roots", Rows.laid_souterrain_sha_roots)]
theorem laidR_eq : (Rows.laid_souterrain_sha_roots : DataW Unit) = .agg ((kL.map fun n : Nat => (n : Int)).map fun a => .lit (.int .u32 a)) := by kernel_rfl
theorem roots_tab {W : World} (h : laidMetH Tryd.prog laidR W) : Tab W := by
  rw [MakeChecks.laidMetH_plain _ _ _ (by kernel_rfl)] at h
  unfold laidR at h
  rw [laidR_eq] at h
  intro k hk
  have := tab_of (G := 1) (l := kL.map fun n : Nat => (n : Int)) rfl (by kernel_rfl) (by kernel_rfl) h k hk
  rw [this, List.getD_eq_getElem?_getD, List.getD_eq_getElem?_getD, List.getElem?_map, List.getElem?_eq_getElem (show k < kL.length from hk)]
  rfl
theorem roots_met (os : Os) (args : Array Value) : laidMetH Tryd.prog laidR ((World.doorLaid Tryd.prog 400 os).forCall (fun _ _ => 0) ⟨#[], args, []⟩).memory :=
  laidMetH_of_parts3 (fuel := 8) (laidMet_of_run' 8 (by kernel_rfl) (by kernel_rfl)) (by kernel_rfl) (by kernel_rfl)
end Go.Proofs.YtmkhojaddedpfaaDoor.sha
namespace Go.Proofs.YtmkhojaddedpfaaDoor.kdf
open Go.ChangeShapes Go.WideShapes Go.ChangeAt Go.WideMaps Go.WideElems Go.RowKit
open Go.Proofs.YtmkhojaddedpfaaDoor.bla (flat_cells nest_cells rowsL rowsP rowsL_flat rowsP_flat laid_iv laid_lines laid_places linesL placesL linesL_length placesL_length)
open Go.Proofs.YtmkhojaddedpfaaDoor.sha (h0 kL)

/-- All four tables. -/
structure Tab (w : World) : Prop where
  bla : bla.Tab w
  sha : sha.Tab w
theorem Tab.grown {w w' : World} (h : Tab w) (hb : Below w.heap.size w w') : Tab w' := ⟨h.bla.grown hb, h.sha.grown hb⟩
theorem laid_roots : (Rows.laid_souterrain_sha_roots : DataW Unit) = .agg ((kL.map fun n : Nat => (n : Int)).map fun a => .lit (.int .u32 a)) := sha.laidR_eq
def laidK : List (String × DataW Unit) := [("souterrain/blake.iv", Rows.laid_souterrain_blake_iv), ("souterrain/blake.lines", Rows.laid_souterrain_blake_lines), ("souterrain/blake.places", Rows.laid_souterrain_blake_places), ("souterrain/sha.roots", Rows.laid_souterrain_sha_roots)]
theorem tabs {W : World} (h : laidMetH Tryd.prog laidK W) : Tab W := by
  rw [MakeChecks.laidMetH_plain _ _ _ (by kernel_rfl)] at h
  unfold laidK at h
  rw [laid_iv, laid_lines, laid_places, laid_roots] at h
  obtain ⟨ps, ⟨g0, t0, cs0, f0, p0, q0, hg0, ht0, hv0, hd0, ⟨g1, t1, cs1, f1, p1, q1, hg1, ht1, hv1, hd1, ⟨g2, t2, cs2, f2, p2, q2, hg2, ht2, hv2, hd2, ⟨g3, t3, cs3, f3, p3, q3, hg3, ht3, hv3, hd3, _, _⟩, _⟩, _⟩, _⟩, _, _⟩ := h
  obtain rfl : 0 = g0 := Option.some.inj ((show Tryd.prog.globalNamed "souterrain/blake.iv" = some 0 by kernel_rfl).symm.trans hg0)
  obtain rfl : 2 = g1 := Option.some.inj ((show Tryd.prog.globalNamed "souterrain/blake.lines" = some 2 by kernel_rfl).symm.trans hg1)
  obtain rfl : 3 = g2 := Option.some.inj ((show Tryd.prog.globalNamed "souterrain/blake.places" = some 3 by kernel_rfl).symm.trans hg2)
  obtain rfl : 1 = g3 := Option.some.inj ((show Tryd.prog.globalNamed "souterrain/sha.roots" = some 1 by kernel_rfl).symm.trans hg3)
  obtain rfl : 71 = t0 := Option.some.inj ((show (Tryd.prog.globals[0]?).map (·.type) = some 71 by kernel_rfl).symm.trans ht0)
  obtain rfl : 101 = t1 := Option.some.inj ((show (Tryd.prog.globals[2]?).map (·.type) = some 101 by kernel_rfl).symm.trans ht1)
  obtain rfl : 103 = t2 := Option.some.inj ((show (Tryd.prog.globals[3]?).map (·.type) = some 103 by kernel_rfl).symm.trans ht2)
  obtain rfl : 96 = t3 := Option.some.inj ((show (Tryd.prog.globals[1]?).map (·.type) = some 96 by kernel_rfl).symm.trans ht3)
  have c32 : Tryd.prog.cellsOf 27 = 1 := by kernel_rfl
  have c8 : Tryd.prog.cellsOf 5 = 1 := by kernel_rfl
  have cL : Tryd.prog.cellsOf 100 = 16 := by kernel_rfl
  have cP : Tryd.prog.cellsOf 102 = 4 := by kernel_rfl
  have k0 := flat_cells Tryd.underlying71 Tryd.underlying27 c32 rfl hd0
  have k1 := nest_cells Tryd.underlying101 Tryd.underlying100 Tryd.underlying5 c8 cL rfl (by decide) hd1
  have k2 := nest_cells Tryd.underlying103 Tryd.underlying102 Tryd.underlying5 c8 cP rfl (by decide) hd2
  have k3 := flat_cells Tryd.underlying96 Tryd.underlying27 c32 rfl hd3
  refine ⟨⟨fun j v hv => ?_, fun j v hv => ?_, fun j v hv => ?_⟩, fun k hk => ?_⟩
  · have hj : j < 8 := (List.getElem?_eq_some_iff.1 hv).1
    rw [Nat.zero_add, World.var?_cell hg0 hv0 j, ← Array.getElem?_toList, k0 j hj, ← hv, wd_get h0 j hj]
    rw [List.getD_eq_getElem?_getD, List.getD_eq_getElem?_getD, List.getElem?_map, List.getElem?_eq_getElem (show j < h0.length from hj)]
    rfl
  · have hj : j < 160 := by have := (List.getElem?_eq_some_iff.1 hv).1; rwa [by8_length, linesL_length] at this
    have e : j = j / 16 * 16 + j % 16 := by omega
    have h1 := k1 (j / 16) (j % 16) (by omega) (by omega)
    rw [rowsL_flat _ (by omega) _ (by omega), ← e] at h1
    rw [Nat.zero_add, World.var?_cell hg1 hv1 j, ← Array.getElem?_toList, h1, ← hv, by8_get linesL j (by rw [linesL_length]; exact hj)]
  · have hj : j < 32 := by have := (List.getElem?_eq_some_iff.1 hv).1; rwa [by8_length, placesL_length] at this
    have e : j = j / 4 * 4 + j % 4 := by omega
    have h1 := k2 (j / 4) (j % 4) (by omega) (by omega)
    rw [rowsP_flat _ (by omega) _ (by omega), ← e] at h1
    rw [Nat.zero_add, World.var?_cell hg2 hv2 j, ← Array.getElem?_toList, h1, ← hv, by8_get placesL j (by rw [placesL_length]; exact hj)]
  · have h1 := k3 k hk
    rw [World.var?_cell hg3 hv3 k, ← Array.getElem?_toList, h1, List.getD_eq_getElem?_getD, List.getD_eq_getElem?_getD, List.getElem?_map, List.getElem?_eq_getElem (show k < kL.length from hk)]
    rfl
theorem tabs_met (os : Os) (args : Array Value) : laidMetH Tryd.prog laidK ((World.doorLaid Tryd.prog 400 os).forCall (fun _ _ => 0) ⟨#[], args, []⟩).memory :=
  laidMetH_of_parts3 (fuel := 8) (laidMet_of_run' 8 (by kernel_rfl) (by kernel_rfl)) (by kernel_rfl) (by kernel_rfl)
end Go.Proofs.YtmkhojaddedpfaaDoor.kdf
