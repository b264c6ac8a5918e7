/-
  WHAT THE LISTED TABLE GIVES: package sha's roots at package level, as cells.
-/
import Derived.Test.YtfpknemoaplhdaaDoorRows
import Derived.Test.YtfpknemoaplhdaaDoorShaTaken
import Derived.ProofKit
import Derived.LaidMore
import Derived.OpenShut
import Derived.Stop.Joined
import Derived.MakeChecks
namespace Go.Proofs.YtfpknemoaplhdaaDoor.sha
open Go.ChangeShapes Go.WideShapes Go.ChangeAt Go.WideMaps Go.WideElems Go.RowKit

theorem tab_of {W : World} {n : String} {G : Nat} {l : List Int} (hl : l.length = 64) (hn : Tryd.prog.globalNamed n = some G) (ht : (Tryd.prog.globals[G]?).map (·.type) = some 96)
    (h : laidMet Tryd.prog [(n, .agg (l.map fun a => .lit (.int .u32 a)))] W) : ∀ k, k < 64 → W.cell? ⟨G, k, none⟩ = some (.int .u32 (l.getD k 0)) := by
  obtain ⟨ps, ⟨g0, t0, cs0, f0, p0, q0, hg0, ht0, hv0, hd0, _, _⟩, _, _⟩ := h
  obtain rfl := Option.some.inj (hn.symm.trans hg0)
  obtain rfl := Option.some.inj (ht.symm.trans ht0)
  obtain ⟨xs, m1, rfl, hx1, _, hn8, hel⟩ := DataW.trod_array Tryd.underlying96 hd0
  have c1 : Tryd.prog.cellsOf 63 = 1 := by kernel_rfl
  simp only [Prod.mk.injEq, DataW.agg.injEq] at hx1
  intro k hk
  have h0 := hel k hk
  rw [c1, Nat.mul_one] at h0
  have hxk : k < xs.length := by omega
  rw [List.getElem?_eq_getElem hxk] at h0
  obtain ⟨v, e1, e2, _⟩ := DataW.trod_int Tryd.underlying63 h0
  have e3 : (xs.map (·.1))[k]? = some (.lit (.int .u32 v)) := by
    rw [List.getElem?_map, List.getElem?_eq_getElem hxk, Option.map_some, e2]
  rw [← hx1.1, List.getElem?_map, List.getElem?_eq_getElem (show k < l.length by omega), Option.map_some] at e3
  have e4 : l.getD k 0 = v := by
    rw [List.getD_eq_getElem?_getD, List.getElem?_eq_getElem (show k < l.length by omega)]
    simpa using e3
  rw [e4, World.var?_cell hg0 hv0 k]
  have e5 : (cs0.toList.drop k)[0]? = some (.int .u32 v) := by
    have := congrArg (fun l => l[0]?) e1
    simpa using this
  simpa using e5
def laidR : List (String × DataW Unit) := [("souterrain/sha.roots", Rows.laid_souterrain_sha_roots)]
theorem laidR_eq : (Rows.laid_souterrain_sha_roots : DataW Unit) = .agg ((kL.map fun n : Nat => (n : Int)).map fun a => .lit (.int .u32 a)) := by kernel_rfl
theorem roots_tab {W : World} (h : laidMetH Tryd.prog laidR W) : Tab W := by
  rw [MakeChecks.laidMetH_plain _ _ _ (by kernel_rfl)] at h
  unfold laidR at h
  rw [laidR_eq] at h
  intro k hk
  have := tab_of (G := 2) (l := kL.map fun n : Nat => (n : Int)) rfl (by kernel_rfl) (by kernel_rfl) h k hk
  rw [this, List.getD_eq_getElem?_getD, List.getD_eq_getElem?_getD, List.getElem?_map, List.getElem?_eq_getElem (show k < kL.length from hk)]
  rfl
theorem roots_met (os : Os) (args : Array Value) : laidMetH Tryd.prog laidR ((World.doorLaid Tryd.prog 400 os).forCall (fun _ _ => 0) ⟨#[], args, []⟩).memory :=
  laidMetH_of_parts3 (fuel := 8) (laidMet_of_run' 8 (by kernel_rfl) (by kernel_rfl)) (by kernel_rfl) (by kernel_rfl)
end Go.Proofs.YtfpknemoaplhdaaDoor.sha
