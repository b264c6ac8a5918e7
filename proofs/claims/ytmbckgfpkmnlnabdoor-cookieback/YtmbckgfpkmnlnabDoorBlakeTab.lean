/-
  THE TABLES OF package blake, as cells; parts of an array at hand; blocks of numbers.
-/
import Derived.Test.YtmbckgfpkmnlnabDoorBlakeMix
import Derived.Test.YtmbckgfpkmnlnabDoorBundle4
import Derived.Test.YtmbckgfpkmnlnabDoorWd
import Derived.Test.YtmbckgfpkmnlnabDoorBut
namespace Go.Proofs.YtmbckgfpkmnlnabDoor.bla
open Go.RowKit
open Go.Proofs.YtmbckgfpkmnlnabDoor.cha (Ws)
open Go.Proofs.YtmbckgfpkmnlnabDoor.sha (h0)
open Go.Proofs.YtmbckgfpkmnlnabDoor.ghs (mkl mkl_length mkl_get tx_ext)

/-- The three tables. -/
structure Tab (w : World) : Prop where
  iv : w.rangeAt 0 0 (wd h0)
  ln : w.rangeAt 2 0 (by8 linesL)
  pl : w.rangeAt 3 0 (by8 placesL)
theorem lt_of_cell {w : World} {g k : Nat} {v : Value} (h : w.cell? ⟨g, k, none⟩ = some v) : g < w.heap.size := by
  rcases Nat.lt_or_ge g w.heap.size with hlt | hge
  · exact hlt
  · unfold World.cell? at h
    simp [Array.getElem?_eq_none hge] at h
theorem range_keep {w w' : World} {B g : Nat} {cs : List Value} (h : w.rangeAt g 0 cs) (hb : Below B w w') (hg : g < B) : w'.rangeAt g 0 cs := fun j v hv => (hb.cell (p := ⟨g, 0 + j, none⟩) hg).trans (h j v hv)
theorem range_but {w w' : World} {b g : Nat} {cs : List Value} (h : w.rangeAt g 0 cs) (hg : w.grownBy w' (some b)) (hlt : g < w.heap.size) (hne : g ≠ b) : w'.rangeAt g 0 cs := fun j v hv => by
  rw [World.cell?_of_block (w := w) (a := ⟨g, 0 + j, none⟩) (hg.block g hlt (by simpa using hne))]
  exact h j v hv
theorem Tab.ltI {w : World} (h : Tab w) : 0 < w.heap.size := lt_of_cell (h.iv 0 _ rfl)
theorem Tab.ltL {w : World} (h : Tab w) : 2 < w.heap.size := lt_of_cell (h.ln 0 _ rfl)
theorem Tab.ltP {w : World} (h : Tab w) : 3 < w.heap.size := lt_of_cell (h.pl 0 _ rfl)
theorem Tab.grown {w w' : World} (h : Tab w) (hb : Below w.heap.size w w') : Tab w' :=
  ⟨range_keep h.iv hb h.ltI, range_keep h.ln hb h.ltL, range_keep h.pl hb h.ltP⟩
theorem infoST : (Tryd.prog.info? 65).map (·.size) = some 8 := by kernel_rfl
theorem infoBL : (Tryd.prog.info? 75).map (·.size) = some 64 := by kernel_rfl
theorem infoWIDE : (Tryd.prog.info? 87).map (·.size) = some 16 := by kernel_rfl
theorem infoM16 : (Tryd.prog.info? 79).map (·.size) = some 16 := by kernel_rfl
theorem infoLNS : (Tryd.prog.info? 102).map (·.size) = some 160 := by kernel_rfl
theorem infoPLS : (Tryd.prog.info? 104).map (·.size) = some 32 := by kernel_rfl
theorem infoLN : (Tryd.prog.info? 101).map (·.size) = some 16 := by kernel_rfl
theorem infoPL : (Tryd.prog.info? 103).map (·.size) = some 4 := by kernel_rfl
def z16 : List Nat := List.replicate 16 0
def z8 : List Nat := List.replicate 8 0
def z64 : List Nat := List.replicate 64 0
def z4 : List Nat := List.replicate 4 0
theorem infoWIDEz : (Tryd.prog.info? 87).map (fun i => (i.zero, i.size, i.bytes)) = some (some (.agg (wd z16).toArray), 16, 64) := by kernel_rfl
theorem infoM16z : (Tryd.prog.info? 79).map (fun i => (i.zero, i.size, i.bytes)) = some (some (.agg (wd z16).toArray), 16, 64) := by kernel_rfl
theorem infoSTz : (Tryd.prog.info? 65).map (fun i => (i.zero, i.size, i.bytes)) = some (some (.agg (wd z8).toArray), 8, 32) := by kernel_rfl
theorem infoBLz : (Tryd.prog.info? 75).map (fun i => (i.zero, i.size, i.bytes)) = some (some (.agg (by8 z64).toArray), 64, 64) := by kernel_rfl
theorem infoLNz : (Tryd.prog.info? 101).map (fun i => (i.zero, i.size, i.bytes)) = some (some (.agg (by8 z16).toArray), 16, 16) := by kernel_rfl
theorem infoPLz : (Tryd.prog.info? 103).map (fun i => (i.zero, i.size, i.bytes)) = some (some (.agg (by8 z4).toArray), 4, 4) := by kernel_rfl
theorem infoU8 : (Tryd.prog.info? 5).map (fun i => (i.zero, i.size, i.bytes)) = some (some (.int .u8 0), 1, 1) := by kernel_rfl
theorem infoU8s : (Tryd.prog.info? 5).map (·.size) = some 1 := by kernel_rfl
theorem infoU8' : ∃ i, Tryd.prog.info? 5 = some i ∧ i.size = 1 := by
  obtain ⟨i, h1, _, h3, _⟩ := info_parts infoU8
  exact ⟨i, h1, h3⟩
theorem infoU32 : (Tryd.prog.info? 28).map (fun i => (i.zero, i.size, i.bytes)) = some (some (.int .u32 0), 1, 4) := by kernel_rfl
theorem infoU32' : ∃ i, Tryd.prog.info? 28 = some i ∧ i.size = 1 := by
  obtain ⟨i, h1, _, h3, _⟩ := info_parts infoU32
  exact ⟨i, h1, h3⟩
/-- A part of an array at hand. -/
theorem run_index_part {P : Program} {ty e e' : TypeId} {n s : Nat} (hu : P.underlying ty = some (.array n e)) (he : P.underlying e = some (.array s e')) (hs : (P.info? e).map (·.size) = some s) (cs : Array Value) (k : Nat) (hk : k < n) (w : World) :
    (Instr.index ty (.agg cs) (.int .i64 (k : Int))).run P w = .ok (.agg (cs.extract (k * s) (k * s + s))) w := by
  have h0 : (0 : Int) ≤ (k : Int) ∧ (k : Int) < (n : Int) := ⟨by omega, by omega⟩
  cases hi : P.info? e with
  | none => rw [hi] at hs; cases hs
  | some i =>
    rw [hi] at hs
    obtain rfl : i.size = s := by simpa using hs
    simp [Instr.index, asIntOf, run_underlying hu, hk, part, isAgg, run_underlying he, sizeOf, typeInfo, hi]
theorem part_by8 (l : List Nat) (o s : Nat) (h : o + s ≤ l.length) : (by8 l).toArray.extract o (o + s) = (by8 (mkl s fun j => l.getD (o + j) 0)).toArray := by
  apply Array.ext'
  rw [Array.toList_extract, List.extract_eq_take_drop]
  show ((by8 l).drop o).take (o + s - o) = by8 _
  rw [Nat.add_sub_cancel_left, ← by8_drop, ← by8_take]
  refine congrArg by8 (tx_ext (by rw [List.length_take, List.length_drop, mkl_length]; omega) fun j hj => ?_)
  rw [List.length_take, List.length_drop] at hj
  rw [mkl_get _ _ _ (by omega), List.getD_eq_getElem?_getD, List.getElem?_take, if_pos (by omega), List.getElem?_drop, ← List.getD_eq_getElem?_getD]
theorem line_at (k : Nat) (hk : k < 10) (w : World) : (Instr.index 102 (.agg (by8 linesL).toArray) (.int .i64 (k : Int))).run Tryd.prog w = .ok (.agg (by8 (mkl 16 (ln k))).toArray) w := by
  rw [run_index_part Tryd.underlying102 Tryd.underlying101 infoLN _ k hk w, part_by8 _ _ _ (by rw [linesL_length]; omega)]
  rfl
theorem place_at (k : Nat) (hk : k < 8) (w : World) : (Instr.index 104 (.agg (by8 placesL).toArray) (.int .i64 (k : Int))).run Tryd.prog w = .ok (.agg (by8 (mkl 4 (pl k))).toArray) w := by
  rw [run_index_part Tryd.underlying104 Tryd.underlying103 infoPL _ k hk w, part_by8 _ _ _ (by rw [placesL_length]; omega)]
  rfl
end Go.Proofs.YtmbckgfpkmnlnabDoor.bla
