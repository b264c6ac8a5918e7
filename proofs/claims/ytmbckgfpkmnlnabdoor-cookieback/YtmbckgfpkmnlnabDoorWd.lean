/-
  NUMBERS OF 32 BITS AS CELLS, and one of an array's, the array at hand as a value.
-/
import Derived.Test.YtmbckgfpkmnlnabDoorRow
namespace Go.Proofs.YtmbckgfpkmnlnabDoor
open Go.RowKit

def wd (l : List Nat) : List Value := l.map fun n : Nat => Value.int .u32 (n : Int)
theorem wd_length (l : List Nat) : (wd l).length = l.length := by simp [wd]
theorem wd_get (l : List Nat) (j : Nat) (h : j < l.length) : (wd l)[j]? = some (.int .u32 ((l.getD j 0 : Nat) : Int)) := by
  simp [wd, h]
theorem wd_append (l m : List Nat) : wd (l ++ m) = wd l ++ wd m := by simp [wd]
theorem wd_set (l : List Nat) (j n : Nat) : (wd l).set j (.int .u32 (n : Int)) = wd (l.set j n) := by simp [wd, List.map_set]
theorem wd_take (l : List Nat) (k : Nat) : wd (l.take k) = (wd l).take k := by simp [wd]
theorem wd_drop (l : List Nat) (k : Nat) : wd (l.drop k) = (wd l).drop k := by simp [wd]
theorem wd_one (l : List Nat) : (wd l).toArray.all (·.oneCell') = true := by simp [wd, Value.oneCell']
theorem wd_ones (l : List Nat) : ∀ u ∈ wd l, u.oneCell' = true := by simp [wd, Value.oneCell']
theorem wd_cons (n : Nat) (l : List Nat) : wd (n :: l) = .int .u32 (n : Int) :: wd l := rfl
/-- One of an array's numbers, the array at hand as a value. -/
theorem run_index_wd {P : Program} {ty e : TypeId} {n : Nat} {i0 : TypeInfo} (hu : P.underlying ty = some (.array n e)) (he : P.underlying e = some (.int .u32)) (hi : P.info? e = some i0) (hs : i0.size = 1)
    (l : List Nat) (k : Nat) (hk : k < n) (hl : k < l.length) (w : World) :
    (Instr.index ty (.agg (wd l).toArray) (.int .i64 (k : Int))).run P w = .ok (.int .u32 ((l.getD k 0 : Nat) : Int)) w := by
  have hg : (wd l).toArray[k]? = some (.int .u32 ((l.getD k 0 : Nat) : Int)) := by
    rw [List.getElem?_toArray]; exact wd_get l k hl
  have h0 : (0 : Int) ≤ (k : Int) ∧ (k : Int) < (n : Int) := ⟨by omega, by omega⟩
  simp [Instr.index, asIntOf, run_underlying hu, h0, part, isAgg, run_underlying he, sizeOf, typeInfo, hi, hs]
  rw [if_pos hk, ← List.getElem?_toArray, hg]
  simp [List.getD_eq_getElem?_getD]
end Go.Proofs.YtmbckgfpkmnlnabDoor
