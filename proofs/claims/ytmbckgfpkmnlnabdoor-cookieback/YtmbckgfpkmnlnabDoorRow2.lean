/-
  ROWS THAT ARE WRITTEN: one cell, and many (copy).
-/
import Derived.Test.YtmbckgfpkmnlnabDoorRow
import Derived.Test.YtmbckgfpkmnlnabDoorBlk
import Derived.Laws.IdiomCopy
import Derived.Deep.RegionHeld3
namespace Go.Proofs.YtmbckgfpkmnlnabDoor
open Go.RowKit

theorem Row.set {w : World} {B s g n cap : Nat} {xs : List Value} (h : Row w B s g n cap xs) (j : Nat) (v : Value) (hj : j < xs.length) : Row (w.setCell ⟨g, j, none⟩ v) B s g n cap (xs.set j v) := by
  refine ⟨by rw [List.length_set]; exact h.len, h.ge, by have := h.lt; simpa [World.setCell] using this, h.le, fun i u hu => ?_, World.there_setCells h.free g j [v]⟩
  rw [Nat.zero_add]
  by_cases e : i = j
  · subst e
    rw [List.getElem?_set_self hj] at hu
    rw [World.cell?_setCell_same (h := h.get i xs[i] (List.getElem?_eq_getElem hj))]
    exact hu
  · rw [List.getElem?_set_ne (fun x => e x.symm)] at hu
    rw [World.cell?_setCell_other (h := fun x => e (Addr.mk.inj x).2.1.symm)]
    exact h.get i u hu
theorem Row.stored {w : World} {B s g n cap : Nat} {xs : List Value} (h : Row w B s g n cap xs) (o : Nat) (cs : List Value) (hf : o + cs.length ≤ xs.length) :
    Row (w.setCells g o cs) B s g n cap (xs.take o ++ cs ++ xs.drop (o + cs.length)) := by
  have hz : (w.setCells g o cs).heap.size = w.heap.size := blk_size_setCells g cs o w
  refine ⟨?_, h.ge, by rw [hz]; exact h.lt, h.le, fun i u hu => ?_, World.there_setCells h.free g o cs⟩
  · rw [← h.len]; simp; omega
  · rw [Nat.zero_add]
    have l1 : (xs.take o).length = o := by rw [List.length_take]; omega
    rw [List.append_assoc] at hu
    by_cases c1 : i < o
    · rw [List.getElem?_append_left (by omega), List.getElem?_take, if_pos c1] at hu
      rw [World.cell?_setCells_out g cs o w ⟨g, i, none⟩ (fun _ _ => Or.inl c1)]
      exact h.get i u hu
    · rw [List.getElem?_append_right (by omega), l1] at hu
      by_cases c2 : i - o < cs.length
      · rw [List.getElem?_append_left c2] at hu
        have := World.cell?_setCells_in g cs o w (fun j hj => by rw [h.get (o + j) xs[o + j] (List.getElem?_eq_getElem (by omega))]; rfl) (i - o) c2
        rw [show o + (i - o) = i from by omega] at this
        rw [this, ← hu, List.getElem?_eq_getElem c2]
      · rw [List.getElem?_append_right (by omega), List.getElem?_drop] at hu
        rw [World.cell?_setCells_out g cs o w ⟨g, i, none⟩ (fun _ _ => Or.inr (by show o + cs.length ≤ i; omega))]
        refine h.get i u ?_
        rw [← hu]
        congr 1
        omega

/-- A copy into a row, as one step of a region that draws its order. -/
theorem step_copy_row {P : Program} {ops : Array Oper} {o : Oper} {a : Act} {w : World} {K : Act → World → Prop} {Q : Exit → Act → World → Prop} {E : Prop} (hgd : o.guard = none) (d s : Operand) (dT sT : TypeId)
    (ho : o.op = .call { callee := .builtin .copy, args := #[d, s], argTypes := #[dT, sT] }) (elem : TypeId) (hu : P.underlying dT = some (.slice elem)) (hsz : (P.info? elem).map (·.size) = some 1)
    (g off dLen dCap : Nat) (ad : Addr) (sLen sCap : Nat) (hd : a.eval d = .slice (some ⟨g, off, none⟩) dLen dCap) (hs : a.eval s = .slice (some ad) sLen sCap)
    {B n cap : Nat} {xs : List Value} (hA : Row w B 1 g n cap xs) (cs : List Value) (hn : cs.length = Nat.min sLen dLen) (hsrc : ∀ j v, cs[j]? = some v → w.cell? (ad.add j) = some v) (hfit : off + cs.length ≤ xs.length) (h1 : ∀ v ∈ cs, v.oneCell' = true)
    (h : ∀ W, Row W B 1 g n cap (xs.take off ++ cs ++ xs.drop (off + cs.length)) → (∀ (C : Nat) (z : World), C ≤ g → Below C z w → Below C z W) → K (a.put o.dst (goInt cs.length)) W) :
    if Region.wanted o (yielded ops a.tmps) = true then Oper.wp P o a w K Q else E := by
  have hw : Region.wanted o (yielded ops a.tmps) = true := by simp [Region.wanted, hgd]
  rw [if_pos hw]
  have hle : xs.length ≤ cap * 1 := by rw [hA.len]; have := hA.le; omega
  have hrun := run_copy_cells (P := P) w dT sT o.type elem g off dLen dCap ad sLen sCap cs hu hsz hn hsrc
    (fun j hj => by rw [hA.get (off + j) xs[off + j] (List.getElem?_eq_getElem (by omega))]; rfl) (fun j hj => by have := (hA.free (off + j) (by omega)).2; rwa [Nat.zero_add] at this) h1
  unfold Oper.wp
  simp [execOp, ho, resolve, invoke, builtin, hd, hs, hrun, Result.andThen]
  exact h _ (hA.stored off cs hfit) (fun _ _ hB hb => blk_below_setCells hB cs off w hb)
end Go.Proofs.YtmbckgfpkmnlnabDoor
