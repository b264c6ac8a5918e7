/-
  ONE BLOCK THAT TURNS: worlds that are as they were but for one block (and new ones); copies into a block, of a row and of a text, as one step of a region that draws its order.
-/
import Derived.Test.YtnomfkmdckmjeaaBlk
import Derived.Test.YtnomfkmdckmjeaaRow
import Derived.Laws.IdiomCopy
import Derived.Deep.RegionLaw
namespace Go.Proofs.Ytnomfkmdckmjeaa
open Go.RowKit

theorem but_refl (w : World) (row : Option Nat) : w.grownBy w row := ⟨rfl, rfl, rfl, Nat.le_refl _, fun _ _ _ => rfl⟩
theorem but_trans {a b c : World} {row : Option Nat} (h : a.grownBy b row) (k : b.grownBy c row) : a.grownBy c row :=
  ⟨k.os.trans h.os, k.tape.trans h.tape, k.output.trans h.output, Nat.le_trans h.size k.size, fun i hi hr => (k.block i (Nat.lt_of_lt_of_le hi h.size) hr).trans (h.block i hi hr)⟩
theorem but_drew {a w : World} {row : Option Nat} (h : a.grownBy w row) : a.grownBy w.drew row := ⟨h.os, h.tape, h.output, h.size, h.block⟩
theorem but_below {a w w' : World} {row : Option Nat} (h : a.grownBy w row) (hb : Below w.heap.size w w') : a.grownBy w' row :=
  ⟨hb.os.trans h.os, hb.tape.trans h.tape, hb.output.trans h.output, Nat.le_trans h.size hb.size, fun i hi hr => (hb.block i (Nat.lt_of_lt_of_le hi h.size)).trans (h.block i hi hr)⟩
theorem but_alloc {a w : World} {row : Option Nat} (h : a.grownBy w row) (o : Obj) : a.grownBy (w.alloc o) row := but_below h ((Below.refl _ _).alloc (Nat.le_refl _) _)
theorem but_set {a w : World} {b : Nat} (h : a.grownBy w (some b)) (o : Nat) (v : Value) : a.grownBy (w.setCell ⟨b, o, none⟩ v) (some b) :=
  ⟨h.os, h.tape, h.output, by have := h.size; simpa [World.setCell] using this, fun i hi hr => (Below.heap_setCell _ _ _ _ (fun e => hr (by rw [e]))).trans (h.block i hi hr)⟩
/-- Stores into a block that is new. -/
theorem but_set_new {a w : World} {row : Option Nat} {b : Nat} (h : a.grownBy w row) (hb : a.heap.size ≤ b) (o : Nat) (v : Value) : a.grownBy (w.setCell ⟨b, o, none⟩ v) row :=
  ⟨h.os, h.tape, h.output, by have := h.size; simpa [World.setCell] using this, fun i hi hr => (Below.heap_setCell _ _ _ _ (fun e => by have e : i = b := e; omega)).trans (h.block i hi hr)⟩
theorem but_sets {a w W : World} {b : Nat} (h : a.grownBy w (some b)) (hs : W.heap.size = w.heap.size) (hb : ∀ k, k ≠ b → W.heap[k]? = w.heap[k]?) (ho : Below 0 w W) : a.grownBy W (some b) :=
  ⟨ho.os.trans h.os, ho.tape.trans h.tape, ho.output.trans h.output, by rw [hs]; exact h.size, fun i hi hr => (hb i (fun e => hr (by rw [e]))).trans (h.block i hi hr)⟩
theorem Blk.but {w w' : World} {b t : Nat} {l : List Value} {row : Option Nat} (h : Blk w b t l) (hg : w.grownBy w' row) (hne : some b ≠ row) : Blk w' b t l := by
  have hlt := h.lt
  unfold Blk at h ⊢
  rw [hg.block b hlt hne]
  exact h
theorem Blk.drew {w : World} {b t : Nat} {l : List Value} (h : Blk w b t l) : Blk w.drew b t l := h
theorem but_to_below {w w' : World} {b B : Nat} (h : w.grownBy w' (some b)) (hb : B ≤ b) (hB : B ≤ w.heap.size) : Below B w w' :=
  ⟨h.os, h.tape, h.output, h.size, fun k hk => h.block k (by omega) (fun e => by cases e; omega)⟩

/-- A new variable of many cells. -/
theorem wpList_alloc_blk {P : Program} {ops : Array Oper} {rest : List Oper} {op : Oper} {a : Act} {w : World} {Q : Exit → Act → World → Prop} (hgd : op.guard = none) (ty : TypeId) (ho : op.op = .alloc ty) (l : List Value) (i : TypeInfo)
    (hi : P.info? ty = some i) (z : Value) (hz : i.zero = some z) (hl : z.cells = l.toArray)
    (h : wpList P ops Q rest (a.put op.dst (.pointer (some ⟨w.heap.size, 0, none⟩))) (w.alloc (.cells l.toArray ty))) : wpList P ops Q (op :: rest) a w := by
  refine wpList_plain hgd fun K hK => ?_
  unfold Oper.wp execOp
  simp [ho, Instr.alloc, zeroValue, typeInfo, hi, hz, newVar, newRow, hl]
  exact hK _ _ h
/-- A text copied into a block. -/
theorem run_copy_text {P : Program} (w : World) (dT sT ty elem : TypeId) (b o dLen dCap : Nat) (s : ByteArray) (cs : List Value)
    (hu : P.underlying dT = some (.slice elem)) (hs : (P.info? elem).map (·.size) = some 1) (hcs : cs = (by8 (nb s)).take dLen)
    (hc : ∀ j, j < cs.length → (w.cell? ⟨b, o + j, none⟩).isSome = true) (hf : ∀ j, j < cs.length → w.frozen? ⟨b, o + j, none⟩ = false) :
    (Builtin.copy_ #[dT, sT] ty #[.slice (some ⟨b, o, none⟩) dLen dCap, .string s]).run P w = .ok (goInt cs.length) (w.setCells b o cs) := by
  have h1 : ∀ v ∈ cs, v.oneCell' = true := fun v hv => by8_ones (nb s) v (by rw [hcs] at hv; exact List.mem_of_mem_take hv)
  have hst := run_storeCells_cells (P := P) b o cs 0 w (by simpa using hc) (by simpa using hf) h1
  have hn : cs.length = Nat.min s.size dLen := by rw [hcs, List.length_take, by8_length, nb_length]; exact Nat.min_comm _ _
  have he : ((s.extract 0 cs.length).data.map fun b => Value.int .u8 b.toNat).toList = cs := by
    have e1 : cs = (by8 (nb s)).take cs.length := by
      rw [hn, hcs]
      apply List.ext_getElem?
      intro i
      rw [List.getElem?_take, List.getElem?_take]
      have hz : (by8 (nb s)).length = s.size := by rw [by8_length, nb_length]
      show _ = if i < min s.size dLen then _ else _
      by_cases c1 : i < dLen
      · by_cases c2 : i < s.size
        · rw [if_pos c1, if_pos (by omega)]
        · rw [if_pos c1, if_neg (by omega), List.getElem?_eq_none (by omega)]
      · rw [if_neg c1, if_neg (by omega)]
    refine Eq.trans ?_ e1.symm
    rw [by8_nb, ByteArray.data_extract]
    simp
  cases hq : P.info? elem with
  | none => simp [hq] at hs
  | some i =>
    rw [← he] at hst
    simp [Builtin.copy_, run_underlying hu, Builtin.lenOf, Builtin.firstCells, sizeOf, typeInfo, hq, ← hn]
    simp at hst he
    rw [hst]
    simp [he]
/-- What a copy leaves. -/
structure Copied (w W : World) (b t o : Nat) (l cs : List Value) : Prop where
  blk : Blk W b t (l.take o ++ cs ++ l.drop (o + cs.length))
  size : W.heap.size = w.heap.size
  other : ∀ k, k ≠ b → W.heap[k]? = w.heap[k]?
  below : ∀ (B : Nat) (z : World), B ≤ b → Below B z w → Below B z W
theorem Copied.but {w W a : World} {b t o : Nat} {l cs : List Value} (h : Copied w W b t o l cs) (hg : a.grownBy w (some b)) : a.grownBy W (some b) :=
  but_sets hg h.size h.other (h.below 0 w (Nat.zero_le _) (Below.refl _ _))
theorem copied_of {w : World} {b t : Nat} {l : List Value} (hA : Blk w b t l) (o : Nat) (cs : List Value) (hfit : o + cs.length ≤ l.length) : Copied w (w.setCells b o cs) b t o l cs :=
  ⟨Blk.storedFrom cs o w l hA hfit, blk_size_setCells b cs o w, fun _ hk => blk_setCells hk cs o w, fun _ _ hB hb => blk_below_setCells hB cs o w hb⟩
theorem step_copy_text {P : Program} {ops : Array Oper} {o : Oper} {a : Act} {w : World} {K : Act → World → Prop} {Q : Exit → Act → World → Prop} {E : Prop} (hgd : o.guard = none) (d s : Operand) (dT sT : TypeId)
    (ho : o.op = .call { callee := .builtin .copy, args := #[d, s], argTypes := #[dT, sT] }) (elem : TypeId) (hu : P.underlying dT = some (.slice elem)) (hsz : (P.info? elem).map (·.size) = some 1)
    (b off dLen dCap : Nat) (x : ByteArray) (hd : a.eval d = .slice (some ⟨b, off, none⟩) dLen dCap) (hs : a.eval s = .string x)
    {t : Nat} {l : List Value} (hA : Blk w b t l) (cs : List Value) (hcs : cs = (by8 (nb x)).take dLen) (hfit : off + cs.length ≤ l.length)
    (h : ∀ W, Copied w W b t off l cs → K (a.put o.dst (goInt cs.length)) W) :
    if Region.wanted o (yielded ops a.tmps) = true then Oper.wp P o a w K Q else E := by
  have hw : Region.wanted o (yielded ops a.tmps) = true := by simp [Region.wanted, hgd]
  rw [if_pos hw]
  have hrun := run_copy_text (P := P) w dT sT o.type elem b off dLen dCap x cs hu hsz hcs
    (fun j hj => by rw [hA.cell (off + j) l[off + j] (List.getElem?_eq_getElem (by omega))]; rfl) (fun j _ => hA.frozen _)
  unfold Oper.wp
  simp [execOp, ho, resolve, invoke, builtin, hd, hs, hrun, Result.andThen]
  exact h _ (copied_of hA off cs hfit)
theorem step_copy_blk {P : Program} {ops : Array Oper} {o : Oper} {a : Act} {w : World} {K : Act → World → Prop} {Q : Exit → Act → World → Prop} {E : Prop} (hgd : o.guard = none) (d s : Operand) (dT sT : TypeId)
    (ho : o.op = .call { callee := .builtin .copy, args := #[d, s], argTypes := #[dT, sT] }) (elem : TypeId) (hu : P.underlying dT = some (.slice elem)) (hsz : (P.info? elem).map (·.size) = some 1)
    (b off dLen dCap : Nat) (ad : Addr) (sLen sCap : Nat) (hd : a.eval d = .slice (some ⟨b, off, none⟩) dLen dCap) (hs : a.eval s = .slice (some ad) sLen sCap)
    {t : Nat} {l : List Value} (hA : Blk w b t l) (cs : List Value) (hn : cs.length = Nat.min sLen dLen) (hsrc : ∀ j v, cs[j]? = some v → w.cell? (ad.add j) = some v) (hfit : off + cs.length ≤ l.length) (h1 : ∀ v ∈ cs, v.oneCell' = true)
    (h : ∀ W, Copied w W b t off l cs → K (a.put o.dst (goInt cs.length)) W) :
    if Region.wanted o (yielded ops a.tmps) = true then Oper.wp P o a w K Q else E := by
  have hw : Region.wanted o (yielded ops a.tmps) = true := by simp [Region.wanted, hgd]
  rw [if_pos hw]
  have hrun := run_copy_cells (P := P) w dT sT o.type elem b off dLen dCap ad sLen sCap cs hu hsz hn hsrc
    (fun j hj => by rw [hA.cell (off + j) l[off + j] (List.getElem?_eq_getElem (by omega))]; rfl) (fun j _ => hA.frozen _) h1
  unfold Oper.wp
  simp [execOp, ho, resolve, invoke, builtin, hd, hs, hrun, Result.andThen]
  exact h _ (copied_of hA off cs hfit)
end Go.Proofs.Ytnomfkmdckmjeaa
