/-
  NUMBERS OF 64 BITS AS CELLS, and one of an array's, the array at hand as a value; the model's words for bits of them.
-/
import Derived.Test.YtmbckgfpkmnlnabDoorRow
import Derived.Test.YtmbckgfpkmnlnabDoorBlk
namespace Go.Proofs.YtmbckgfpkmnlnabDoor.u64
open Go.RowKit

def wu (l : List Nat) : List Value := l.map fun n : Nat => Value.int .u64 (n : Int)
theorem wu_length (l : List Nat) : (wu l).length = l.length := by simp [wu]
theorem wu_get (l : List Nat) (j : Nat) (h : j < l.length) : (wu l)[j]? = some (.int .u64 ((l.getD j 0 : Nat) : Int)) := by
  simp [wu, h]
theorem wu_set (l : List Nat) (j n : Nat) : (wu l).set j (.int .u64 (n : Int)) = wu (l.set j n) := by simp [wu, List.map_set]
theorem wu_one (l : List Nat) : (wu l).toArray.all (·.oneCell') = true := by simp [wu, Value.oneCell']
/-- One of an array's numbers, the array at hand as a value. -/
theorem run_index_wu {P : Program} {ty e : TypeId} {n : Nat} {i0 : TypeInfo} (hu : P.underlying ty = some (.array n e)) (he : P.underlying e = some (.int .u64)) (hi : P.info? e = some i0) (hs : i0.size = 1)
    (l : List Nat) (k : Nat) (hk : k < n) (hl : k < l.length) (w : World) :
    (Instr.index ty (.agg (wu l).toArray) (.int .i64 (k : Int))).run P w = .ok (.int .u64 ((l.getD k 0 : Nat) : Int)) w := by
  have hg : (wu l).toArray[k]? = some (.int .u64 ((l.getD k 0 : Nat) : Int)) := by
    rw [List.getElem?_toArray]; exact wu_get l k hl
  have h0 : (0 : Int) ≤ (k : Int) ∧ (k : Int) < (n : Int) := ⟨by omega, by omega⟩
  simp [Instr.index, asIntOf, run_underlying hu, h0, part, isAgg, run_underlying he, sizeOf, typeInfo, hi, hs]
  rw [if_pos hk, ← List.getElem?_toArray, hg]
  simp [List.getD_eq_getElem?_getD]
/-- A block of them. -/
def Arr (w : World) (b t : Nat) (l : List Nat) : Prop := Blk w b t (wu l)
theorem Arr.lt {w : World} {b t : Nat} {l : List Nat} (h : Arr w b t l) : b < w.heap.size := Blk.lt h
theorem Arr.cell {w : World} {b t : Nat} {l : List Nat} (h : Arr w b t l) (i : Nat) (hi : i < l.length) : w.cell? ⟨b, i, none⟩ = some (.int .u64 ((l.getD i 0 : Nat) : Int)) := Blk.cell h i _ (wu_get l i hi)
theorem Arr.frozen {w : World} {b t : Nat} {l : List Nat} (h : Arr w b t l) (i : Nat) : w.frozen? ⟨b, i, none⟩ = false := Blk.frozen h i
theorem Arr.set {w : World} {b t : Nat} {l : List Nat} (h : Arr w b t l) (i v : Nat) : Arr (w.setCell ⟨b, i, none⟩ (.int .u64 (v : Int))) b t (l.set i v) := by
  unfold Arr; rw [← wu_set]; exact Blk.set h i _
theorem Arr.other {w : World} {b t : Nat} {l : List Nat} (h : Arr w b t l) {a : Addr} (ha : b ≠ a.block) (u : Value) : Arr (w.setCell a u) b t l := Blk.other h ha u
theorem Arr.alloc {w : World} {b t : Nat} {l : List Nat} (h : Arr w b t l) (o : Obj) : Arr (w.alloc o) b t l := Blk.alloc h o
theorem Arr.new (w : World) (t : Nat) (l : List Nat) : Arr (w.alloc (.cells (wu l).toArray t)) w.heap.size t l := Blk.new w t (wu l) _ rfl
theorem Arr.drew {w : World} {b t : Nat} {l : List Nat} (h : Arr w b t l) : Arr w.drew b t l := h
theorem Arr.below {w w' : World} {b t B : Nat} {l : List Nat} (h : Arr w b t l) (hb : Below B w w') (hlt : b < B) : Arr w' b t l := Blk.below h hb hlt
/-- What a whole store leaves. -/
structure Stored (w W : World) (b t : Nat) (l : List Nat) : Prop where
  arr : Arr W b t l
  size : W.heap.size = w.heap.size
  below : ∀ (B : Nat) (a : World), B ≤ b → Below B a w → Below B a W
  other : ∀ (b' t' : Nat) (l' : List Nat), b' ≠ b → Arr w b' t' l' → Arr W b' t' l'
  block : ∀ k, k ≠ b → W.heap[k]? = w.heap[k]?
theorem wpList_load_arr {P : Program} {ops : Array Oper} {rest : List Oper} {op : Oper} {a : Act} {w : World} {Q : Exit → Act → World → Prop} (hgd : op.guard = none) (ty : TypeId) (x : Operand) (ho : op.op = .load ty x)
    (b : Nat) (hx : a.eval x = .pointer (some ⟨b, 0, none⟩)) {t : Nat} {l : List Nat} (hA : Arr w b t l) (d : TypeDesc)
    (hu : P.underlying ty = some d) (hd : d.isRow = true) (hi : (P.info? ty).map (·.size) = some l.length)
    (h : wpList P ops Q rest (a.put op.dst (.agg (wu l).toArray)) w) : wpList P ops Q (op :: rest) a w :=
  wpList_load_blk hgd ty x ho b 0 hx hA (wu l) (by simp) d hu hd (by rw [hi, wu_length]) h
theorem wpList_store_arr {P : Program} {ops : Array Oper} {rest : List Oper} {op : Oper} {a : Act} {w : World} {Q : Exit → Act → World → Prop} (hgd : op.guard = none) (ty : TypeId) (x y : Operand) (ho : op.op = .store ty x y)
    (b : Nat) (l' : List Nat) (hx : a.eval x = .pointer (some ⟨b, 0, none⟩)) (hy : a.eval y = .agg (wu l').toArray) {t : Nat} {l : List Nat} (hA : Arr w b t l) (hl : l'.length = l.length)
    (hi : (P.info? ty).map (·.size) = some l.length)
    (h : ∀ W, Stored w W b t l' → wpList P ops Q rest (a.put op.dst undef) W) : wpList P ops Q (op :: rest) a w :=
  wpList_store_blk hgd ty x y ho b (wu l') hx hy (wu l) hA (by rw [wu_length, wu_length, hl]) (wu_one l') (by rw [hi, wu_length]) fun W hW =>
    h W ⟨hW.blk, hW.size, hW.below, fun b' t' l'' hne hA => hW.other b' t' _ hne hA, hW.block⟩
theorem results_arr {P : Program} {fn : Func} {p : Tmp} {ty : TypeId} (hr : fn.results = #[.cell p ty]) (tmps : Array Value) {w : World} {b t : Nat} {l : List Nat} (hp : tmps.getD p undef = .pointer (some ⟨b, 0, none⟩)) (hA : Arr w b t l)
    (d : TypeDesc) (hu : P.underlying ty = some d) (hd : d.isRow = true) (hi : (P.info? ty).map (·.size) = some l.length) :
    (results fn tmps).run P w = .ok (.agg (wu l).toArray) w := results_blk1 hr tmps hp hA d hu hd (by rw [hi, wu_length])
theorem results_cell_tmp {P : Program} {fn : Func} {p q : Tmp} {ty : TypeId} (hr : fn.results = #[.cell p ty, .tmp q]) (tmps : Array Value) (w : World) :
    (results fn tmps).run P w = ((asAddr (tmps.getD p undef)).run P w).andThen fun a w₁ => ((loadVar ty a).run P w₁).andThen fun v w₂ => .ok (.tuple #[v, tmps.getD q undef]) w₂ := by
  simp only [results, hr]
  simp [Sem.run_bind, Result.andThen]
/-- A block and a number. -/
theorem results_arr_tmp {P : Program} {fn : Func} {p q : Tmp} {ty : TypeId} (hr : fn.results = #[.cell p ty, .tmp q]) (tmps : Array Value) {w : World} {b t : Nat} {l : List Nat} {v : Value} (hp : tmps.getD p undef = .pointer (some ⟨b, 0, none⟩)) (hq : tmps.getD q undef = v) (hA : Arr w b t l)
    (d : TypeDesc) (hu : P.underlying ty = some d) (hd : d.isRow = true) (hi : (P.info? ty).map (·.size) = some l.length) :
    (results fn tmps).run P w = .ok (.tuple #[.agg (wu l).toArray, v]) w := by
  have h := Blk.loadVar (P := P) (ty := ty) hA d hu hd (by rw [hi, wu_length])
  rw [results_cell_tmp hr, hp, hq]
  show Result.andThen ((loadVar ty ⟨b, 0, none⟩).run P w) _ = _
  rw [h]
  rfl

/-! ### The model's words for it -/
theorem ofInt64 (a : Nat) (h : a < 18446744073709551616) : (BitVec.ofInt 64 (a : Int)).toNat = a := by
  rw [BitVec.ofInt_natCast, BitVec.toNat_ofNat]; exact Nat.mod_eq_of_lt h
theorem wrap64u (n : Nat) (h : n < 18446744073709551616) : IntKind.u64.wrap (n : Int) = (n : Int) := by
  simp [IntKind.wrap, IntKind.bits, IntKind.signed]
  omega
theorem wrap_u (n : Int) : IntKind.u64.wrap n = n % 18446744073709551616 := by simp [IntKind.wrap, IntKind.bits, IntKind.signed]
theorem and64 (a b : Nat) (ha : a < 18446744073709551616) (hb : b < 18446744073709551616) : bits .and .u64 (a : Int) (b : Int) = ((a &&& b : Nat) : Int) := by
  show IntKind.u64.wrap ((BitVec.ofInt 64 (a : Int) &&& BitVec.ofInt 64 (b : Int)).toNat : Int) = _
  rw [BitVec.toNat_and, ofInt64 a ha, ofInt64 b hb]
  exact wrap64u _ (Nat.and_lt_two_pow (n := 64) _ hb)
theorem or64 (a b : Nat) (ha : a < 18446744073709551616) (hb : b < 18446744073709551616) : bits .or .u64 (a : Int) (b : Int) = ((a ||| b : Nat) : Int) := by
  show IntKind.u64.wrap ((BitVec.ofInt 64 (a : Int) ||| BitVec.ofInt 64 (b : Int)).toNat : Int) = _
  rw [BitVec.toNat_or, ofInt64 a ha, ofInt64 b hb]
  exact wrap64u _ (Nat.or_lt_two_pow (n := 64) ha hb)
theorem or_add (a b k : Nat) (ha : a < 2 ^ k) : a ||| b * 2 ^ k = a + b * 2 ^ k := by
  rw [Nat.or_comm, Nat.mul_comm, ← Nat.two_pow_add_eq_or_of_lt ha b, Nat.add_comm]
theorem mask64 (a k : Nat) (ha : a < 18446744073709551616) (hk : 2 ^ k - 1 < 18446744073709551616) : bits .and .u64 (a : Int) ((2 ^ k - 1 : Nat) : Int) = ((a % 2 ^ k : Nat) : Int) := by
  rw [and64 a _ ha hk, Nat.and_two_pow_sub_one_eq_mod]
end Go.Proofs.YtmbckgfpkmnlnabDoor.u64
