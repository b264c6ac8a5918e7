/-
  A BLOCK OF limbs of 32 bits: read, written, loaded and stored as a whole.
-/
import Derived.WalkKit
import Derived.Deep.MidRow
import Derived.Laws.ResultCell
namespace Go.Proofs.YtdpokjhoedhadaaDoor.limb
open Go.RowKit

/-- Whole numbers, as cells. -/
def ints (l : List Int) : Array Value := (l.map (Value.int .u32)).toArray
theorem ints_size (l : List Int) : (ints l).size = l.length := by simp [ints]
theorem ints_toList (l : List Int) : (ints l).toList = l.map (Value.int .u32) := by simp [ints]
/-- Block b holds these numbers, and may be written. -/
def Arr (w : World) (b t : Nat) (l : List Int) : Prop := w.heap[b]? = some (.cells (ints l) t (0, 0))
theorem Arr.lt {w : World} {b t : Nat} {l : List Int} (h : Arr w b t l) : b < w.heap.size := by
  rcases Nat.lt_or_ge b w.heap.size with hlt | hge
  · exact hlt
  · unfold Arr at h; rw [Array.getElem?_eq_none hge] at h; cases h
theorem Arr.cell {w : World} {b t : Nat} {l : List Int} (h : Arr w b t l) (i : Nat) (hi : i < l.length) : w.cell? ⟨b, i, none⟩ = some (.int .u32 (l.getD i 0)) := by
  rw [cell_of_row w b i (ints l) t (0, 0) h]
  simp [ints, hi]
theorem Arr.frozen {w : World} {b t : Nat} {l : List Int} (h : Arr w b t l) (i : Nat) : w.frozen? ⟨b, i, none⟩ = false := by
  unfold World.frozen?
  rw [show w.heap[b]? = some (.cells (ints l) t (0, 0)) from h]
  simp
theorem Arr.set {w : World} {b t : Nat} {l : List Int} (h : Arr w b t l) (i : Nat) (v : Int) : Arr (w.setCell ⟨b, i, none⟩ (.int .u32 v)) b t (l.set i v) := by
  have hlt := h.lt
  unfold Arr at h ⊢
  simp only [World.setCell, Array.getElem?_modify, if_true, h, Option.map_some]
  congr 2
  apply Array.ext'
  simp [ints, List.map_set]
theorem Arr.other {w : World} {b t : Nat} {l : List Int} (h : Arr w b t l) {a : Addr} (ha : b ≠ a.block) (u : Value) : Arr (w.setCell a u) b t l := by
  unfold Arr at h ⊢
  rw [Below.heap_setCell _ _ _ _ ha]
  exact h
theorem Arr.alloc {w : World} {b t : Nat} {l : List Int} (h : Arr w b t l) (o : Obj) : Arr (w.alloc o) b t l := by
  have hlt := h.lt
  unfold Arr at h ⊢
  rw [Below.heap_alloc _ _ _ hlt]
  exact h
theorem Arr.new (w : World) (t : Nat) (l : List Int) : Arr (w.alloc (.cells (ints l) t)) w.heap.size t l := heap_alloc_new w _
theorem Arr.drew {w : World} {b t : Nat} {l : List Int} (h : Arr w b t l) : Arr w.drew b t l := h
theorem Arr.below {w w' : World} {b t B : Nat} {l : List Int} (h : Arr w b t l) (hb : Below B w w') (hlt : b < B) : Arr w' b t l := by
  unfold Arr at h ⊢
  rw [hb.block b hlt]
  exact h
theorem Arr.range {w : World} {b t : Nat} {l : List Int} (h : Arr w b t l) : w.rangeAt b 0 (l.map (Value.int .u32)) := fun j v hv => by
  have hj : j < l.length := by
    have := (List.getElem?_eq_some_iff.1 hv).1
    simpa using this
  rw [Nat.zero_add, h.cell j hj]
  simp only [List.getElem?_map, List.getElem?_eq_getElem hj, Option.map_some, Option.some.injEq] at hv
  rw [← hv]
  simp [hj]
theorem Arr.there {w : World} {b t : Nat} {l : List Int} (h : Arr w b t l) : w.there b 0 l.length := fun j hj => by
  rw [Nat.zero_add, h.cell j hj, h.frozen j]
  exact ⟨rfl, rfl⟩
/-- Loaded as a whole. -/
theorem Arr.load {P : Program} {w : World} {b t ty : Nat} {l : List Int} (h : Arr w b t l) (d : TypeDesc) (hu : P.underlying ty = some d) (hd : d.isRow = true) (hi : (P.info? ty).map (·.size) = some l.length) :
    (loadVar ty ⟨b, 0, none⟩).run P w = .ok (.agg (ints l)) w := by
  have := run_loadVar_mid (P := P) w b 0 ty (l.map (Value.int .u32)) d h.range hu hd (by rw [hi]; simp)
  exact this
theorem Arr.loadAt {P : Program} {w : World} {b t ty : Nat} {l : List Int} (h : Arr w b t l) (d : TypeDesc) (hu : P.underlying ty = some d) (hd : d.isRow = true) (hi : (P.info? ty).map (·.size) = some l.length) :
    (Instr.loadAt ty (.pointer (some ⟨b, 0, none⟩))).run P w = .ok (.agg (ints l)) w := by
  have := run_loadAt_mid (P := P) w b 0 ty (l.map (Value.int .u32)) d h.range hu hd (by rw [hi]; simp)
  exact this
theorem ints_oneCell (l : List Int) : (ints l).all (·.oneCell') = true := by
  simp [ints, Value.oneCell']
theorem Arr.storedFrom {b t : Nat} (vs : List Int) : ∀ (o : Nat) (w : World) (l : List Int), Arr w b t l → o + vs.length ≤ l.length → Arr (w.setCells b o (vs.map (Value.int .u32))) b t (l.take o ++ vs ++ l.drop (o + vs.length)) := by
  induction vs with
  | nil =>
    intro o w l h _
    simpa [World.setCells] using h
  | cons v vs ih =>
    intro o w l h hl
    simp only [List.length_cons] at hl
    have h1 := ih (o + 1) _ _ (h.set o v) (by rw [List.length_set]; omega)
    have e : (l.set o v).take (o + 1) ++ vs ++ (l.set o v).drop (o + 1 + vs.length) = l.take o ++ (v :: vs) ++ l.drop (o + (v :: vs).length) := by
      rw [List.drop_set_of_lt (by omega), List.length_cons, show o + 1 + vs.length = o + (vs.length + 1) from by omega]
      rw [List.take_succ_eq_append_getElem (by rw [List.length_set]; omega), List.getElem_set_self, List.take_set_of_le (Nat.le_refl _)]
      simp
    rw [e] at h1
    exact h1
/-- Stored as a whole. -/
theorem Arr.stored {w : World} {b t : Nat} {l l' : List Int} (h : Arr w b t l) (hl : l'.length = l.length) : Arr (w.setCells b 0 (l'.map (Value.int .u32))) b t l' := by
  have := Arr.storedFrom l' 0 w l h (by omega)
  rw [Nat.zero_add, hl, List.drop_of_length_le (Nat.le_refl _)] at this
  simpa using this
theorem below_setCells {B : Nat} {a : World} {b : Nat} (hb : B ≤ b) (vs : List Value) : ∀ (o : Nat) (w : World), Below B a w → Below B a (w.setCells b o vs) := by
  induction vs with
  | nil => intro o w h; exact h
  | cons v vs ih => intro o w h; exact ih _ _ (h.setCell hb v)
theorem Arr.otherCells {b b' t : Nat} {l : List Int} (hb : b ≠ b') (vs : List Value) : ∀ (o : Nat) (w : World), Arr w b t l → Arr (w.setCells b' o vs) b t l := by
  induction vs with
  | nil => intro o w h; exact h
  | cons v vs ih => intro o w h; exact ih _ _ (h.other hb v)
theorem Arr.storeAt {P : Program} {w : World} {b t ty : Nat} {l l' : List Int} (h : Arr w b t l) (hl : l'.length = l.length) (hi : (P.info? ty).map (·.size) = some l.length) :
    (Instr.storeAt ty (.pointer (some ⟨b, 0, none⟩)) (.agg (ints l'))).run P w = .ok () (w.setCells b 0 (l'.map (Value.int .u32))) := by
  have := run_storeAt_mid (P := P) w b 0 ty (ints l') (by rw [ints_size, hl]; exact h.there) (by rw [hi, ints_size, hl]) (ints_oneCell l')
  rw [ints_toList] at this
  exact this
theorem size_setCells (b : Nat) (vs : List Value) : ∀ (o : Nat) (w : World), (w.setCells b o vs).heap.size = w.heap.size := by
  induction vs with
  | nil => intro o w; rfl
  | cons v vs ih => intro o w; rw [World.setCells, ih]; simp

/-- A whole load, at the list of a plain region's operations. -/
theorem wpList_load_arr {P : Program} {ops : Array Oper} {rest : List Oper} {op : Oper} {a : Act} {w : World} {Q : Exit → Act → World → Prop} (hgd : op.guard = none) (ty : TypeId) (x : Operand) (ho : op.op = .load ty x)
    (b : Nat) (hx : a.eval x = .pointer (some ⟨b, 0, none⟩)) {t : Nat} (l : List Int) (d : TypeDesc) (hA : Arr w b t l)
    (hu : P.underlying ty = some d) (hd : d.isRow = true) (hi : (P.info? ty).map (·.size) = some l.length)
    (h : wpList P ops Q rest (a.put op.dst (.agg (ints l))) w) : wpList P ops Q (op :: rest) a w :=
  wpList_load_mid hgd ty x ho b 0 hx (l.map (Value.int .u32)) d hA.range hu hd (by rw [hi]; simp) h
/-- What a whole store leaves. -/
structure Stored (w W : World) (b t : Nat) (l : List Int) : Prop where
  arr : Arr W b t l
  size : W.heap.size = w.heap.size
  below : ∀ (B : Nat) (a : World), B ≤ b → Below B a w → Below B a W
  other : ∀ (b' t' : Nat) (l' : List Int), b' ≠ b → Arr w b' t' l' → Arr W b' t' l'
  block : ∀ k, k ≠ b → W.heap[k]? = w.heap[k]?
theorem block_setCells {b k : Nat} (hk : k ≠ b) (vs : List Value) : ∀ (o : Nat) (w : World), (w.setCells b o vs).heap[k]? = w.heap[k]? := by
  induction vs with
  | nil => intro o w; rfl
  | cons v vs ih => intro o w; rw [World.setCells, ih, Below.heap_setCell _ _ _ _ hk]
theorem stored_setCells {w : World} {b t : Nat} {l l' : List Int} (hA : Arr w b t l) (hl : l'.length = l.length) : Stored w (w.setCells b 0 (l'.map (Value.int .u32))) b t l' :=
  ⟨hA.stored hl, size_setCells b _ 0 w, fun _ _ hB hb => below_setCells hB _ 0 w hb, fun _ _ _ hne h => Arr.otherCells hne _ 0 w h, fun _ hk => block_setCells hk _ 0 w⟩
/-- A whole store, at the list of a plain region's operations. -/
theorem wpList_store_arr {P : Program} {ops : Array Oper} {rest : List Oper} {op : Oper} {a : Act} {w : World} {Q : Exit → Act → World → Prop} (hgd : op.guard = none) (ty : TypeId) (x y : Operand) (ho : op.op = .store ty x y)
    (b : Nat) (l' : List Int) (hx : a.eval x = .pointer (some ⟨b, 0, none⟩)) (hy : a.eval y = .agg (ints l')) {t : Nat} (l : List Int) (hA : Arr w b t l) (hl : l'.length = l.length)
    (hi : (P.info? ty).map (·.size) = some l.length)
    (h : ∀ W, Stored w W b t l' → wpList P ops Q rest (a.put op.dst undef) W) : wpList P ops Q (op :: rest) a w := by
  refine wpList_store_mid hgd ty x y ho b 0 (ints l') hx hy (by rw [ints_size, hl]; exact hA.there) (by rw [hi, ints_size, hl]) (ints_oneCell l') ?_
  rw [ints_toList]
  exact h _ (stored_setCells hA hl)
theorem results_cell1 {P : Program} {fn : Func} {p : Tmp} {ty : TypeId} (hr : fn.results = #[.cell p ty]) (tmps : Array Value) (w : World) :
    (results fn tmps).run P w = ((asAddr (tmps.getD p undef)).run P w).andThen fun a w₁ => (loadVar ty a).run P w₁ := by
  simp only [results, hr]
  simp [Sem.run_bind, Result.andThen]
/-- A result that lies in a block. -/
theorem results_arr {P : Program} {fn : Func} {p : Tmp} {ty : TypeId} (hr : fn.results = #[.cell p ty]) (tmps : Array Value) {w : World} {b t : Nat} {l : List Int} (hp : tmps.getD p undef = .pointer (some ⟨b, 0, none⟩)) (hA : Arr w b t l)
    (d : TypeDesc) (hu : P.underlying ty = some d) (hd : d.isRow = true) (hi : (P.info? ty).map (·.size) = some l.length) :
    (results fn tmps).run P w = .ok (.agg (ints l)) w := by
  have h := hA.load (P := P) (ty := ty) d hu hd hi
  rw [results_cell1 hr, hp]
  show (loadVar ty ⟨b, 0, none⟩).run P w = _
  rw [h]
/-- Two results: one that lies in a block, one in a slot. -/
theorem results_arr_tmp {P : Program} {fn : Func} {p u : Tmp} {ty : TypeId} (hr : fn.results = #[.cell p ty, .tmp u]) (tmps : Array Value) {w : World} {b t : Nat} {l : List Int} {v : Value} (hp : tmps.getD p undef = .pointer (some ⟨b, 0, none⟩)) (hv : tmps.getD u undef = v) (hA : Arr w b t l)
    (d : TypeDesc) (hu : P.underlying ty = some d) (hd : d.isRow = true) (hi : (P.info? ty).map (·.size) = some l.length) :
    (results fn tmps).run P w = .ok (.tuple #[.agg (ints l), v]) w := by
  have h := hA.load (P := P) (ty := ty) d hu hd hi
  rw [results_cell_tmp hr, hp, hv]
  show Result.andThen ((loadVar ty ⟨b, 0, none⟩).run P w) _ = _
  rw [h]
  rfl
/-- One of an array's numbers, the array at hand as a value. -/
theorem run_index_ints {P : Program} {ty e : TypeId} {n : Nat} {i0 : TypeInfo} (hu : P.underlying ty = some (.array n e)) (he : P.underlying e = some (.int .u32)) (hi : P.info? e = some i0) (hs : i0.size = 1)
    (l : List Int) (k : Nat) (hk : k < n) (hl : k < l.length) (w : World) :
    (Instr.index ty (.agg (ints l)) (.int .i64 (k : Int))).run P w = .ok (.int .u32 (l.getD k 0)) w := by
  have hg : (ints l)[k]? = some (.int .u32 (l.getD k 0)) := by simp [ints, hl]
  have h0 : (0 : Int) ≤ (k : Int) ∧ (k : Int) < (n : Int) := ⟨by omega, by omega⟩
  simp [Instr.index, asIntOf, run_underlying hu, h0, part, isAgg, run_underlying he, sizeOf, typeInfo, hi, hs]
  rw [if_pos hk, hg]
  simp [List.getD_eq_getElem?_getD]
end Go.Proofs.YtdpokjhoedhadaaDoor.limb
