/-
  A BLOCK OF whatever cells: read, loaded (whole, or a part of it) and stored as a whole.
-/
import Derived.WalkKit
import Derived.Deep.MidRow
import Derived.Laws.ResultCell
namespace Go.Proofs.Ytnomfkmdckmjeaa
open Go.RowKit

/-- Block b holds these cells, and may be written. -/
def Blk (w : World) (b t : Nat) (l : List Value) : Prop := w.heap[b]? = some (.cells l.toArray t (0, 0))
theorem Blk.lt {w : World} {b t : Nat} {l : List Value} (h : Blk w b t l) : b < w.heap.size := by
  rcases Nat.lt_or_ge b w.heap.size with hlt | hge
  · exact hlt
  · unfold Blk at h; rw [Array.getElem?_eq_none hge] at h; cases h
theorem Blk.cell {w : World} {b t : Nat} {l : List Value} (h : Blk w b t l) (i : Nat) (v : Value) (hi : l[i]? = some v) : w.cell? ⟨b, i, none⟩ = some v := by
  rw [cell_of_row w b i l.toArray t (0, 0) h]
  simpa using hi
theorem Blk.frozen {w : World} {b t : Nat} {l : List Value} (h : Blk w b t l) (i : Nat) : w.frozen? ⟨b, i, none⟩ = false := by
  unfold World.frozen?
  rw [show w.heap[b]? = some (.cells l.toArray t (0, 0)) from h]
  simp
theorem Blk.set {w : World} {b t : Nat} {l : List Value} (h : Blk w b t l) (i : Nat) (v : Value) : Blk (w.setCell ⟨b, i, none⟩ v) b t (l.set i v) := by
  have hlt := h.lt
  unfold Blk at h ⊢
  simp only [World.setCell, Array.getElem?_modify, if_true, h, Option.map_some]
  congr 2
  apply Array.ext'
  simp
theorem Blk.other {w : World} {b t : Nat} {l : List Value} (h : Blk w b t l) {a : Addr} (ha : b ≠ a.block) (u : Value) : Blk (w.setCell a u) b t l := by
  unfold Blk at h ⊢
  rw [Below.heap_setCell _ _ _ _ ha]
  exact h
theorem Blk.alloc {w : World} {b t : Nat} {l : List Value} (h : Blk w b t l) (o : Obj) : Blk (w.alloc o) b t l := by
  have hlt := h.lt
  unfold Blk at h ⊢
  rw [Below.heap_alloc _ _ _ hlt]
  exact h
theorem Blk.new (w : World) (t : Nat) (l : List Value) (a : Array Value) (ha : a = l.toArray) : Blk (w.alloc (.cells a t)) w.heap.size t l := by rw [ha]; exact heap_alloc_new w _
theorem Blk.below {w w' : World} {b t B : Nat} {l : List Value} (h : Blk w b t l) (hb : Below B w w') (hlt : b < B) : Blk w' b t l := by
  unfold Blk at h ⊢
  rw [hb.block b hlt]
  exact h
theorem Blk.range {w : World} {b t : Nat} {l : List Value} (h : Blk w b t l) (o : Nat) (part : List Value) (hp : part = (l.drop o).take part.length) : w.rangeAt b o part := fun j v hv => by
  refine h.cell _ _ ?_
  rw [hp, List.getElem?_take] at hv
  split at hv
  · rw [List.getElem?_drop] at hv; exact hv
  · cases hv
theorem Blk.there {w : World} {b t : Nat} {l : List Value} (h : Blk w b t l) : w.there b 0 l.length := fun j hj => by
  rw [Nat.zero_add, h.cell j l[j] (List.getElem?_eq_getElem hj), h.frozen j]
  exact ⟨rfl, rfl⟩
theorem Blk.loadAt {P : Program} {w : World} {b t ty : Nat} {l : List Value} (h : Blk w b t l) (o : Nat) (part : List Value) (hp : part = (l.drop o).take part.length) (d : TypeDesc) (hu : P.underlying ty = some d) (hd : d.isRow = true) (hi : (P.info? ty).map (·.size) = some part.length) :
    (Instr.loadAt ty (.pointer (some ⟨b, o, none⟩))).run P w = .ok (.agg part.toArray) w :=
  run_loadAt_mid (P := P) w b o ty part d (h.range o part hp) hu hd hi
theorem Blk.loadVar {P : Program} {w : World} {b t ty : Nat} {l : List Value} (h : Blk w b t l) (d : TypeDesc) (hu : P.underlying ty = some d) (hd : d.isRow = true) (hi : (P.info? ty).map (·.size) = some l.length) :
    (loadVar ty ⟨b, 0, none⟩).run P w = .ok (.agg l.toArray) w :=
  run_loadVar_mid (P := P) w b 0 ty l d (h.range 0 l (by simp)) hu hd hi
theorem Blk.storedFrom {b t : Nat} (vs : List Value) : ∀ (o : Nat) (w : World) (l : List Value), Blk w b t l → o + vs.length ≤ l.length → Blk (w.setCells b o vs) b t (l.take o ++ vs ++ l.drop (o + vs.length)) := by
  induction vs with
  | nil =>
    intro o w l h _
    simpa [World.setCells] using h
  | cons v vs ih =>
    intro o w l h hl
    simp only [List.length_cons] at hl
    have h1 := ih (o + 1) _ _ (h.set o v) (by rw [List.length_set]; omega)
    have e : (l.set o v).take (o + 1) ++ vs ++ (l.set o v).drop (o + 1 + vs.length) = l.take o ++ (v :: vs) ++ l.drop (o + (v :: vs).length) := by
      rw [List.drop_set_of_lt (by omega), List.length_cons, show o + 1 + vs.length = o + (vs.length + 1) from by omega]
      rw [List.take_succ_eq_append_getElem (by rw [List.length_set]; omega), List.getElem_set_self, List.take_set_of_le (Nat.le_refl _)]
      simp
    rw [e] at h1
    exact h1
theorem Blk.stored {w : World} {b t : Nat} {l l' : List Value} (h : Blk w b t l) (hl : l'.length = l.length) : Blk (w.setCells b 0 l') b t l' := by
  have := Blk.storedFrom l' 0 w l h (by omega)
  rw [Nat.zero_add, hl, List.drop_of_length_le (Nat.le_refl _)] at this
  simpa using this
theorem blk_below_setCells {B : Nat} {a : World} {b : Nat} (hb : B ≤ b) (vs : List Value) : ∀ (o : Nat) (w : World), Below B a w → Below B a (w.setCells b o vs) := by
  induction vs with
  | nil => intro o w h; exact h
  | cons v vs ih => intro o w h; exact ih _ _ (h.setCell hb v)
theorem blk_size_setCells (b : Nat) (vs : List Value) : ∀ (o : Nat) (w : World), (w.setCells b o vs).heap.size = w.heap.size := by
  induction vs with
  | nil => intro o w; rfl
  | cons v vs ih => intro o w; rw [World.setCells, ih]; simp
theorem blk_setCells {b k : Nat} (hk : k ≠ b) (vs : List Value) : ∀ (o : Nat) (w : World), (w.setCells b o vs).heap[k]? = w.heap[k]? := by
  induction vs with
  | nil => intro o w; rfl
  | cons v vs ih => intro o w; rw [World.setCells, ih, Below.heap_setCell _ _ _ _ hk]
/-- What a whole store leaves. -/
structure BStored (w W : World) (b t : Nat) (l : List Value) : Prop where
  blk : Blk W b t l
  size : W.heap.size = w.heap.size
  below : ∀ (B : Nat) (a : World), B ≤ b → Below B a w → Below B a W
  other : ∀ (b' t' : Nat) (l' : List Value), b' ≠ b → Blk w b' t' l' → Blk W b' t' l'
  block : ∀ k, k ≠ b → W.heap[k]? = w.heap[k]?
theorem bstored {w : World} {b t : Nat} {l l' : List Value} (hA : Blk w b t l) (hl : l'.length = l.length) : BStored w (w.setCells b 0 l') b t l' :=
  ⟨hA.stored hl, blk_size_setCells b _ 0 w, fun _ _ hB hb => blk_below_setCells hB _ 0 w hb, fun _ _ _ hne h => by unfold Blk at h ⊢; rw [blk_setCells hne]; exact h, fun _ hk => blk_setCells hk _ 0 w⟩
/-- A load of a part, at the list of a plain region's operations. -/
theorem wpList_load_blk {P : Program} {ops : Array Oper} {rest : List Oper} {op : Oper} {a : Act} {w : World} {Q : Exit → Act → World → Prop} (hgd : op.guard = none) (ty : TypeId) (x : Operand) (ho : op.op = .load ty x)
    (b o : Nat) (hx : a.eval x = .pointer (some ⟨b, o, none⟩)) {t : Nat} {l : List Value} (hA : Blk w b t l) (part : List Value) (hp : part = (l.drop o).take part.length) (d : TypeDesc)
    (hu : P.underlying ty = some d) (hd : d.isRow = true) (hi : (P.info? ty).map (·.size) = some part.length)
    (h : wpList P ops Q rest (a.put op.dst (.agg part.toArray)) w) : wpList P ops Q (op :: rest) a w :=
  wpList_load_mid hgd ty x ho b o hx part d (hA.range o part hp) hu hd hi h
/-- A whole store, at the list of a plain region's operations. -/
theorem wpList_store_blk {P : Program} {ops : Array Oper} {rest : List Oper} {op : Oper} {a : Act} {w : World} {Q : Exit → Act → World → Prop} (hgd : op.guard = none) (ty : TypeId) (x y : Operand) (ho : op.op = .store ty x y)
    (b : Nat) (l' : List Value) (hx : a.eval x = .pointer (some ⟨b, 0, none⟩)) (hy : a.eval y = .agg l'.toArray) {t : Nat} (l : List Value) (hA : Blk w b t l) (hl : l'.length = l.length) (hc : l'.toArray.all (·.oneCell') = true)
    (hi : (P.info? ty).map (·.size) = some l.length)
    (h : ∀ W, BStored w W b t l' → wpList P ops Q rest (a.put op.dst undef) W) : wpList P ops Q (op :: rest) a w := by
  refine wpList_store_mid hgd ty x y ho b 0 l'.toArray hx hy (by rw [List.size_toArray, hl]; exact hA.there) (by rw [hi, List.size_toArray, hl]) hc ?_
  exact h _ (bstored hA hl)
/-- Two results that lie in blocks. -/
theorem results_cell2 {P : Program} {fn : Func} {p q : Tmp} {ty : TypeId} (hr : fn.results = #[.cell p ty, .cell q ty]) (tmps : Array Value) (w : World) :
    (results fn tmps).run P w = ((asAddr (tmps.getD p undef)).run P w).andThen fun a w₁ => ((loadVar ty a).run P w₁).andThen fun v w₂ => ((asAddr (tmps.getD q undef)).run P w₂).andThen fun a w₃ => ((loadVar ty a).run P w₃).andThen fun u w₄ => .ok (.tuple #[v, u]) w₄ := by
  simp only [results, hr]
  simp [Sem.run_bind, Result.andThen]
theorem results_blk2 {P : Program} {fn : Func} {p q : Tmp} {ty : TypeId} (hr : fn.results = #[.cell p ty, .cell q ty]) (tmps : Array Value) {w : World} {b t b' t' : Nat} {l l' : List Value} (hp : tmps.getD p undef = .pointer (some ⟨b, 0, none⟩)) (hq : tmps.getD q undef = .pointer (some ⟨b', 0, none⟩)) (hA : Blk w b t l) (hB : Blk w b' t' l')
    (d : TypeDesc) (hu : P.underlying ty = some d) (hd : d.isRow = true) (hi : (P.info? ty).map (·.size) = some l.length) (hj : (P.info? ty).map (·.size) = some l'.length) :
    (results fn tmps).run P w = .ok (.tuple #[.agg l.toArray, .agg l'.toArray]) w := by
  have h := hA.loadVar (P := P) (ty := ty) d hu hd hi
  have h' := hB.loadVar (P := P) (ty := ty) d hu hd hj
  rw [results_cell2 hr, hp, hq]
  show Result.andThen ((Go.loadVar ty ⟨b, 0, none⟩).run P w) _ = _
  rw [h]
  show Result.andThen ((Go.loadVar ty ⟨b', 0, none⟩).run P w) _ = _
  rw [h']
  rfl
theorem results_cell1B {P : Program} {fn : Func} {p : Tmp} {ty : TypeId} (hr : fn.results = #[.cell p ty]) (tmps : Array Value) (w : World) :
    (results fn tmps).run P w = ((asAddr (tmps.getD p undef)).run P w).andThen fun a w₁ => (loadVar ty a).run P w₁ := by
  simp only [results, hr]
  simp [Sem.run_bind, Result.andThen]
theorem results_blk1 {P : Program} {fn : Func} {p : Tmp} {ty : TypeId} (hr : fn.results = #[.cell p ty]) (tmps : Array Value) {w : World} {b t : Nat} {l : List Value} (hp : tmps.getD p undef = .pointer (some ⟨b, 0, none⟩)) (hA : Blk w b t l)
    (d : TypeDesc) (hu : P.underlying ty = some d) (hd : d.isRow = true) (hi : (P.info? ty).map (·.size) = some l.length) :
    (results fn tmps).run P w = .ok (.agg l.toArray) w := by
  have h := hA.loadVar (P := P) (ty := ty) d hu hd hi
  rw [results_cell1B hr, hp]
  show (Go.loadVar ty ⟨b, 0, none⟩).run P w = _
  rw [h]
end Go.Proofs.Ytnomfkmdckmjeaa
