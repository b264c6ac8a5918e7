/-
  A ROW that a slice stands for, in words of its cells alone: all are there up to its room and may be written. Bytes as cells.
-/
import Derived.WalkKit
import Derived.ArgAppend
import Derived.Deep.MidRow
import Derived.Deep.AppendLies
import Derived.Laws.IdiomStrings
namespace Go.Proofs.Ytnomfkmdckmjeaa
open Go.RowKit

/-- Block g begins with the cells xs, n elements of s cells, and has room for cap. -/
structure Row (w : World) (B s g n cap : Nat) (xs : List Value) : Prop where
  len : xs.length = n * s
  ge : B ≤ g
  lt : g < w.heap.size
  le : n ≤ cap
  at0 : w.rangeAt g 0 xs
  free : w.there g 0 (cap * s)
theorem Row.keep {w w' : World} {B s g n cap : Nat} {xs : List Value} (h : Row w B s g n cap xs) (hz : w.heap.size ≤ w'.heap.size) (hb : w'.heap[g]? = w.heap[g]?) : Row w' B s g n cap xs := by
  have e1 : ∀ o, w'.cell? ⟨g, o, none⟩ = w.cell? ⟨g, o, none⟩ := fun o => World.cell?_of_block hb
  have e2 : ∀ o, w'.frozen? ⟨g, o, none⟩ = w.frozen? ⟨g, o, none⟩ := fun o => World.frozen?_of_block hb
  exact ⟨h.len, h.ge, Nat.lt_of_lt_of_le h.lt hz, h.le, fun j v hv => by rw [e1]; exact h.at0 j v hv, fun j hj => by rw [e1, e2]; exact h.free j hj⟩
theorem Row.alloc {w : World} {B s g n cap : Nat} {xs : List Value} (h : Row w B s g n cap xs) (o : Obj) : Row (w.alloc o) B s g n cap xs :=
  h.keep (by simp) (Below.heap_alloc w o g h.lt)
theorem Row.drew {w : World} {B s g n cap : Nat} {xs : List Value} (h : Row w B s g n cap xs) : Row w.drew B s g n cap xs := h.keep (Nat.le_refl _) rfl
theorem Row.below {w w' : World} {B C s g n cap : Nat} {xs : List Value} (h : Row w B s g n cap xs) (hb : Below C w w') (hg : g < C) : Row w' B s g n cap xs :=
  h.keep (hb.size) (hb.block g hg)
theorem Row.other {w : World} {B s g n cap : Nat} {xs : List Value} (h : Row w B s g n cap xs) {a : Addr} (ha : g ≠ a.block) (u : Value) : Row (w.setCell a u) B s g n cap xs :=
  h.keep (by simp) (Below.heap_setCell _ _ _ _ ha)
theorem Row.otherCells {w : World} {B s g n cap : Nat} {xs : List Value} (h : Row w B s g n cap xs) {b : Nat} (hb : g ≠ b) (o : Nat) (vs : List Value) : Row (w.setCells b o vs) B s g n cap xs := by
  refine h.keep ?_ ?_
  · exact Nat.le_of_eq (Eq.symm (by
      induction vs generalizing o w with
      | nil => rfl
      | cons v vs ih => rw [World.setCells, ih (h.other hb v)]; simp))
  · induction vs generalizing o w with
    | nil => rfl
    | cons v vs ih => rw [World.setCells, ih (h.other hb v), Below.heap_setCell _ _ _ _ hb]
theorem Row.get {w : World} {B s g n cap : Nat} {xs : List Value} (h : Row w B s g n cap xs) (j : Nat) (v : Value) (hv : xs[j]? = some v) : w.cell? ⟨g, j, none⟩ = some v := by
  have := h.at0 j v hv
  rwa [Nat.zero_add] at this
theorem Row.part {w : World} {B s g n cap : Nat} {xs : List Value} (h : Row w B s g n cap xs) (o : Nat) (part : List Value) (hp : part = (xs.drop o).take part.length) : w.rangeAt g o part := fun j v hv => by
  refine h.get _ _ ?_
  rw [hp, List.getElem?_take] at hv
  split at hv
  · rw [List.getElem?_drop] at hv; exact hv
  · cases hv
/-- A row of a conversion. -/
theorem Row.bytes (w : World) (t cp : Nat) (s : ByteArray) (B : Nat) (hB : B ≤ w.heap.size) (hc : s.size ≤ cp) :
    Row (w.alloc (.cells (bytesRow s cp) t ((bytesRow s cp).size, (bytesRow s cp).size + 1))) B 1 w.heap.size s.size cp (s.data.toList.map fun b => Value.int .u8 b.toNat) := by
  have hz : (bytesRow s cp).size = cp := by
    unfold bytesRow
    rw [Array.size_append, Array.size_map, Array.size_replicate]
    show s.size + (cp - s.size) = cp
    omega
  refine ⟨by simp, hB, by simp, hc, fun j v hv => ?_, fun j hj => ?_⟩
  · have hj : j < s.data.size := by
      have := (List.getElem?_eq_some_iff.1 hv).1
      simpa using this
    rw [Nat.zero_add, World.cell?_alloc_mark]
    have h1 := bytesRow_at s cp j hj
    rw [h1, ← hv]
    simp only [List.getElem?_map, Array.getElem?_toList]
    rw [Array.getElem?_eq_getElem hj]
    rfl
  · rw [Nat.mul_one] at hj
    rw [Nat.zero_add, World.cell?_alloc_mark, World.frozen?_alloc_mark]
    refine ⟨?_, ?_⟩
    · rw [Array.getElem?_eq_getElem (by omega)]; rfl
    · simp; omega
/-- A row that the call owns. -/
theorem Row.own {w : World} {B e s g n cap : Nat} {xs : List Value} (h : w.ownsRow B e s (.slice (some ⟨g, 0, none⟩) n cap) n xs) : Row w B s g n cap xs := by
  obtain ⟨hl, ⟨h0, _⟩ | ⟨g', cap', cur, hv, hB, hg, hn, hm, hc, ht⟩⟩ := h
  · cases h0
  · injection hv with e1 e2 e3
    injection e1 with e1
    injection e1 with e1
    subst e1 e3
    have hlt : g < w.heap.size := (Array.getElem?_eq_some_iff.1 hg).1
    refine ⟨hl, hB, hlt, hn, fun j v hv => ?_, fun j hj => ?_⟩
    · rw [Nat.zero_add, cell_of_row w g j cur e (0, 0) hg]
      rw [← ht, List.getElem?_take] at hv
      split at hv
      · simpa using hv
      · cases hv
    · rw [Nat.zero_add, cell_of_row w g j cur e (0, 0) hg, Array.getElem?_eq_getElem (by omega)]
      refine ⟨rfl, ?_⟩
      unfold World.frozen?
      rw [hg]
      simp
/-- Appended. -/
theorem Row.append {P : Program} {w : World} {B s g n cap : Nat} {xs : List Value} (h : Row w B s g n cap xs) (t ty e : TypeId) (i : TypeInfo) (z : Value) (bytes : Nat)
    (ht : P.underlying t = some (.slice e)) (hi : P.info? e = some i) (hz : i.zero = some z) (hsize : i.size = s) (hby : i.bytes = bytes) (hzs : z.cells.size = s) (hsz : 0 < s)
    (a : Addr) (m c : Nat) (news : List Value) (hl : news.length = m * s) (hnews : ∀ j u, news[j]? = some u → w.cell? (a.add j) = some u) (h1 : ∀ u ∈ news, u.oneCell' = true)
    (h63 : n + m ≤ maxLen) (hbytes : (n + m) * bytes ≤ 140737488355328) (hm : 0 < m) (hB : B ≤ w.heap.size) :
    ∃ g' cap' w', (Builtin.append_ #[t, t] ty #[.slice (some ⟨g, 0, none⟩) n cap, .slice (some a) m c]).run P w = .ok (.slice (some ⟨g', 0, none⟩) (n + m) cap') w' ∧ Row w' B s g' (n + m) cap' (xs ++ news) ∧ w.grownBy w' (some g) ∧ (g' = g ∨ w.heap.size ≤ g') := by
  have hlen : (xs ++ news).length = (n + m) * s := by rw [List.length_append, h.len, hl, Nat.add_mul]
  by_cases hr : n + m ≤ cap
  · have hth : ∀ j, j < news.length → (w.cell? ⟨g, n * s + j, none⟩).isSome = true ∧ w.frozen? ⟨g, n * s + j, none⟩ = false := fun j hj => by
      have hj2 : n * s + j < cap * s := by
        have : (n + m) * s ≤ cap * s := Nat.mul_le_mul_right s hr
        rw [Nat.add_mul] at this
        omega
      have := h.free (n * s + j) hj2
      rwa [Nat.zero_add] at this
    have hrun := run_append_room_cells (P := P) w t ty e i ht hi g 0 n cap a m c news (by rw [hsize]; exact hl) hnews h1 hr (fun j hj => by rw [hsize, Nat.zero_add]; exact (hth j hj).1) (fun j hj => by rw [hsize, Nat.zero_add]; exact (hth j hj).2)
    rw [hsize, Nat.zero_add] at hrun
    have hsz2 : ∀ (vs : List Value) (o : Nat) (w : World), (w.setCells g o vs).heap.size = w.heap.size := by
      intro vs
      induction vs with
      | nil => intro o w; rfl
      | cons v vs ih => intro o w; rw [World.setCells, ih]; simp
    have hbl : ∀ (vs : List Value) (o : Nat) (w : World) (k : Nat), k ≠ g → (w.setCells g o vs).heap[k]? = w.heap[k]? := by
      intro vs
      induction vs with
      | nil => intro o w k _; rfl
      | cons v vs ih => intro o w k hk; rw [World.setCells, ih _ _ _ hk, Below.heap_setCell _ _ _ _ hk]
    have hos : ∀ (vs : List Value) (o : Nat) (w : World), (w.setCells g o vs).os = w.os ∧ (w.setCells g o vs).tape = w.tape ∧ (w.setCells g o vs).output = w.output := by
      intro vs
      induction vs with
      | nil => intro o w; exact ⟨rfl, rfl, rfl⟩
      | cons v vs ih => intro o w; rw [World.setCells]; exact ih _ _
    refine ⟨g, cap, _, hrun, ⟨hlen, h.ge, by rw [hsz2]; exact h.lt, hr, fun j v hv => ?_, ?_⟩, ⟨(hos _ _ _).1, (hos _ _ _).2.1, (hos _ _ _).2.2, by rw [hsz2]; exact Nat.le_refl _, fun k _ hk => hbl _ _ _ _ (fun e => hk (by rw [e]))⟩, .inl rfl⟩
    · rw [Nat.zero_add]
      by_cases hj : j < n * s
      · rw [World.cell?_setCells_out _ _ _ _ _ (fun _ _ => .inl hj)]
        rw [List.getElem?_append_left (by rw [h.len]; exact hj)] at hv
        exact h.get j v hv
      · rw [List.getElem?_append_right (by rw [h.len]; omega), h.len] at hv
        obtain ⟨q, rfl⟩ : ∃ q, j = n * s + q := ⟨j - n * s, by omega⟩
        rw [Nat.add_sub_cancel_left] at hv
        obtain ⟨hq, rfl⟩ := List.getElem?_eq_some_iff.1 hv
        exact World.cell?_setCells_in g news (n * s) w (fun j hj => (hth j hj).1) q hq
    · exact World.there_setCells h.free g (n * s) news
  · obtain ⟨v', w', hrun, hown, hgr⟩ := run_append_arg_grows (P := P) w t ty e i z s bytes ht hi hz hsize hby hzs hsz ⟨g, 0, none⟩ n cap xs h.len (fun j u hj => by rw [Addr.add_mid]; exact h.at0 j u hj) a m c news hl hnews (by omega) h63 hbytes
    obtain ⟨g', cap', rfl, hge, hlt⟩ := hown.form (by omega)
    have hR := Row.own hown
    refine ⟨g', cap', w', hrun, ⟨hR.len, by omega, hR.lt, hR.le, hR.at0, hR.free⟩, ⟨hgr.os, hgr.tape, hgr.output, hgr.size, fun k hk _ => hgr.block k hk (by simp)⟩, ?_⟩
    exact .inr hge
/-- Appended, at the list of a plain region's operations. -/
theorem wpList_append_row {P : Program} {w : World} {ops : Array Oper} {rest : List Oper} {o : Oper} {a : Act} {Q : Exit → Act → World → Prop} (hgd : o.guard = none) (s x : Operand) (t : TypeId)
    (ho : o.op = .call { callee := .builtin .append, args := #[s, x], argTypes := #[t, t] }) {B sz g n cap : Nat} {xs : List Value} (h : Row w B sz g n cap xs) (e : TypeId) (i : TypeInfo) (z : Value) (bytes : Nat)
    (ht : P.underlying t = some (.slice e)) (hi : P.info? e = some i) (hz : i.zero = some z) (hsize : i.size = sz) (hby : i.bytes = bytes) (hzs : z.cells.size = sz) (hsz : 0 < sz)
    (ad : Addr) (m c : Nat) (news : List Value) (hs : a.eval s = .slice (some ⟨g, 0, none⟩) n cap) (hx : a.eval x = .slice (some ad) m c) (hl : news.length = m * sz) (hnews : ∀ j u, news[j]? = some u → w.cell? (ad.add j) = some u) (h1 : ∀ u ∈ news, u.oneCell' = true)
    (h63 : n + m ≤ maxLen) (hbytes : (n + m) * bytes ≤ 140737488355328) (hm : 0 < m) (hB : B ≤ w.heap.size)
    (hK : ∀ g' cap' w', Row w' B sz g' (n + m) cap' (xs ++ news) → w.grownBy w' (some g) → (g' = g ∨ w.heap.size ≤ g') → wpList P ops Q rest (a.put o.dst (.slice (some ⟨g', 0, none⟩) (n + m) cap')) w') : wpList P ops Q (o :: rest) a w := by
  refine wpList_plain hgd fun K hK' => ?_
  obtain ⟨g', cap', w', hrun, r1, r2, r3⟩ := h.append (P := P) t o.type e i z bytes ht hi hz hsize hby hzs hsz ad m c news hl hnews h1 h63 hbytes hm hB
  unfold Oper.wp
  simp [execOp, ho, resolve, invoke, builtin, hs, hx, hrun, Result.andThen]
  exact hK' _ _ (hK g' cap' w' r1 r2 r3)

/-- Bytes, as cells. -/
def by8 (l : List Nat) : List Value := l.map fun n : Nat => Value.int .u8 (n : Int)
theorem by8_length (l : List Nat) : (by8 l).length = l.length := by simp [by8]
theorem by8_get (l : List Nat) (j : Nat) (h : j < l.length) : (by8 l)[j]? = some (.int .u8 ((l.getD j 0 : Nat) : Int)) := by
  simp [by8, h]
theorem by8_append (l m : List Nat) : by8 (l ++ m) = by8 l ++ by8 m := by simp [by8]
theorem by8_set (l : List Nat) (j n : Nat) : (by8 l).set j (.int .u8 (n : Int)) = by8 (l.set j n) := by simp [by8, List.map_set]
theorem by8_take (l : List Nat) (k : Nat) : by8 (l.take k) = (by8 l).take k := by simp [by8]
theorem by8_drop (l : List Nat) (k : Nat) : by8 (l.drop k) = (by8 l).drop k := by simp [by8]
theorem by8_one (l : List Nat) : (by8 l).toArray.all (·.oneCell') = true := by simp [by8, Value.oneCell']
theorem by8_ones (l : List Nat) : ∀ u ∈ by8 l, u.oneCell' = true := by simp [by8, Value.oneCell']
/-- A text's bytes. -/
def nb (s : ByteArray) : List Nat := s.data.toList.map UInt8.toNat
theorem nb_length (s : ByteArray) : (nb s).length = s.size := by simp [nb]
theorem nb_lt (s : ByteArray) : ∀ x ∈ nb s, x < 256 := by
  intro x hx
  obtain ⟨b, _, rfl⟩ := List.mem_map.1 hx
  exact b.toNat_lt
theorem by8_nb (s : ByteArray) : by8 (nb s) = s.data.toList.map fun b => Value.int .u8 b.toNat := by simp [by8, nb]
/-- The text of bytes. -/
def tx (l : List Nat) : ByteArray := ⟨(l.map UInt8.ofNat).toArray⟩
theorem tx_nb (s : ByteArray) : tx (nb s) = s := by
  obtain ⟨⟨l⟩⟩ := s
  have e : l.map (UInt8.ofNat ∘ UInt8.toNat) = l := (List.map_congr_left fun x _ => (UInt8.ofNat_toNat : UInt8.ofNat x.toNat = x)).trans (List.map_id l)
  simp [tx, nb, e]
theorem nb_tx (l : List Nat) (h : ∀ x ∈ l, x < 256) : nb (tx l) = l := by
  simp only [nb, tx, List.map_map]
  refine (List.map_congr_left fun x hx => ?_).trans (List.map_id l)
  show (UInt8.ofNat x).toNat = x
  have := h x hx
  exact UInt8.toNat_ofNat_of_lt' (by have : UInt8.size = 256 := rfl; omega)
theorem tx_size (l : List Nat) : (tx l).size = l.length := by
  show (tx l).data.size = _
  simp [tx]
/-- One of an array's bytes, the array at hand as a value. -/
theorem run_index_by8 {P : Program} {ty e : TypeId} {n : Nat} {i0 : TypeInfo} (hu : P.underlying ty = some (.array n e)) (he : P.underlying e = some (.int .u8)) (hi : P.info? e = some i0) (hs : i0.size = 1)
    (l : List Nat) (k : Nat) (hk : k < n) (hl : k < l.length) (w : World) :
    (Instr.index ty (.agg (by8 l).toArray) (.int .i64 (k : Int))).run P w = .ok (.int .u8 ((l.getD k 0 : Nat) : Int)) w := by
  have hg : (by8 l).toArray[k]? = some (.int .u8 ((l.getD k 0 : Nat) : Int)) := by
    rw [List.getElem?_toArray]; exact by8_get l k hl
  have h0 : (0 : Int) ≤ (k : Int) ∧ (k : Int) < (n : Int) := ⟨by omega, by omega⟩
  simp [Instr.index, asIntOf, run_underlying hu, h0, part, isAgg, run_underlying he, sizeOf, typeInfo, hi, hs]
  rw [if_pos hk, ← List.getElem?_toArray, hg]
  simp [List.getD_eq_getElem?_getD]
end Go.Proofs.Ytnomfkmdckmjeaa
