/-
  THE DOCUMENT's OWN NUMBERS AND POINTS, as what they stand for in the field.
-/
import Derived.Test.YtdpokjhoedhadaaDoorRefInverse
import Derived.Test.YtdpokjhoedhadaaDoorPlainLad
import Derived.Test.YtdpokjhoedhadaaDoorBlk
import Derived.Test.YtdpokjhoedhadaaDoorSoft
namespace Go.Proofs.YtdpokjhoedhadaaDoor.num
open Go.RowKit
open soft edw

/-- A number's cells; a point's. -/
def ncells (x : Int) : List Value := (dg 16 x).map (Value.int .i64)
def pcells (x z : Int) : List Value := ncells x ++ ncells z
theorem ncells_length (x : Int) : (ncells x).length = 16 := by simp [ncells, dg_length]
theorem pcells_length (x z : Int) : (pcells x z).length = 32 := by simp [pcells, ncells_length]
theorem pcells_x (x z : Int) : ncells x = ((pcells x z).drop 0).take (ncells x).length := by simp [pcells]
theorem pcells_z (x z : Int) : ncells z = ((pcells x z).drop 16).take (ncells z).length := by
  rw [pcells, ← ncells_length x, List.drop_left, List.take_length]
abbrev Pnt (x z : Int) : Value := .agg (pcells x z).toArray
theorem infoNUM (x : Int) : (Tryd.prog.info? 37).map (·.size) = some (ncells x).length := by rw [ncells_length]; kernel_rfl
theorem infoPNT (x z : Int) : (Tryd.prog.info? 39).map (·.size) = some (pcells x z).length := by rw [pcells_length]; kernel_rfl
theorem ncells_one (x : Int) : (ncells x).toArray.all (·.oneCell') = true := by
  refine all_oneCell_toArray ?_
  intro v hv
  obtain ⟨n, _, rfl⟩ := List.mem_map.1 hv
  rfl
theorem pcells_one (x z : Int) : (pcells x z).toArray.all (·.oneCell') = true := by
  refine all_oneCell_toArray ?_
  intro v hv
  rcases List.mem_append.1 hv with h | h
  · obtain ⟨n, _, rfl⟩ := List.mem_map.1 h; rfl
  · obtain ⟨n, _, rfl⟩ := List.mem_map.1 h; rfl
/-- A value that stands for k; a block; a point. -/
def NumK (k : K) (v : Value) : Prop := ∃ u, Ok u ∧ kap u = k ∧ v = Num u
def BlkK (W : World) (b : Nat) (k : K) : Prop := ∃ u, Ok u ∧ kap u = k ∧ Blk W b 37 (ncells u)
def PntK (p : K × K) (v : Value) : Prop := ∃ x z, Ok x ∧ Ok z ∧ kap x = p.1 ∧ kap z = p.2 ∧ v = Pnt x z
def BlkP (W : World) (b : Nat) (p : K × K) : Prop := ∃ x z, Ok x ∧ Ok z ∧ kap x = p.1 ∧ kap z = p.2 ∧ Blk W b 39 (pcells x z)
theorem BlkK.lt {W : World} {b : Nat} {k : K} (h : BlkK W b k) : b < W.heap.size := by obtain ⟨u, _, _, h⟩ := h; exact h.lt
theorem BlkP.lt {W : World} {b : Nat} {p : K × K} (h : BlkP W b p) : b < W.heap.size := by obtain ⟨x, z, _, _, _, _, h⟩ := h; exact h.lt
theorem BlkK.below {W W' : World} {b B : Nat} {k : K} (h : BlkK W b k) (hb : Below B W W') (hl : b < B) : BlkK W' b k := by obtain ⟨u, h1, h2, h⟩ := h; exact ⟨u, h1, h2, h.below hb hl⟩
theorem BlkP.below {W W' : World} {b B : Nat} {p : K × K} (h : BlkP W b p) (hb : Below B W W') (hl : b < B) : BlkP W' b p := by obtain ⟨x, z, h1, h2, h3, h4, h⟩ := h; exact ⟨x, z, h1, h2, h3, h4, h.below hb hl⟩
theorem BlkK.other {W W' : World} {b b' t : Nat} {l : List Value} {k : K} (h : BlkK W b k) (hs : BStored W W' b' t l) (hne : b ≠ b') : BlkK W' b k := by obtain ⟨u, h1, h2, h⟩ := h; exact ⟨u, h1, h2, hs.other _ _ _ hne h⟩
theorem BlkP.other {W W' : World} {b b' t : Nat} {l : List Value} {p : K × K} (h : BlkP W b p) (hs : BStored W W' b' t l) (hne : b ≠ b') : BlkP W' b p := by obtain ⟨x, z, h1, h2, h3, h4, h⟩ := h; exact ⟨x, z, h1, h2, h3, h4, hs.other _ _ _ hne h⟩
/-- Loads. -/
theorem BlkK.load {W : World} {b : Nat} {k : K} (h : BlkK W b k) : ∃ v, NumK k v ∧ (Instr.loadAt 37 (.pointer (some ⟨b, 0, none⟩))).run Tryd.prog W = .ok v W := by
  obtain ⟨u, h1, h2, h⟩ := h
  exact ⟨_, ⟨u, h1, h2, rfl⟩, h.loadAt 0 (ncells u) (by simp) _ Tryd.underlying37 rfl (infoNUM u)⟩
theorem BlkP.load {W : World} {b : Nat} {p : K × K} (h : BlkP W b p) : ∃ v, PntK p v ∧ (Instr.loadAt 39 (.pointer (some ⟨b, 0, none⟩))).run Tryd.prog W = .ok v W := by
  obtain ⟨x, z, h1, h2, h3, h4, h⟩ := h
  exact ⟨_, ⟨x, z, h1, h2, h3, h4, rfl⟩, h.loadAt 0 (pcells x z) (by simp) _ Tryd.underlying39 rfl (infoPNT x z)⟩
theorem BlkP.loadX {W : World} {b : Nat} {p : K × K} (h : BlkP W b p) : ∃ v, NumK p.1 v ∧ (Instr.loadAt 37 (.pointer (some ⟨b, 0, none⟩))).run Tryd.prog W = .ok v W := by
  obtain ⟨x, z, h1, h2, h3, h4, h⟩ := h
  exact ⟨_, ⟨x, h1, h3, rfl⟩, h.loadAt 0 (ncells x) (pcells_x x z) _ Tryd.underlying37 rfl (infoNUM x)⟩
theorem BlkP.loadZ {W : World} {b : Nat} {p : K × K} (h : BlkP W b p) : ∃ v, NumK p.2 v ∧ (Instr.loadAt 37 (.pointer (some ⟨b, 16, none⟩))).run Tryd.prog W = .ok v W := by
  obtain ⟨x, z, h1, h2, h3, h4, h⟩ := h
  exact ⟨_, ⟨z, h2, h4, rfl⟩, h.loadAt 16 (ncells z) (pcells_z x z) _ Tryd.underlying37 rfl (infoNUM z)⟩
/-- Calls. -/
theorem kap_z (y : Int) : kap (0 + y) = kap y := by rw [Int.zero_add]
theorem plusK {a b : K} {v u : Value} (hv : NumK a v) (hu : NumK b u) (W : World) : Calls Tryd.prog 48 #[v, u, .int .i64 1] W fun e W' => ∃ r, e = .returned r ∧ NumK (a + b) r ∧ Below W.heap.size W W' := by
  obtain ⟨x, hx, rfl, rfl⟩ := hv
  obtain ⟨y, hy, rfl, rfl⟩ := hu
  refine (plus_any x y 1 hx hy (by decide) (by decide) W).mono ?_
  rintro e W' ⟨⟨r, hr, hk, rfl⟩, hb⟩
  exact ⟨_, rfl, ⟨r, hr, by rw [(kap_iff _ _).2 hk, Int.one_mul, kap_add], rfl⟩, hb⟩
theorem minusK {a b : K} {v u : Value} (hv : NumK a v) (hu : NumK b u) (W : World) : Calls Tryd.prog 48 #[v, u, .int .i64 (-1)] W fun e W' => ∃ r, e = .returned r ∧ NumK (a - b) r ∧ Below W.heap.size W W' := by
  obtain ⟨x, hx, rfl, rfl⟩ := hv
  obtain ⟨y, hy, rfl, rfl⟩ := hu
  refine (plus_any x y (-1) hx hy (by decide) (by decide) W).mono ?_
  rintro e W' ⟨⟨r, hr, hk, rfl⟩, hb⟩
  exact ⟨_, rfl, ⟨r, hr, by rw [(kap_iff _ _).2 hk, show x + -1 * y = x - y from by omega, kap_sub], rfl⟩, hb⟩
theorem facK {a b : K} {v u : Value} (hv : NumK a v) (hu : NumK b u) (W : World) : Calls Tryd.prog 48 #[v, u, .int .i64 121665] W fun e W' => ∃ r, e = .returned r ∧ NumK (a + b * 121665) r ∧ Below W.heap.size W W' := by
  obtain ⟨x, hx, rfl, rfl⟩ := hv
  obtain ⟨y, hy, rfl, rfl⟩ := hu
  refine (plus_any x y 121665 hx hy (by decide) (by decide) W).mono ?_
  rintro e W' ⟨⟨r, hr, hk, rfl⟩, hb⟩
  exact ⟨_, rfl, ⟨r, hr, by rw [(kap_iff _ _).2 hk, Int.mul_comm, kap_add, kap_mul, show kap 121665 = 121665 from by decide], rfl⟩, hb⟩
theorem timesK {a b : K} {v u : Value} (hv : NumK a v) (hu : NumK b u) (W : World) : Calls Tryd.prog 24 #[v, u] W fun e W' => ∃ r, e = .returned r ∧ NumK (a * b) r ∧ Below W.heap.size W W' := by
  obtain ⟨x, hx, rfl, rfl⟩ := hv
  obtain ⟨y, hy, rfl, rfl⟩ := hu
  refine (times_any x y hx hy W).mono ?_
  rintro e W' ⟨⟨r, hr, hk, rfl⟩, hb⟩
  exact ⟨_, rfl, ⟨r, hr, by rw [(kap_iff _ _).2 hk, kap_mul], rfl⟩, hb⟩
theorem inverseK {a : K} {v : Value} (hv : NumK a v) (W : World) : Calls Tryd.prog 25 #[v] W fun e W' => ∃ r, e = .returned r ∧ NumK (kinv a) r ∧ Below W.heap.size W W' := by
  obtain ⟨x, hx, rfl, rfl⟩ := hv
  refine (inverse_any x hx W).mono ?_
  rintro e W' ⟨⟨r, hr, hk, rfl⟩, hb⟩
  have he : ex inv = einv := by have h1 := inv_ex; have h2 := einv_val; omega
  exact ⟨_, rfl, ⟨r, hr, by rw [(kap_iff _ _).2 hk, he, kap_inv], rfl⟩, hb⟩
/-- A block of noughts. -/
theorem zcells : (#[Value.int .i64 0, .int .i64 0, .int .i64 0, .int .i64 0, .int .i64 0, .int .i64 0, .int .i64 0, .int .i64 0, .int .i64 0, .int .i64 0, .int .i64 0, .int .i64 0, .int .i64 0, .int .i64 0, .int .i64 0, .int .i64 0] : Array Value) = (ncells 0).toArray := by kernel_rfl
theorem zpcells : (#[Value.int .i64 0, .int .i64 0, .int .i64 0, .int .i64 0, .int .i64 0, .int .i64 0, .int .i64 0, .int .i64 0, .int .i64 0, .int .i64 0, .int .i64 0, .int .i64 0, .int .i64 0, .int .i64 0, .int .i64 0, .int .i64 0, .int .i64 0, .int .i64 0, .int .i64 0, .int .i64 0, .int .i64 0, .int .i64 0, .int .i64 0, .int .i64 0, .int .i64 0, .int .i64 0, .int .i64 0, .int .i64 0, .int .i64 0, .int .i64 0, .int .i64 0, .int .i64 0] : Array Value) = (pcells 0 0).toArray := by kernel_rfl
theorem ok_0 : Ok 0 := ⟨by decide, by decide⟩
theorem BlkK.new (W : World) : BlkK (W.alloc (.cells (ncells 0).toArray 37)) W.heap.size 0 := ⟨0, ok_0, kap_0, Blk.new W 37 (ncells 0) _ rfl⟩
theorem BlkP.new (W : World) : BlkP (W.alloc (.cells (pcells 0 0).toArray 39)) W.heap.size (0, 0) := ⟨0, 0, ok_0, ok_0, kap_0, kap_0, Blk.new W 39 (pcells 0 0) _ rfl⟩
/-- A point is built of two numbers. -/
theorem sixteen (l : List Int) (h : l.length = 16) : ∃ a0 a1 a2 a3 a4 a5 a6 a7 a8 a9 a10 a11 a12 a13 a14 a15 : Int, l = [a0, a1, a2, a3, a4, a5, a6, a7, a8, a9, a10, a11, a12, a13, a14, a15] := by
  match l, h with
  | [a0, a1, a2, a3, a4, a5, a6, a7, a8, a9, a10, a11, a12, a13, a14, a15], _ => exact ⟨a0, a1, a2, a3, a4, a5, a6, a7, a8, a9, a10, a11, a12, a13, a14, a15, rfl⟩
set_option maxRecDepth 100000 in
theorem build_run {s t : Nat} {o : Oper} (ho : o.op = .build 39 #[(0, .tmp s), (1, .tmp t)]) (ev : Operand → Value) (y1 y2 : Int) (e1 : ev (.tmp s) = Num y1) (e2 : ev (.tmp t) = Num y2) (W : World) :
    (execOp ev o).run Tryd.prog W = .ok (.value (Pnt y1 y2)) W := by
  unfold Pnt pcells ncells
  unfold Num ints at e1 e2
  obtain ⟨a0, a1, a2, a3, a4, a5, a6, a7, a8, a9, a10, a11, a12, a13, a14, a15, h1⟩ := sixteen (dg 16 y1) (dg_length _ _)
  obtain ⟨c0, c1, c2, c3, c4, c5, c6, c7, c8, c9, c10, c11, c12, c13, c14, c15, h2⟩ := sixteen (dg 16 y2) (dg_length _ _)
  rw [h1] at e1 ⊢
  rw [h2] at e2 ⊢
  simp only [List.map_cons, List.map_nil] at e1 e2 ⊢
  unfold execOp
  rw [ho]
  simp [go_sem, e1, e2]
/-- A point is stored into a block that the region has made. -/
theorem kept_storeP {R : Nat → Value → World → Prop} {fresh : Nat → Bool} {W0 W W' : World} {st : List (Nat × Nat × (World → Nat → Prop))} {f : Nat → Option Value} {i k b t : Nat} {l : List Value} (h : Kept R fresh W0 st f W) (hk : f k = some (.pointer (some ⟨b, 0, none⟩))) (hf : f i = none) (hfi : fresh i = false) (hfk : fresh k = true) (hle : W0.heap.size ≤ b) (hW : BStored W W' b t l)
    (hRi : R i undef W') (hRS : ∀ j v, f j = some v → R j v W → R j v W') (hst : ∀ s ∈ st, s.1 = i → s.2.1 = k ∧ s.2.2 W' b) (hother : ∀ s ∈ st, s.1 ≠ i → s.2.1 ≠ k ∧ fresh s.2.1 = true ∧ ∀ b', b' ≠ b → s.2.2 W b' → s.2.2 W' b') : Kept R fresh W0 st (upd f i undef) W' := by
  have hki : k ≠ i := fun e => by rw [e, hf] at hk; cases hk
  refine ⟨⟨hW.below _ _ hle h.good.below, fun j v hj => ?_, fun j j' v hjj fj fj' h1 h2 => ?_⟩, fun s hs hsome => ?_⟩
  · by_cases e : j = i
    · subst e; rw [upd_same] at hj; cases hj; exact hRi
    · rw [upd_other f _ e] at hj; exact hRS j v hj (h.good.val j v hj)
  · have e1 : j ≠ i := fun e => by rw [e, hfi] at fj; cases fj
    have e2 : j' ≠ i := fun e => by rw [e, hfi] at fj'; cases fj'
    rw [upd_other f _ e1] at h1
    rw [upd_other f _ e2] at h2
    exact h.good.apart j j' v hjj fj fj' h1 h2
  · by_cases e : s.1 = i
    · obtain ⟨h1, h2⟩ := hst s hs e
      exact ⟨b, by rw [h1, upd_other f _ hki]; exact hk, hW.blk.lt, h2⟩
    · rw [upd_other f _ e] at hsome
      obtain ⟨b', h1, h2, h3⟩ := h.kept s hs hsome
      obtain ⟨h4, h5, h6⟩ := hother s hs e
      have hbb : b' ≠ b := fun e2 => h.good.apart _ _ _ h4 h5 hfk h1 (by rw [e2]; exact hk)
      have hsi : s.2.1 ≠ i := fun e2 => by rw [e2, hf] at h1; cases h1
      exact ⟨b', by rw [upd_other f _ hsi]; exact h1, by rw [hW.size]; exact h2, h6 b' hbb h3⟩
end Go.Proofs.YtdpokjhoedhadaaDoor.num
