/-
  THE WALK OF the document's own climb.
-/
import Derived.Test.YtdpokjhoedhadaaDoorRefPoint
import Derived.PlainAid
import Derived.Laws.Strings3
namespace Go.Proofs.YtdpokjhoedhadaaDoor.num
open Go.RowKit
open soft edw

/-- Two points. -/
def TwoK (t : (K × K) × (K × K)) (v : Value) : Prop := ∃ a b, PntK t.1 a ∧ PntK t.2 b ∧ v = .tuple #[a, b]
/-- Bits of signs. -/
def bl (s : ByteArray) : List Bool := s.data.toList.map (fun c => c != 48)
theorem ok_1 : Ok 1 := ⟨by decide, by decide⟩
set_option maxRecDepth 100000 in
theorem build_one {o : Oper} (ho : o.op = .build 37 #[(0, .const (.int .i64 1))]) (ev : Operand → Value) (hc : ∀ v, ev (.const v) = v) (W : World) : (execOp ev o).run Tryd.prog W = .ok (.value (Num 1)) W := by
  unfold execOp
  rw [ho]
  simp [go_sem, hc]
  kernel_rfl
set_option maxRecDepth 100000 in
theorem load_run {o : Oper} {ty : TypeId} {x : Operand} {v q : Value} {W : World} (ho : o.op = .load ty x) (ev : Operand → Value) (hx : ev x = q) (hrun : (Instr.loadAt ty q).run Tryd.prog W = .ok v W) : (execOp ev o).run Tryd.prog W = .ok (.value v) W := by
  unfold execOp
  simp only [ho, hx, Sem.run_bind, hrun, Result.andThen_ok, Sem.run_pure]
theorem build_none {o : Oper} (ho : o.op = .build 37 #[]) (ev : Operand → Value) (W : World) : (execOp ev o).run Tryd.prog W = .ok (.value (Num 0)) W := by
  unfold execOp
  rw [ho]
  simp [go_sem]
  kernel_rfl
theorem sub_one {s : Nat} {o : Oper} (ho : o.op = .binOp .sub 3 (.tmp s) (.const (.int .i64 1)) 3) (ev : Operand → Value) (m : Nat) (hm : m ≤ 1000) (e1 : ev (.tmp s) = .int .i64 ((m : Int) + 1)) (hc : ∀ v, ev (.const v) = v) (W : World) : (execOp ev o).run Tryd.prog W = .ok (.value (.int .i64 (m : Int))) W := by
  have hw : IntKind.i64.wrap (m : Int) = (m : Int) := IntWalk.i64_in _ ⟨by omega, by omega⟩
  unfold execOp
  rw [ho]
  simp [go_sem, e1, hc, hw]
theorem slice_to {a b : Nat} {o : Oper} (ho : o.op = .slice 9 (.tmp a) none (some (.tmp b)) none) (ev : Operand → Value) (s : ByteArray) (m : Nat) (hm : m ≤ s.size) (e1 : ev (.tmp a) = .string s) (e2 : ev (.tmp b) = .int .i64 (m : Int)) (W : World) : (execOp ev o).run Tryd.prog W = .ok (.value (.string (s.extract 0 m))) W := by
  unfold execOp
  rw [ho]
  have hle : (m : Int) ≤ (s.size : Int) := by omega
  simp [go_sem, e1, e2, Tryd.underlying9, hle]
def cR2 (x : K) : Nat → Value → World → Prop
  | 0, v, _ => NumK 1 v
  | 1, v, _ => NumK 0 v
  | 2, v, _ => PntK (1, 0) v
  | 3, v, _ => NumK x v
  | 4, v, _ => NumK 1 v
  | 5, v, _ => PntK (x, 1) v
  | _, _, _ => True
def cR3 (W0 : World) (s : ByteArray) (m : Nat) (x : K) (t : (K × K) × (K × K)) : Nat → Value → World → Prop
  | 0, v, _ => v = .string s
  | 1, v, _ => v = .string s
  | 2, v, _ => v = .int .i64 ((m : Int) + 1)
  | 3, v, _ => v = .int .i64 (m : Int)
  | 4, v, _ => v = .string (s.extract 0 m)
  | 5, v, _ => NumK x v
  | 6, v, _ => TwoK t v
  | 7, v, _ => TwoK t v
  | 8, v, _ => PntK t.1 v
  | 9, v, _ => PntK t.2 v
  | 10, v, W => ∃ b, v = .pointer (some ⟨b, 0, none⟩) ∧ W0.heap.size ≤ b ∧ ∃ p, BlkP W b p
  | 11, v, W => ∃ b, v = .pointer (some ⟨b, 0, none⟩) ∧ W0.heap.size ≤ b ∧ ∃ p, BlkP W b p
  | 12, _, _ => True
  | 13, _, _ => True
  | _, _, _ => True
def cR5 (x : K) (t : (K × K) × (K × K)) : Nat → Value → World → Prop
  | 0, v, _ => PntK (t.1) v
  | 1, v, _ => PntK (dbl t.1) v
  | 2, v, _ => PntK (t.1) v
  | 3, v, _ => PntK (t.2) v
  | 4, v, _ => NumK x v
  | 5, v, _ => PntK (tog t.1 t.2 x) v
  | _, _, _ => True
def cR6 (x : K) (t : (K × K) × (K × K)) : Nat → Value → World → Prop
  | 0, v, _ => PntK (t.1) v
  | 1, v, _ => PntK (t.2) v
  | 2, v, _ => NumK x v
  | 3, v, _ => PntK (tog t.1 t.2 x) v
  | 4, v, _ => PntK (t.2) v
  | 5, v, _ => PntK (dbl t.2) v
  | _, _, _ => True
theorem take_slot {P : Program} {md : Region.Mode} {ops : Array Oper} {Q : Exit → Act → World → Prop} {S : World → Prop} {i d : Nat} {oi : Oper} {v : Value} {fuel : Nat} {listed : Array Bool} {a : Act} {w : World} (hi : ops[i]? = some oi) (hd : oi.dst = some d)
    (hs : Region.noSelect ops = true) (hf : Region.free md ops listed i = true) (hr : (Region.ready md ops listed).contains i = true)
    (hQ : ∀ c a w, Q (.panic c) (a.put oi.dst v) w → Q (.panic c) a w) (hy : YieldsIf P ops S oi v a) (hS : S w)
    (h : wpAnyH P md ops Q S fuel (listed.setIfInBounds i true) (a.put (some d) v) w) : wpAnyH P md ops Q S (fuel + 1) listed a w :=
  wpAnyH_take hi hs hf hr hQ hy hS (by rw [hd]; exact h)
theorem there_pnt {W : World} {b : Nat} {x z : Int} (y u : Int) (h : Blk W b 39 (pcells x z)) : W.there b 0 (pcells y u).toArray.size := by
  have e : (pcells y u).toArray.size = (pcells x z).length := by simp only [List.size_toArray, pcells_length]
  rw [e]
  exact h.there
theorem info_pnt (y u : Int) : (Tryd.prog.info? 39).map (·.size) = some (pcells y u).toArray.size := by
  have e : (pcells y u).toArray.size = (pcells y u).length := by simp only [List.size_toArray]
  rw [e]
  exact infoPNT y u
set_option maxRecDepth 100000 in
set_option maxHeartbeats 400000 in
theorem climb_none (s : ByteArray) (hs : s.size = 0) (x : K) (v : Value) (hv : NumK x v) (w : World) :
    Calls Tryd.prog 22 #[.string s, v] w fun e w' => ∃ r, e = .returned r ∧ TwoK (lad x (bl s)) r ∧ Below w.heap.size w w' := by
  obtain ⟨nx, hnx, knx, rfl⟩ := hv
  have hsl : s.data.toList = [] := List.eq_nil_of_length_eq_zero (by simpa using hs)
  have hbs : bl s = [] := by unfold bl; rw [hsl]; rfl
  have hse : (s.toList == []) = true := by rw [ByteArray.toList_eq, hsl]; rfl
  rw [hbs, show Num nx = .agg (ncells nx).toArray from rfl]
  go_enter Tryd.func22, Tryd.ntmps22
  go_wp2_with fail
  rw [zpcells]
  have b3 : Blk (((w.alloc (.cells (ncells nx).toArray 37)).alloc (.cells (pcells 0 0).toArray 39)).alloc (.cells (pcells 0 0).toArray 39)) w.heap.size 37 (ncells nx) := ((Blk.new w 37 (ncells nx) _ rfl).alloc _).alloc _
  have b4 : Blk (((w.alloc (.cells (ncells nx).toArray 37)).alloc (.cells (pcells 0 0).toArray 39)).alloc (.cells (pcells 0 0).toArray 39)) (w.heap.size + 1) 39 (pcells 0 0) := by
    have h := Blk.new (w.alloc (.cells (ncells nx).toArray 37)) 39 (pcells 0 0) _ rfl
    rw [World.size_alloc] at h
    exact h.alloc _
  have b5 : Blk (((w.alloc (.cells (ncells nx).toArray 37)).alloc (.cells (pcells 0 0).toArray 39)).alloc (.cells (pcells 0 0).toArray 39)) (w.heap.size + 1 + 1) 39 (pcells 0 0) := by
    have h := Blk.new ((w.alloc (.cells (ncells nx).toArray 37)).alloc (.cells (pcells 0 0).toArray 39)) 39 (pcells 0 0) _ rfl
    rw [World.size_alloc, World.size_alloc] at h
    exact h
  have hX : Below w.heap.size w (((w.alloc (.cells (ncells nx).toArray 37)).alloc (.cells (pcells 0 0).toArray 39)).alloc (.cells (pcells 0 0).toArray 39)) := (((Below.refl _ _).alloc (Nat.le_refl _) _).alloc (by simp) _).alloc (by simp; omega) _
  generalize ((w.alloc (.cells (ncells nx).toArray 37)).alloc (.cells (pcells 0 0).toArray 39)).alloc (.cells (pcells 0 0).toArray 39) = W0 at *
  have hS : Blk W0.drew w.heap.size 37 (ncells nx) := b3
  refine wp_region_held_drew (S := fun W => Blk W w.heap.size 37 (ncells nx)) (by kernel_rfl) hS (fun _ => ?_)
  refine take_slot (i := 0) (d := 10) (v := Num 1) rfl rfl (by kernel_rfl) (by kernel_rfl) (by kernel_rfl) (fun _ _ _ h => h) (Or.inl ⟨by rfl, fun W _ => build_one rfl _ (fun _ => rfl) W⟩) hS ?_
  refine take_slot (i := 1) (d := 11) (v := Num 0) rfl rfl (by kernel_rfl) (by kernel_rfl) (by kernel_rfl) (fun _ _ _ h => h) (Or.inl ⟨by rfl, fun W _ => build_none rfl _ W⟩) hS ?_
  refine take_slot (i := 2) (d := 12) (v := Pnt 1 0) rfl rfl (by kernel_rfl) (by kernel_rfl) (by kernel_rfl) (fun _ _ _ h => h) (Or.inl ⟨by rfl, fun W _ => build_run rfl _ 1 0 rfl rfl W⟩) hS ?_
  refine take_slot (i := 3) (d := 13) (v := Num nx) rfl rfl (by kernel_rfl) (by kernel_rfl) (by kernel_rfl) (fun _ _ _ h => h) (Or.inl ⟨by rfl, fun W hW => load_run rfl _ rfl (hW.loadAt 0 (ncells nx) (by simp) _ Tryd.underlying37 rfl (infoNUM nx))⟩) hS ?_
  refine take_slot (i := 4) (d := 14) (v := Num 1) rfl rfl (by kernel_rfl) (by kernel_rfl) (by kernel_rfl) (fun _ _ _ h => h) (Or.inl ⟨by rfl, fun W _ => build_one rfl _ (fun _ => rfl) W⟩) hS ?_
  refine take_slot (i := 5) (d := 15) (v := Pnt nx 1) rfl rfl (by kernel_rfl) (by kernel_rfl) (by kernel_rfl) (fun _ _ _ h => h) (Or.inl ⟨by rfl, fun W _ => build_run rfl _ nx 1 rfl rfl W⟩) hS ?_
  dsimp only [Act.put]
  simp only [List.setIfInBounds_toArray, List.set_cons_zero, List.set_cons_succ]
  refine wpAnyH_ready (rs := [6]) (by kernel_rfl) (by simp) (AllReadyH.cons rfl (fun K hK => ?_) AllReadyH.nil)
  rw [if_pos (by rfl)]
  have b4' : Blk W0.drew (w.heap.size + 1) 39 (pcells 0 0) := b4
  have b5' : Blk W0.drew (w.heap.size + 1 + 1) 39 (pcells 0 0) := b5
  have hX' : Below w.heap.size w W0.drew := hX.drew
  generalize W0.drew = W1 at *
  refine wp_store_mid 39 (.tmp 4) (.tmp 12) rfl (w.heap.size + 1) 0 (pcells 1 0).toArray rfl rfl (there_pnt 1 0 b4') (info_pnt 1 0) (pcells_one _ _) ?_
  have s1 := bstored b4' (l' := pcells 1 0) (by simp only [pcells_length])
  rw [List.toList_toArray]
  generalize W1.setCells (w.heap.size + 1) 0 (pcells 1 0) = W2 at *
  have hS2 := s1.other _ _ _ (by omega) hS
  refine hK.out _ _ hS2 (fun _ => ?_)
  refine wpAnyH_ready (rs := [7]) (by kernel_rfl) (by simp) (AllReadyH.cons rfl (fun K2 hK2 => ?_) AllReadyH.nil)
  rw [if_pos (by rfl)]
  have b5'' := s1.other _ _ _ (by omega) b5'
  refine wp_store_mid 39 (.tmp 5) (.tmp 15) rfl (w.heap.size + 1 + 1) 0 (pcells nx 1).toArray rfl rfl (there_pnt nx 1 b5'') (info_pnt nx 1) (pcells_one _ _) ?_
  have s2 := bstored b5'' (l' := pcells nx 1) (by simp only [pcells_length])
  rw [List.toList_toArray]
  generalize W2.setCells (w.heap.size + 1 + 1) 0 (pcells nx 1) = W3 at *
  refine hK2.out _ _ (s2.other _ _ _ (by omega) hS2) (fun _ => wpAnyH_done (by kernel_rfl) ?_ _)
  go_wp2_with fail
  exact bodyPost_ret (results_blk2 Tryd.results22 _ rfl rfl (s2.other _ _ _ (by omega) s1.blk) s2.blk _ Tryd.underlying39 rfl (infoPNT _ _) (infoPNT _ _)) rfl ⟨_, rfl, ⟨_, _, ⟨1, 0, ok_1, ok_0, kap_1, kap_0, rfl⟩, ⟨nx, 1, hnx, ok_1, knx, kap_1, rfl⟩, rfl⟩, s2.below _ _ (by omega) (s1.below _ _ (by omega) hX')⟩
theorem bl_snoc (s : ByteArray) (m : Nat) (hm : s.size = m + 1) : bl s = bl (s.extract 0 m) ++ [PlainAid.bt s m != 48] := by
  have hl : s.data.toList.length = m + 1 := hm
  have h1 : s.data.toList = s.data.toList.take m ++ [s.data.toList[m]] := by
    conv => lhs; rw [← List.take_append_drop m s.data.toList]
    congr 1
    rw [List.drop_eq_getElem_cons (by omega), List.drop_of_length_le (by omega)]
  have h2 : (s.extract 0 m).data.toList = s.data.toList.take m := by simp
  have h3 : PlainAid.bt s m = ((s.data.toList[m].toNat : Nat) : Int) := by
    rw [← PlainAid.get_bt s m (by omega)]; simp; rfl
  unfold bl
  rw [h2, h3]
  conv => lhs; rw [h1]
  rw [List.map_append]
  congr 1
  generalize s.data.toList[m] = c
  have h : (c != 48) = (((c.toNat : Nat) : Int) != 48) := by
    by_cases e : c = 48
    · rw [e]; rfl
    · have h2 : c.toNat ≠ 48 := fun h => e (UInt8.toNat_inj.1 h)
      rw [bne_iff_ne.2 e, bne_iff_ne.2 (show ((c.toNat : Nat) : Int) ≠ 48 by omega)]
  simp [h]
set_option maxRecDepth 100000 in
set_option maxHeartbeats 3200000 in
theorem climb_some (m : Nat) (hms : m ≤ 1000) (s : ByteArray) (hm : s.size = m + 1) (hi : ∀ x v, NumK x v → ∀ W, Calls Tryd.prog 22 #[.string (s.extract 0 m), v] W fun e w' => ∃ r, e = .returned r ∧ TwoK (lad x (bl (s.extract 0 m))) r ∧ Below W.heap.size W w')
    (x : K) (v : Value) (hv : NumK x v) (w : World) :
    Calls Tryd.prog 22 #[.string s, v] w fun e w' => ∃ r, e = .returned r ∧ TwoK (lad x (bl s)) r ∧ Below w.heap.size w w' := by
  obtain ⟨nx, hnx, knx, rfl⟩ := hv
  have hse : (s.toList == []) = false := by
    rw [beq_eq_false_iff_ne, ByteArray.toList_eq]
    intro e
    have : s.data.toList.length = 0 := by rw [e]; rfl
    have h2 : s.data.toList.length = m + 1 := hm
    omega
  rw [bl_snoc s m hm, lad_snoc, show Num nx = .agg (ncells nx).toArray from rfl]
  have HI0 : Hid (∀ x v, NumK x v → ∀ W, Calls Tryd.prog 22 #[.string (s.extract 0 m), v] W fun e w' => ∃ r, e = .returned r ∧ TwoK (lad x (bl (s.extract 0 m))) r ∧ Below W.heap.size W w') := hi
  have HI : Hid (∀ v, NumK x v → ∀ W, Calls Tryd.prog 22 #[.string (s.extract 0 m), v] W fun e w' => ∃ r, e = .returned r ∧ TwoK (lad x (bl (s.extract 0 m))) r ∧ Below W.heap.size W w') := fun v => HI0.out x v
  clear hi HI0
  generalize lad x (bl (s.extract 0 m)) = t at *
  go_enter Tryd.func22, Tryd.ntmps22
  go_wp2_with fail
  rw [zpcells]
  have b3 : BlkK (((w.alloc (.cells (ncells nx).toArray 37)).alloc (.cells (pcells 0 0).toArray 39)).alloc (.cells (pcells 0 0).toArray 39)) w.heap.size x := ⟨nx, hnx, knx, ((Blk.new w 37 (ncells nx) _ rfl).alloc _).alloc _⟩
  have b4 : BlkP (((w.alloc (.cells (ncells nx).toArray 37)).alloc (.cells (pcells 0 0).toArray 39)).alloc (.cells (pcells 0 0).toArray 39)) (w.heap.size + 1) (0, 0) := by
    have h := Blk.new (w.alloc (.cells (ncells nx).toArray 37)) 39 (pcells 0 0) _ rfl
    rw [World.size_alloc] at h
    exact ⟨0, 0, ok_0, ok_0, kap_0, kap_0, h.alloc _⟩
  have b5 : BlkP (((w.alloc (.cells (ncells nx).toArray 37)).alloc (.cells (pcells 0 0).toArray 39)).alloc (.cells (pcells 0 0).toArray 39)) (w.heap.size + 1 + 1) (0, 0) := by
    have h := BlkP.new ((w.alloc (.cells (ncells nx).toArray 37)).alloc (.cells (pcells 0 0).toArray 39))
    rw [World.size_alloc, World.size_alloc] at h
    exact h
  have hX : Below w.heap.size w (((w.alloc (.cells (ncells nx).toArray 37)).alloc (.cells (pcells 0 0).toArray 39)).alloc (.cells (pcells 0 0).toArray 39)) := (((Below.refl _ _).alloc (Nat.le_refl _) _).alloc (by simp) _).alloc (by simp; omega) _
  have hsz : (((w.alloc (.cells (ncells nx).toArray 37)).alloc (.cells (pcells 0 0).toArray 39)).alloc (.cells (pcells 0 0).toArray 39)).heap.size = w.heap.size + 1 + 1 + 1 := by simp
  generalize ((w.alloc (.cells (ncells nx).toArray 37)).alloc (.cells (pcells 0 0).toArray 39)).alloc (.cells (pcells 0 0).toArray 39) = W0 at *
  clear hnx knx
  have hSt : Stable (cR3 W0 s m x t) := by
    intro i v W W' h hb
    unfold cR3 at h ⊢
    split at h <;> first | exact h | (obtain ⟨b, e, hle, p, hB⟩ := h; exact ⟨b, e, hle, p, hB.below hb hB.lt⟩)
  have hC : StableC [(12, 10, fun W b => BlkP W b t.1), (13, 11, fun W b => BlkP W b t.2)] := by
    intro s hs W W' b h1 h2 h3
    simp only [List.mem_cons, List.not_mem_nil, or_false] at hs
    rcases hs with rfl | rfl <;> exact BlkP.below h1 h3 h2
  refine wp_region_all (by kernel_rfl) (by kernel_rfl) (Kept (cR3 W0 s m x t) (fun i => i == 10 || i == 11) W0 [(12, 10, fun W b => BlkP W b t.1), (13, 11, fun W b => BlkP W b t.2)]) (Kept.start W0) ?_ ?_
  · intro f W A hin hout hG i o ho hf hpre
    have hg := hG.good
    have hF : ∀ j v, (j == 10 || j == 11) = true → cR3 W0 s m x t j v W → ∃ b, v = .pointer (some ⟨b, 0, none⟩) ∧ b < W.heap.size := by
      intro j v hj hr
      simp only [Bool.or_eq_true, beq_iff_eq] at hj
      rcases hj with rfl | rfl <;> (obtain ⟨b, e, _, p, hB⟩ := hr; exact ⟨b, e, hB.lt⟩)
    have hx := b3.below hg.below b3.lt
    match i, ho, hf with
    | 0, ho, hf =>
      obtain rfl := Option.some.inj ho
      have e0 : A.eval (.tmp 0) = .string s := hout 0 (by kernel_rfl)
      exact op_value (v := .string s) (W' := W) rfl rfl (by generalize A.eval = ev at *; simp [go_sem, e0]) ⟨_, rfl, hG.move hC hf rfl (Below.refl _ _) (hg.value hSt rfl (rfl))⟩
    | 1, ho, hf =>
      obtain rfl := Option.some.inj ho
      have e0 : A.eval (.tmp 0) = .string s := hout 0 (by kernel_rfl)
      exact op_value (v := .string s) (W' := W) rfl rfl (by generalize A.eval = ev at *; simp [go_sem, e0]) ⟨_, rfl, hG.move hC hf rfl (Below.refl _ _) (hg.value hSt rfl (rfl))⟩
    | 2, ho, hf =>
      obtain rfl := Option.some.inj ho
      obtain ⟨v1, f1, r1⟩ := hg.get (hpre ⟨1, .data⟩ (by simp) rfl)
      have e18 := hin 1 18 v1 f1 (by kernel_rfl) (by simp)
      obtain rfl : v1 = .string s := r1
      exact op_value (v := .int .i64 ((m : Int) + 1)) (W' := W) rfl rfl (by generalize A.eval = ev at *; simp [go_sem, e18, hm]) ⟨_, rfl, hG.move hC hf rfl (Below.refl _ _) (hg.value hSt rfl (rfl))⟩
    | 3, ho, hf =>
      obtain rfl := Option.some.inj ho
      obtain ⟨v2, f2, r2⟩ := hg.get (hpre ⟨2, .data⟩ (by simp) rfl)
      have e19 := hin 2 19 v2 f2 (by kernel_rfl) (by simp)
      obtain rfl : v2 = .int .i64 ((m : Int) + 1) := r2
      exact op_value (v := .int .i64 (m : Int)) (W' := W) rfl rfl (sub_one rfl A.eval m hms e19 (fun _ => rfl) W) ⟨_, rfl, hG.move hC hf rfl (Below.refl _ _) (hg.value hSt rfl (rfl))⟩
    | 4, ho, hf =>
      obtain rfl := Option.some.inj ho
      obtain ⟨v0, f0, r0⟩ := hg.get (hpre ⟨0, .data⟩ (by simp) rfl)
      have e17 := hin 0 17 v0 f0 (by kernel_rfl) (by simp)
      obtain rfl : v0 = .string s := r0
      obtain ⟨v3, f3, r3⟩ := hg.get (hpre ⟨3, .data⟩ (by simp) rfl)
      have e20 := hin 3 20 v3 f3 (by kernel_rfl) (by simp)
      obtain rfl : v3 = .int .i64 (m : Int) := r3
      exact op_value (v := .string (s.extract 0 m)) (W' := W) rfl rfl (slice_to rfl A.eval s m (by omega) e17 e20 W) ⟨_, rfl, hG.move hC hf rfl (Below.refl _ _) (hg.value hSt rfl (rfl))⟩
    | 5, ho, hf =>
      obtain rfl := Option.some.inj ho
      have e3 : A.eval (.tmp 3) = .pointer (some ⟨w.heap.size, 0, none⟩) := hout 3 (by kernel_rfl)
      obtain ⟨v, hv, hrun⟩ := hx.load
      exact op_load rfl rfl rfl e3 hrun ⟨_, rfl, hG.move hC hf rfl (Below.refl _ _) (hg.value hSt rfl hv)⟩
    | 6, ho, hf =>
      obtain rfl := Option.some.inj ho
      obtain ⟨v4, f4, r4⟩ := hg.get (hpre ⟨4, .data⟩ (by simp) rfl)
      have e21 := hin 4 21 v4 f4 (by kernel_rfl) (by simp)
      obtain rfl : v4 = .string (s.extract 0 m) := r4
      obtain ⟨v5, f5, r5⟩ := hg.get (hpre ⟨5, .data⟩ (by simp) rfl)
      have e22 := hin 5 22 v5 f5 (by kernel_rfl) (by simp)
      refine op_call (g := 22) (args := #[.string (s.extract 0 m), v5]) rfl rfl (by have ef : ∀ f, A.eval (.func f) = .func (.func f) #[] #[] := fun _ => rfl; generalize A.eval = ev at *; simp [go_sem, e21, e22, ef]) ?_
      refine (HI.out _ r5 W).mono ?_
      rintro e W' ⟨r, rfl, hr, hb⟩
      exact ⟨r, rfl, r, rfl, hG.move hC hf rfl hb (hg.call hSt rfl hb hr)⟩
    | 7, ho, hf =>
      obtain rfl := Option.some.inj ho
      obtain ⟨v6, f6, r6⟩ := hg.get (hpre ⟨6, .data⟩ (by simp) rfl)
      have e23 := hin 6 23 v6 f6 (by kernel_rfl) (by simp)
      exact op_value (v := v6) (W' := W) rfl rfl (by generalize A.eval = ev at *; simp [go_sem, e23]) ⟨_, rfl, hG.move hC hf rfl (Below.refl _ _) (hg.value hSt rfl (r6))⟩
    | 8, ho, hf =>
      obtain rfl := Option.some.inj ho
      obtain ⟨v7, f7, r7⟩ := hg.get (hpre ⟨7, .data⟩ (by simp) rfl)
      have e16 := hin 7 16 v7 f7 (by kernel_rfl) (by simp)
      obtain ⟨g1, g2, h1, h2, rfl⟩ := r7
      exact op_value (v := g1) (W' := W) rfl rfl (by generalize A.eval = ev at *; simp [go_sem, e16]) ⟨_, rfl, hG.move hC hf rfl (Below.refl _ _) (hg.value hSt rfl (h1))⟩
    | 9, ho, hf =>
      obtain rfl := Option.some.inj ho
      obtain ⟨v7, f7, r7⟩ := hg.get (hpre ⟨7, .data⟩ (by simp) rfl)
      have e16 := hin 7 16 v7 f7 (by kernel_rfl) (by simp)
      obtain ⟨g1, g2, h1, h2, rfl⟩ := r7
      exact op_value (v := g2) (W' := W) rfl rfl (by generalize A.eval = ev at *; simp [go_sem, e16]) ⟨_, rfl, hG.move hC hf rfl (Below.refl _ _) (hg.value hSt rfl (h2))⟩
    | 10, ho, hf =>
      obtain rfl := Option.some.inj ho
      exact op_value (v := .pointer (some ⟨W.heap.size, 0, none⟩)) (W' := W.alloc (.cells (pcells 0 0).toArray 39)) rfl rfl (by simp [go_sem, zpcells]) ⟨_, rfl, hG.move hC hf rfl ((Below.refl _ _).alloc (Nat.le_refl _) _) (hg.alloc hSt hF ⟨_, rfl, hg.below.size, _, BlkP.new W⟩)⟩
    | 11, ho, hf =>
      obtain rfl := Option.some.inj ho
      exact op_value (v := .pointer (some ⟨W.heap.size, 0, none⟩)) (W' := W.alloc (.cells (pcells 0 0).toArray 39)) rfl rfl (by simp [go_sem, zpcells]) ⟨_, rfl, hG.move hC hf rfl ((Below.refl _ _).alloc (Nat.le_refl _) _) (hg.alloc hSt hF ⟨_, rfl, hg.below.size, _, BlkP.new W⟩)⟩
    | 12, ho, hf =>
      obtain rfl := Option.some.inj ho
      obtain ⟨v10, f10, r10⟩ := hg.get (hpre ⟨10, .data⟩ (by simp) rfl)
      have e6 := hin 10 6 v10 f10 (by kernel_rfl) (by simp)
      obtain ⟨v8, f8, r8⟩ := hg.get (hpre ⟨8, .data⟩ (by simp) rfl)
      have e24 := hin 8 24 v8 f8 (by kernel_rfl) (by simp)
      obtain ⟨y1, y2, o1, o2, k1, k2, rfl⟩ := r8
      obtain ⟨b, rfl, hle, p, z1, z2, oz1, oz2, kz1, kz2, hB⟩ := r10
      refine op_store (cells := (pcells y1 y2).toArray) rfl rfl rfl e6 e24 (there_pnt y1 y2 hB) (info_pnt y1 y2) (pcells_one _ _) ⟨_, rfl, ?_⟩
      have hW := bstored hB (l' := pcells y1 y2) (by simp only [pcells_length])
      rw [List.toList_toArray]
      generalize W.setCells b 0 (pcells y1 y2) = W2 at *
      refine kept_storeP hG f10 hf rfl rfl hle hW trivial ?_ ?_ ?_
      · intro j v hj hr
        unfold cR3 at hr ⊢
        split at hr <;> first | exact hr | (obtain ⟨b', e, hle', p', hB'⟩ := hr; by_cases hbb : b' = b; (subst hbb; exact ⟨_, e, hle', (kap y1, kap y2), y1, y2, o1, o2, rfl, rfl, hW.blk⟩); exact ⟨b', e, hle', p', hB'.other hW hbb⟩)
      · intro s hs e
        simp only [List.mem_cons, List.not_mem_nil, or_false] at hs
        rcases hs with rfl | rfl
        · first | exact ⟨rfl, y1, y2, o1, o2, k1, k2, hW.blk⟩ | exact absurd e (by simp)
        · first | exact ⟨rfl, y1, y2, o1, o2, k1, k2, hW.blk⟩ | exact absurd e (by simp)
      · intro s hs e
        simp only [List.mem_cons, List.not_mem_nil, or_false] at hs
        rcases hs with rfl | rfl
        · first | exact absurd rfl e | exact ⟨by simp, rfl, fun b' hbb h => BlkP.other h hW hbb⟩
        · first | exact absurd rfl e | exact ⟨by simp, rfl, fun b' hbb h => BlkP.other h hW hbb⟩
    | 13, ho, hf =>
      obtain rfl := Option.some.inj ho
      obtain ⟨v11, f11, r11⟩ := hg.get (hpre ⟨11, .data⟩ (by simp) rfl)
      have e7 := hin 11 7 v11 f11 (by kernel_rfl) (by simp)
      obtain ⟨v9, f9, r9⟩ := hg.get (hpre ⟨9, .data⟩ (by simp) rfl)
      have e25 := hin 9 25 v9 f9 (by kernel_rfl) (by simp)
      obtain ⟨y1, y2, o1, o2, k1, k2, rfl⟩ := r9
      obtain ⟨b, rfl, hle, p, z1, z2, oz1, oz2, kz1, kz2, hB⟩ := r11
      refine op_store (cells := (pcells y1 y2).toArray) rfl rfl rfl e7 e25 (there_pnt y1 y2 hB) (info_pnt y1 y2) (pcells_one _ _) ⟨_, rfl, ?_⟩
      have hW := bstored hB (l' := pcells y1 y2) (by simp only [pcells_length])
      rw [List.toList_toArray]
      generalize W.setCells b 0 (pcells y1 y2) = W2 at *
      refine kept_storeP hG f11 hf rfl rfl hle hW trivial ?_ ?_ ?_
      · intro j v hj hr
        unfold cR3 at hr ⊢
        split at hr <;> first | exact hr | (obtain ⟨b', e, hle', p', hB'⟩ := hr; by_cases hbb : b' = b; (subst hbb; exact ⟨_, e, hle', (kap y1, kap y2), y1, y2, o1, o2, rfl, rfl, hW.blk⟩); exact ⟨b', e, hle', p', hB'.other hW hbb⟩)
      · intro s hs e
        simp only [List.mem_cons, List.not_mem_nil, or_false] at hs
        rcases hs with rfl | rfl
        · first | exact ⟨rfl, y1, y2, o1, o2, k1, k2, hW.blk⟩ | exact absurd e (by simp)
        · first | exact ⟨rfl, y1, y2, o1, o2, k1, k2, hW.blk⟩ | exact absurd e (by simp)
      · intro s hs e
        simp only [List.mem_cons, List.not_mem_nil, or_false] at hs
        rcases hs with rfl | rfl
        · first | exact absurd rfl e | exact ⟨by simp, rfl, fun b' hbb h => BlkP.other h hW hbb⟩
        · first | exact absurd rfl e | exact ⟨by simp, rfl, fun b' hbb h => BlkP.other h hW hbb⟩
    | (j + 14), ho, _ => exact absurd ho (by simp)
  · intro f W hall hG
    have hg := hG.good
    obtain ⟨v0, f0, r0⟩ := hg.get (hall 0 (by simp))
    obtain ⟨v1, f1, r1⟩ := hg.get (hall 1 (by simp))
    obtain ⟨v2, f2, r2⟩ := hg.get (hall 2 (by simp))
    obtain ⟨v3, f3, r3⟩ := hg.get (hall 3 (by simp))
    obtain ⟨v4, f4, r4⟩ := hg.get (hall 4 (by simp))
    obtain ⟨v5, f5, r5⟩ := hg.get (hall 5 (by simp))
    obtain ⟨v6, f6, r6⟩ := hg.get (hall 6 (by simp))
    obtain ⟨v7, f7, r7⟩ := hg.get (hall 7 (by simp))
    obtain ⟨v8, f8, r8⟩ := hg.get (hall 8 (by simp))
    obtain ⟨v9, f9, r9⟩ := hg.get (hall 9 (by simp))
    obtain ⟨v10, f10, r10⟩ := hg.get (hall 10 (by simp))
    obtain ⟨v11, f11, r11⟩ := hg.get (hall 11 (by simp))
    obtain ⟨v12, f12, r12⟩ := hg.get (hall 12 (by simp))
    obtain ⟨v13, f13, r13⟩ := hg.get (hall 13 (by simp))
    have hne10_11 := hg.apart 10 11 _ (by decide) rfl rfl f10
    obtain ⟨b10, g10, _, q10⟩ := hG.kept (12, 10, fun W b => BlkP W b t.1) (by simp) (hall 12 (by simp))
    obtain rfl : v10 = .pointer (some ⟨b10, 0, none⟩) := Option.some.inj (f10.symm.trans g10)
    obtain ⟨b11, g11, _, q11⟩ := hG.kept (13, 11, fun W b => BlkP W b t.2) (by simp) (hall 13 (by simp))
    obtain rfl : v11 = .pointer (some ⟨b11, 0, none⟩) := Option.some.inj (f11.symm.trans g11)
    have hbW := hg.below
    simp only [fr, f0, f1, f2, f3, f4, f5, f6, f7, f8, f9, f10, f11, f12, f13, Act.put, List.setIfInBounds_toArray, List.set_cons_zero, List.set_cons_succ]
    have hne : b10 ≠ b11 := fun e => hne10_11 (by rw [e]; exact f11)
    obtain ⟨_, e10, hle6, _⟩ := r10
    obtain ⟨_, e11, hle7, _⟩ := r11
    injection e10 with e10
    injection e10 with e10
    injection e10 with e10
    injection e11 with e11
    injection e11 with e11
    injection e11 with e11
    subst e10 e11
    have hX2 : Below w.heap.size w W := hX.trans (hbW.mono hX.size)
    have c6 : BlkP W b10 t.1 := q10
    have c7 : BlkP W b11 t.2 := q11
    have c3 := b3.below hbW b3.lt
    have c4 := b4.below hbW b4.lt
    have c5 := b5.below hbW b5.lt
    clear hG hg hall f0 f1 f2 f3 f4 f5 f6 f7 f8 f9 f10 f11 f12 f13 r0 r1 r2 r3 r4 r5 r6 r7 r8 r9 r12 r13 hne10_11 g10 g11 q10 q11
    clear hbW b3 b4 b5 hX
    clear f
    have hgb := PlainAid.get_bt s
    have i0 : m < s.size := by omega
    have j0 : (m : Int) < (s.size : Int) := by omega
    by_cases hc : PlainAid.bt s m = 48
    · have hcb : (PlainAid.bt s m == 48) = true := by rw [hc]; rfl
      have hcn : (PlainAid.bt s m != 48) = false := by rw [hc]; rfl
      go_wp2_with fail
      have hSt : Stable (cR5 x t) := by
        intro i v W W' h hb
        unfold cR5 at h ⊢
        split at h <;> first | exact h | (obtain ⟨b, e, hle, hB⟩ := h; exact ⟨b, e, hle, hB.below hb hB.lt⟩)
      refine wp_region_told 6 (by kernel_rfl) (by kernel_rfl) (cR5 x t) (fun _ => false) ?_ ?_
      · intro f W A hin hout hg i o hi ho hpre
        have hx := c3.below hg.below c3.lt
        have hb6 := c6.below hg.below c6.lt
        have hb7 := c7.below hg.below c7.lt
        match i, hi with
        | 0, _ =>
          obtain rfl := Option.some.inj ho
          have e6 : A.eval (.tmp 6) = .pointer (some ⟨b10, 0, none⟩) := hout 6 (by kernel_rfl)
          obtain ⟨v, hv, hrun⟩ := hb6.load
          exact op_load rfl rfl rfl e6 hrun ⟨_, rfl, hg.value hSt rfl hv⟩
        | 1, _ =>
          obtain rfl := Option.some.inj ho
          obtain ⟨v0, f0, r0⟩ := hg.get (hpre ⟨0, .data⟩ (by simp) rfl)
          have e32 := hin 0 32 v0 f0 (by kernel_rfl) (by simp)
          refine op_call (g := 34) (args := #[v0]) rfl rfl (by have ef : ∀ f, A.eval (.func f) = .func (.func f) #[] #[] := fun _ => rfl; generalize A.eval = ev at *; simp [go_sem, e32, ef]) ?_
          refine (double_any _ _ r0 W).mono ?_
          rintro e W' ⟨r, rfl, hr, hb⟩
          exact ⟨r, rfl, r, rfl, hg.call hSt rfl hb hr⟩
        | 2, _ =>
          obtain rfl := Option.some.inj ho
          have e6 : A.eval (.tmp 6) = .pointer (some ⟨b10, 0, none⟩) := hout 6 (by kernel_rfl)
          obtain ⟨v, hv, hrun⟩ := hb6.load
          exact op_load rfl rfl rfl e6 hrun ⟨_, rfl, hg.value hSt rfl hv⟩
        | 3, _ =>
          obtain rfl := Option.some.inj ho
          have e7 : A.eval (.tmp 7) = .pointer (some ⟨b11, 0, none⟩) := hout 7 (by kernel_rfl)
          obtain ⟨v, hv, hrun⟩ := hb7.load
          exact op_load rfl rfl rfl e7 hrun ⟨_, rfl, hg.value hSt rfl hv⟩
        | 4, _ =>
          obtain rfl := Option.some.inj ho
          have e3 : A.eval (.tmp 3) = .pointer (some ⟨w.heap.size, 0, none⟩) := hout 3 (by kernel_rfl)
          obtain ⟨v, hv, hrun⟩ := hx.load
          exact op_load rfl rfl rfl e3 hrun ⟨_, rfl, hg.value hSt rfl hv⟩
        | 5, _ =>
          obtain rfl := Option.some.inj ho
          obtain ⟨v2, f2, r2⟩ := hg.get (hpre ⟨2, .data⟩ (by simp) rfl)
          have e34 := hin 2 34 v2 f2 (by kernel_rfl) (by simp)
          obtain ⟨v3, f3, r3⟩ := hg.get (hpre ⟨3, .data⟩ (by simp) rfl)
          have e35 := hin 3 35 v3 f3 (by kernel_rfl) (by simp)
          obtain ⟨v4, f4, r4⟩ := hg.get (hpre ⟨4, .data⟩ (by simp) rfl)
          have e36 := hin 4 36 v4 f4 (by kernel_rfl) (by simp)
          refine op_call (g := 35) (args := #[v2, v3, v4]) rfl rfl (by have ef : ∀ f, A.eval (.func f) = .func (.func f) #[] #[] := fun _ => rfl; generalize A.eval = ev at *; simp [go_sem, e34, e35, e36, ef]) ?_
          refine (add_any _ _ _ _ _ _ r2 r3 r4 W).mono ?_
          rintro e W' ⟨r, rfl, hr, hb⟩
          exact ⟨r, rfl, r, rfl, hg.call hSt rfl hb hr⟩
        | (j + 6), h => exact absurd h (by omega)
      · intro f W hall hg
        obtain ⟨v0, f0, r0⟩ := hg.get (hall 0 (by decide))
        obtain ⟨v1, f1, r1⟩ := hg.get (hall 1 (by decide))
        obtain ⟨v2, f2, r2⟩ := hg.get (hall 2 (by decide))
        obtain ⟨v3, f3, r3⟩ := hg.get (hall 3 (by decide))
        obtain ⟨v4, f4, r4⟩ := hg.get (hall 4 (by decide))
        obtain ⟨v5, f5, r5⟩ := hg.get (hall 5 (by decide))
        have hbW := hg.below
        simp only [List.drop_succ_cons, List.drop_zero, List.take_succ_cons, List.take_zero, fr, f0, f1, f2, f3, f4, f5, Act.put, List.setIfInBounds_toArray, List.set_cons_zero, List.set_cons_succ]
        obtain ⟨y1, y2, o1, o2, k1, k2, rfl⟩ := r1
        obtain ⟨y3, y4, o3, o4, k3, k4, rfl⟩ := r5
        obtain ⟨z1, z2, _, _, _, _, hP⟩ := c4.below hbW c4.lt
        obtain ⟨z3, z4, _, _, _, _, hP2⟩ := c5.below hbW c5.lt
        refine wpList_store_blk rfl 39 (.tmp 4) (.tmp 33) rfl (w.heap.size + 1) (pcells y1 y2) rfl rfl (pcells z1 z2) hP (by simp only [pcells_length]) (pcells_one _ _) (infoPNT _ _) ?_
        intro W8 hW8
        refine wpList_store_blk rfl 39 (.tmp 5) (.tmp 37) rfl (w.heap.size + 1 + 1) (pcells y3 y4) rfl rfl (pcells z3 z4) (hW8.other _ _ _ (by omega) hP2) (by simp only [pcells_length]) (pcells_one _ _) (infoPNT _ _) ?_
        intro W9 hW9
        go_wp2_with fail
        exact bodyPost_ret (results_blk2 Tryd.results22 _ rfl rfl (hW9.other _ _ _ (by omega) hW8.blk) hW9.blk _ Tryd.underlying39 rfl (infoPNT _ _) (infoPNT _ _)) rfl ⟨_, rfl, ⟨_, _, ⟨y1, y2, o1, o2, k1, k2, rfl⟩, ⟨y3, y4, o3, o4, k3, k4, rfl⟩, rfl⟩, hW9.below _ _ (by omega) (hW8.below _ _ (by omega) (hX2.trans (hbW.mono hX2.size)))⟩
    · have hcb : (PlainAid.bt s m == 48) = false := by rw [beq_eq_false_iff_ne]; exact hc
      have hcn : (PlainAid.bt s m != 48) = true := by rw [bne_iff_ne]; exact hc
      go_wp2_with fail
      have hSt : Stable (cR6 x t) := by
        intro i v W W' h hb
        unfold cR6 at h ⊢
        split at h <;> first | exact h | (obtain ⟨b, e, hle, hB⟩ := h; exact ⟨b, e, hle, hB.below hb hB.lt⟩)
      refine wp_region_told 6 (by kernel_rfl) (by kernel_rfl) (cR6 x t) (fun _ => false) ?_ ?_
      · intro f W A hin hout hg i o hi ho hpre
        have hx := c3.below hg.below c3.lt
        have hb6 := c6.below hg.below c6.lt
        have hb7 := c7.below hg.below c7.lt
        match i, hi with
        | 0, _ =>
          obtain rfl := Option.some.inj ho
          have e6 : A.eval (.tmp 6) = .pointer (some ⟨b10, 0, none⟩) := hout 6 (by kernel_rfl)
          obtain ⟨v, hv, hrun⟩ := hb6.load
          exact op_load rfl rfl rfl e6 hrun ⟨_, rfl, hg.value hSt rfl hv⟩
        | 1, _ =>
          obtain rfl := Option.some.inj ho
          have e7 : A.eval (.tmp 7) = .pointer (some ⟨b11, 0, none⟩) := hout 7 (by kernel_rfl)
          obtain ⟨v, hv, hrun⟩ := hb7.load
          exact op_load rfl rfl rfl e7 hrun ⟨_, rfl, hg.value hSt rfl hv⟩
        | 2, _ =>
          obtain rfl := Option.some.inj ho
          have e3 : A.eval (.tmp 3) = .pointer (some ⟨w.heap.size, 0, none⟩) := hout 3 (by kernel_rfl)
          obtain ⟨v, hv, hrun⟩ := hx.load
          exact op_load rfl rfl rfl e3 hrun ⟨_, rfl, hg.value hSt rfl hv⟩
        | 3, _ =>
          obtain rfl := Option.some.inj ho
          obtain ⟨v0, f0, r0⟩ := hg.get (hpre ⟨0, .data⟩ (by simp) rfl)
          have e38 := hin 0 38 v0 f0 (by kernel_rfl) (by simp)
          obtain ⟨v1, f1, r1⟩ := hg.get (hpre ⟨1, .data⟩ (by simp) rfl)
          have e39 := hin 1 39 v1 f1 (by kernel_rfl) (by simp)
          obtain ⟨v2, f2, r2⟩ := hg.get (hpre ⟨2, .data⟩ (by simp) rfl)
          have e40 := hin 2 40 v2 f2 (by kernel_rfl) (by simp)
          refine op_call (g := 35) (args := #[v0, v1, v2]) rfl rfl (by have ef : ∀ f, A.eval (.func f) = .func (.func f) #[] #[] := fun _ => rfl; generalize A.eval = ev at *; simp [go_sem, e38, e39, e40, ef]) ?_
          refine (add_any _ _ _ _ _ _ r0 r1 r2 W).mono ?_
          rintro e W' ⟨r, rfl, hr, hb⟩
          exact ⟨r, rfl, r, rfl, hg.call hSt rfl hb hr⟩
        | 4, _ =>
          obtain rfl := Option.some.inj ho
          have e7 : A.eval (.tmp 7) = .pointer (some ⟨b11, 0, none⟩) := hout 7 (by kernel_rfl)
          obtain ⟨v, hv, hrun⟩ := hb7.load
          exact op_load rfl rfl rfl e7 hrun ⟨_, rfl, hg.value hSt rfl hv⟩
        | 5, _ =>
          obtain rfl := Option.some.inj ho
          obtain ⟨v4, f4, r4⟩ := hg.get (hpre ⟨4, .data⟩ (by simp) rfl)
          have e42 := hin 4 42 v4 f4 (by kernel_rfl) (by simp)
          refine op_call (g := 34) (args := #[v4]) rfl rfl (by have ef : ∀ f, A.eval (.func f) = .func (.func f) #[] #[] := fun _ => rfl; generalize A.eval = ev at *; simp [go_sem, e42, ef]) ?_
          refine (double_any _ _ r4 W).mono ?_
          rintro e W' ⟨r, rfl, hr, hb⟩
          exact ⟨r, rfl, r, rfl, hg.call hSt rfl hb hr⟩
        | (j + 6), h => exact absurd h (by omega)
      · intro f W hall hg
        obtain ⟨v0, f0, r0⟩ := hg.get (hall 0 (by decide))
        obtain ⟨v1, f1, r1⟩ := hg.get (hall 1 (by decide))
        obtain ⟨v2, f2, r2⟩ := hg.get (hall 2 (by decide))
        obtain ⟨v3, f3, r3⟩ := hg.get (hall 3 (by decide))
        obtain ⟨v4, f4, r4⟩ := hg.get (hall 4 (by decide))
        obtain ⟨v5, f5, r5⟩ := hg.get (hall 5 (by decide))
        have hbW := hg.below
        simp only [List.drop_succ_cons, List.drop_zero, List.take_succ_cons, List.take_zero, fr, f0, f1, f2, f3, f4, f5, Act.put, List.setIfInBounds_toArray, List.set_cons_zero, List.set_cons_succ]
        obtain ⟨y1, y2, o1, o2, k1, k2, rfl⟩ := r3
        obtain ⟨y3, y4, o3, o4, k3, k4, rfl⟩ := r5
        obtain ⟨z1, z2, _, _, _, _, hP⟩ := c4.below hbW c4.lt
        obtain ⟨z3, z4, _, _, _, _, hP2⟩ := c5.below hbW c5.lt
        refine wpList_store_blk rfl 39 (.tmp 4) (.tmp 41) rfl (w.heap.size + 1) (pcells y1 y2) rfl rfl (pcells z1 z2) hP (by simp only [pcells_length]) (pcells_one _ _) (infoPNT _ _) ?_
        intro W8 hW8
        refine wpList_store_blk rfl 39 (.tmp 5) (.tmp 43) rfl (w.heap.size + 1 + 1) (pcells y3 y4) rfl rfl (pcells z3 z4) (hW8.other _ _ _ (by omega) hP2) (by simp only [pcells_length]) (pcells_one _ _) (infoPNT _ _) ?_
        intro W9 hW9
        go_wp2_with fail
        exact bodyPost_ret (results_blk2 Tryd.results22 _ rfl rfl (hW9.other _ _ _ (by omega) hW8.blk) hW9.blk _ Tryd.underlying39 rfl (infoPNT _ _) (infoPNT _ _)) rfl ⟨_, rfl, ⟨_, _, ⟨y1, y2, o1, o2, k1, k2, rfl⟩, ⟨y3, y4, o3, o4, k3, k4, rfl⟩, rfl⟩, hW9.below _ _ (by omega) (hW8.below _ _ (by omega) (hX2.trans (hbW.mono hX2.size)))⟩
theorem climb_any : ∀ (n : Nat), n ≤ 1000 → ∀ (s : ByteArray), s.size = n → ∀ (x : K) (v : Value), NumK x v → ∀ w : World,
    Calls Tryd.prog 22 #[.string s, v] w fun e w' => ∃ r, e = .returned r ∧ TwoK (lad x (bl s)) r ∧ Below w.heap.size w w'
  | 0, _, s, hs, x, v, hv, w => climb_none s hs x v hv w
  | n + 1, hn, s, hs, x, v, hv, w => climb_some n (by omega) s hs (fun x v hv W => climb_any n (by omega) (s.extract 0 n) (by rw [ByteArray.size_extract]; omega) x v hv W) x v hv w
end Go.Proofs.YtdpokjhoedhadaaDoor.num
