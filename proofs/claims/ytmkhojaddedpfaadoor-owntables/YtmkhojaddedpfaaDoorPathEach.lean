/-
  ALL THAT WAS SET AT A NODE AND BELOW IT, HANDED OVER ONE BY ONE (each): an iterator that ranges over itself.
-/
import Derived.Test.YtmkhojaddedpfaaDoorPathSet
import Derived.Test.YtmkhojaddedpfaaDoorRangeGive
namespace Go.Proofs.YtmkhojaddedpfaaDoor.pth
open Go.RowKit Go.Shelf
open Go.Proofs.YtmkhojaddedpfaaDoor.rng
attribute [local go_sem] Oper.semAt_some

def en' (D : Nat → Nat → Option Nat) : Nat → Nat → Nat → List En
  | 0, _, _ => []
  | k + 1, d, v => en D k d v
theorem en'_succ (D : Nat → Nat → Option Nat) (m d v : Nat) : en' D (m + 1) d v = own D d v ++ (en' D m (d + 1) (2 * v) ++ en' D m (d + 1) (2 * v + 1)) := by
  cases m with
  | zero => simp [en', en]
  | succ m => rfl
theorem Shape.en_none {B : Nat → Nat → Option Nat} {L : List En} {b : Nat} (h : Shape B L b) {d v : Nat} (hB : B d v = none) (m : Nat) : en' (at' L) m d v = [] := by
  cases m with
  | zero => rfl
  | succ m => exact en_nil fun j u _ hu => h.nobody (h.below j u (by rw [hu]; exact hB))
/-- A path as a value. -/
def enc (e : En) : Value := .agg #[.int .u32 (e.1 : Int), .int .i64 (e.2.1 : Int), .int .i64 (e.2.2 : Int)]
theorem infoPN : ∃ i0, Tryd.prog.info? 44 = some i0 ∧ i0.size = 1 := by
  have h : (Tryd.prog.info? 44).map (fun i => i.size) = some 1 := by kernel_rfl
  rw [Option.map_eq_some_iff] at h
  exact h
theorem index_zero (x y : Value) (W : World) : (Instr.index 45 (.agg #[x, y]) (.int .i64 0)).run Tryd.prog W = .ok x W := by
  obtain ⟨i0, hi, hs⟩ := infoPN
  simp [Instr.index, asIntOf, run_underlying Tryd.underlying45, part, isAgg, run_underlying Tryd.underlying44, sizeOf, typeInfo, hi, hs]
theorem index_one (x y : Value) (W : World) : (Instr.index 45 (.agg #[x, y]) (.int .i64 1)).run Tryd.prog W = .ok y W := by
  obtain ⟨i0, hi, hs⟩ := infoPN
  simp [Instr.index, asIntOf, run_underlying Tryd.underlying45, part, isAgg, run_underlying Tryd.underlying44, sizeOf, typeInfo, hi, hs]
theorem ownFrom_drew {β : Type} {C : Nat} {J : β → World → Prop} (h : OwnFrom C J) {s : β} {W : World} (hs : J s W) : J s W.drew :=
  h s W _ none hs ⟨rfl, rfl, rfl, Nat.le_refl _, fun _ _ _ => rfl⟩ (fun _ e => by cases e)
theorem keeps_drew {t C : Nat} (W : World) : Keeps t C W W.drew := ⟨Nat.le_refl _, fun _ _ _ h _ => h, fun _ _ _ _ h => h⟩
theorem roundIn_in {m m' : Nat} {P : Program} {l l' : Nat} {f : FuncId} {tmps : Array Value} {assign body : Code} {w : World} {R : Ending → World → Prop}
    (h : RoundIn Fence.wide m P l f tmps assign body w R) : RoundIn (Fence.wide.inRound l') m' P l f tmps assign body w R := ⟨h.1, fun c cs _ => h.2 c cs (room_wide _)⟩
/-- Left at its end, where R holds. -/
def endsIn (R : Act → World → Prop) : Exit → Act → World → Prop
  | .normal, a, w => R a w
  | _, _, _ => False
theorem wpIn_endsIn {F : Fence} {n : Nat} {P : Program} {c : Code} {Q : Exit → Act → World → Prop} {a : Act} {w : World} (R : Act → World → Prop) (h : c.wpIn F n P (endsIn R) a w) (hq : ∀ a w, R a w → Q .normal a w) : c.wpIn F n P Q a w :=
  wpIn_mono h (fun e a w hr => by cases e <;> first | exact hq _ _ hr | exact hr.elim)
set_option maxRecDepth 100000 in
set_option maxHeartbeats 1000000 in
theorem each_nil (l : Nat) (J : World → Prop) (W : World) (hJ : OwnFrom W.heap.size (fun (_ : Unit) A => J A)) (h0 : J W) :
    CallsIn Fence.wide 0 Tryd.prog 13 #[.pointer none, .func (.yield l) #[] #[]] W fun e W' => (∃ v, e = .returned v) ∧ J W' := by
  refine callsIn_of_wp_marks Tryd.func13 rfl trivial ?_
  simp only [Tryd.ntmps13, List.size_toArray, List.length_cons, List.length_nil, Nat.reduceAdd, Nat.reduceSub, Array.replicate_succ, Array.replicate_zero, List.push_toArray, List.append_toArray, List.nil_append, List.cons_append]
  gi_wp2
  exact ⟨_, results_none rfl _ _ _, ⟨_, rfl⟩, hJ.alloc (s := ()) _ h0⟩
set_option maxRecDepth 100000 in
set_option maxHeartbeats 4000000 in
theorem each_gives (b : Nat) (L : List En) (B : Nat → Nat → Option Nat) : ∀ (m d v : Nat), m + d = 33 → Gives Tryd.prog 60 13 #[ptr (B d v)] enc (en' (at' L) m d v) (fun A => Tab A b L B) := by
  intro m
  induction m with
  | zero =>
    intro d v hm l J W hJ hK hY h0
    rw [(hK _ _ h0).shape.deep (show 32 < d by omega), ptr_none]
    exact each_nil l (J []) W (fun _ => hJ []) h0
  | succ m ih =>
    intro d v hm l J W hJ hK hY h0
    have hT := hK _ _ h0
    cases hk : B d v with
    | none =>
      rw [hT.shape.en_none hk, ptr_none]
      exact each_nil l (J []) W (fun _ => hJ []) h0
    | some k =>
      rw [en'_succ] at hY ⊢
      rw [ptr_some]
      have ih1 := ih (d + 1) (2 * v) (by omega)
      have ih2 := ih (d + 1) (2 * v + 1) (by omega)
      clear ih
      obtain ⟨s0, hs0⟩ : ∃ s0, own (at' L) d v = s0 := ⟨_, rfl⟩
      rw [hs0] at hY ⊢
      generalize en' (at' L) m (d + 1) (2 * v) = E1 at *
      generalize en' (at' L) m (d + 1) (2 * v + 1) = E2 at *
      obtain ⟨Y, hYs⟩ : ∃ Y, W.heap.size = Y := ⟨_, rfl⟩
      have hJ1 : J [] (W.alloc (.cells #[.func (.yield l) #[] #[]] 60)) := hJ.alloc _ h0
      have hb1 : Boxed (W.alloc (.cells #[.func (.yield l) #[] #[]] 60)) Y 60 (.func (.yield l) #[] #[]) := by rw [← hYs]; exact Boxed.new W 60 _
      have hB := (hK _ _ hJ1).blk d v k hk
      have c0 := hB.cell 0 _ rfl
      have cY := hb1.cell
      refine callsIn_of_wp_marks Tryd.func13 rfl trivial ?_
      simp only [Tryd.ntmps13, List.size_toArray, List.length_cons, List.length_nil, Nat.reduceAdd, Nat.reduceSub, Array.replicate_succ, Array.replicate_zero, List.push_toArray, List.append_toArray, List.nil_append, List.cons_append]
      gi_wp2
      try rw [hYs]
      refine wpIn_endsIn (fun a' W2 => (∃ x12 x13 x14 x15 x16 x17 x18 x19 x20, a' = { tmps := #[.pointer (some ⟨k, 0, none⟩), .func (.yield l) #[] #[], undef, .pointer (some ⟨Y, 0, none⟩), undef, undef, undef, .pointer (some ⟨k, 0, none⟩), .bool false, .pointer (some ⟨k, 0, none⟩), .pointer (some ⟨k, 0, none⟩), .pointer (some ⟨k, 0, none⟩), x12, x13, x14, x15, x16, x17, x18, x19, x20, .bool false, undef, undef, undef, undef, undef, undef, undef, undef, undef, undef, undef, undef, undef, undef, undef], defers := [] }) ∧ J s0 W2 ∧ Keeps 60 Y (W.alloc (.cells #[.func (.yield l) #[] #[]] 60)) W2) ?reg ?rest
      case reg =>
        clear ih1 ih2
        cases ho : at' L d v with
        | none =>
          rw [ho] at c0
          have hJ2 : J s0 (W.alloc (.cells #[.func (.yield l) #[] #[]] 60)).drew := by
            rw [← hs0, show own (at' L) d v = [] from by unfold own; rw [ho]]
            exact ownFrom_drew hJ hJ1
          clear hs0 hJ1
          generalize W.alloc (.cells #[.func (.yield l) #[] #[]] 60) = W1 at *
          refine wpIn_wide.2 ?_
          go_region
          exact ⟨⟨_, _, _, _, _, _, _, _, _, rfl⟩, hJ2, keeps_drew _⟩
        | some p =>
          rw [ho] at c0
          have hx0 : s0 = [(v * 2 ^ (32 - d), d, p)] := by rw [← hs0]; unfold own; rw [ho]
          obtain ⟨ad, had⟩ : ∃ ad, v * 2 ^ (32 - d) = ad := ⟨_, rfl⟩
          rw [had] at hx0
          have c1 : (W.alloc (.cells #[.func (.yield l) #[] #[]] 60)).cell? ⟨k, 1, none⟩ = some (.int .u32 (ad : Int)) := by
            rw [hB.cell 1 _ rfl, ho, ← had]; rfl
          have c2 : (W.alloc (.cells #[.func (.yield l) #[] #[]] 60)).cell? ⟨k, 2, none⟩ = some (.int .i64 (d : Int)) := by
            rw [hB.cell 2 _ rfl, ho]; rfl
          have c3 : (W.alloc (.cells #[.func (.yield l) #[] #[]] 60)).cell? ⟨k, 3, none⟩ = some (.int .i64 (p : Int)) := by
            rw [hB.cell 3 _ rfl, ho]; rfl
          obtain ⟨fn, tm, asg, bd, hy, hR⟩ := hY [] (ad, d, p) (E1 ++ E2) (W.alloc (.cells #[.func (.yield l) #[] #[]] 60)).drew (by rw [hx0]; rfl) (ownFrom_drew hJ hJ1)
          simp only [enc, List.nil_append] at hy hR
          rw [← hx0] at hR
          rw [hYs] at hR
          have hR2 := hR.mono (R' := fun e W' => e = .returned (.bool true) ∧ J s0 W' ∧ Keeps 60 Y (W.alloc (.cells #[.func (.yield l) #[] #[]] 60)) W') (fun e W' h => ⟨h.1, h.2.1, (keeps_drew _).trans h.2.2⟩)
          clear had hx0 hR hY hs0
          generalize W.alloc (.cells #[.func (.yield l) #[] #[]] 60) = W1 at *
          gi_region_with (refine ⟨(rfl : Fence.wide.depth = none), ?_⟩; refine hR2.mono ?_; rintro e W2 ⟨rfl, hJ2, hk2⟩)
          all_goals exact ⟨⟨_, _, _, _, _, _, _, _, _, rfl⟩, hJ2, hk2⟩
      case rest =>
      rintro a2 W2 ⟨⟨x12, x13, x14, x15, x16, x17, x18, x19, x20, rfl⟩, hJ2, hk2⟩
      generalize W.alloc (.cells #[.func (.yield l) #[] #[]] 60) = W1 at *
      have hB2 := (hK _ _ hJ2).blk d v k hk
      have hb2 : Boxed W2 Y 60 (.func (.yield l) #[] #[]) := hk2.box _ _ _ (Nat.le_refl _) hb1
      have c4 := hB2.cell 4 _ rfl
      have c5 := hB2.cell 5 _ rfl
      have hsz : Y + 1 ≤ W2.heap.size := by have := hk2.size; have := hb1.lt; omega
      clear hB2 c0 cY hB hs0 hk2 hb1 hJ1 hT h0
      rw [hYs] at hJ hY
      clear hYs
      have x0 := index_zero (ptr (B (d + 1) (2 * v))) (ptr (B (d + 1) (2 * v + 1)))
      have x1 := index_one (ptr (B (d + 1) (2 * v))) (ptr (B (d + 1) (2 * v + 1)))
      generalize ptr (B (d + 1) (2 * v)) = P1 at *
      generalize ptr (B (d + 1) (2 * v + 1)) = P2 at *
      gi_wp2
      refine wpIn_loop_rounds 3 ?_
      rw [roundsIn_succ]
      gi_wp2
      have hJf2 : OwnFrom W2.heap.size J := fun s A C row hs hg hr => hJ s A C row hs hg (fun r e => ⟨by have := (hr r e).1; omega, (hr r e).2⟩)
      refine wp_rangeBox (q := 6) 31 (fun e : En => [.int .u32 (e.1 : Int), .int .i64 (e.2.1 : Int), .int .i64 (e.2.2 : Int)]) rfl (enters_of Tryd.func13 (by kernel_rfl) rfl) ih1
        (fun pre A => J (s0 ++ pre) A ∧ Boxed A Y 60 (.func (.yield l) #[] #[])) (OwnFrom.and (fun s => hJf2 (s0 ++ s)) ((boxed_own Y 60 (fun _ => .func (.yield l) #[] #[])).from _)) (fun s A h => hK _ A h.1) ⟨by rw [List.append_nil]; exact hJ2, hb2⟩ ?assign ?body ?done
      case assign =>
        intro l' x W3 K hK
        simp only [enc, List.setIfInBounds_toArray, List.set_cons_succ, List.set_cons_zero] at hK ⊢
        gi_wp2
        exact hK
      case body =>
        intro l' pre x rest bx W3 hx hi hs hbx hBx
        obtain ⟨hiJ, hiB⟩ := hi
        obtain ⟨fn, tm, asg, bd, hy, hR⟩ := hY (s0 ++ pre) x (rest ++ E2) W3 (by rw [hx]; simp) hiJ
        simp only [enc, List.setIfInBounds_toArray, List.set_cons_succ, List.set_cons_zero] at hy ⊢
        have hR' := roundIn_in (l' := l') (m' := 0) hR
        have e0 := hBx.cell 0 _ rfl
        have e1 := hBx.cell 1 _ rfl
        have e2 := hBx.cell 2 _ rfl
        have cY := hiB.cell
        clear hR hY ih1 ih2 hJ hJf2 hx
        gi_wp2
        refine ⟨rfl, ?_⟩
        refine hR'.mono ?_
        rintro e W4 ⟨rfl, hJ4, hk4⟩
        gi_wp2
        exact ⟨hk4.mono (by omega), by rw [← List.append_assoc]; exact hJ4, hk4.box _ _ _ (Nat.le_refl _) hiB⟩
      case done =>
        intro D1 W3 hD1 hi3 hd3
        obtain ⟨hJ3, hb3⟩ := hi3
        have hD1l : D1 < W3.heap.size := (Array.getElem?_eq_some_iff.1 hd3).1
        gi_wp2
        rw [roundsIn_succ]
        gi_wp2
        have hJf3 : OwnFrom W3.heap.size J := fun s A C row hs hg hr => hJ s A C row hs hg (fun r e => ⟨by have := (hr r e).1; omega, (hr r e).2⟩)
        refine wp_rangeBox (q := 6) 31 (fun e : En => [.int .u32 (e.1 : Int), .int .i64 (e.2.1 : Int), .int .i64 (e.2.2 : Int)]) rfl (enters_of Tryd.func13 (by kernel_rfl) rfl) ih2
          (fun pre A => J (s0 ++ (E1 ++ pre)) A ∧ Boxed A Y 60 (.func (.yield l) #[] #[]) ∧ A.heap[D1]? = some (.deferred (some [])))
          (OwnFrom.and (fun s => hJf3 (s0 ++ (E1 ++ s))) (OwnFrom.and ((boxed_own Y 60 (fun _ => .func (.yield l) #[] #[])).from _) (fun s A C row hs hg hr => (hg.block D1 (Array.getElem?_eq_some_iff.1 hs).1 (fun e => by have := (hr D1 e.symm).1; omega)).trans hs)))
          (fun s A h => hK _ A h.1) ⟨by rw [List.append_nil]; exact hJ3, hb3, hd3⟩ ?assign2 ?body2 ?done2
        case assign2 =>
          intro l' x W4 K hK
          simp only [enc, List.setIfInBounds_toArray, List.set_cons_succ, List.set_cons_zero] at hK ⊢
          gi_wp2
          exact hK
        case body2 =>
          intro l' pre x rest bx W4 hx hi hs hbx hBx
          obtain ⟨hiJ, hiB, hiD⟩ := hi
          obtain ⟨fn, tm, asg, bd, hy, hR⟩ := hY (s0 ++ (E1 ++ pre)) x rest W4 (by rw [hx]; simp) hiJ
          simp only [enc, List.setIfInBounds_toArray, List.set_cons_succ, List.set_cons_zero] at hy ⊢
          have hR' := roundIn_in (l' := l') (m' := 0) hR
          have e0 := hBx.cell 0 _ rfl
          have e1 := hBx.cell 1 _ rfl
          have e2 := hBx.cell 2 _ rfl
          have cY := hiB.cell
          clear hR hY ih1 ih2 hJ hJf2 hJf3 hx
          gi_wp2
          refine ⟨rfl, ?_⟩
          refine hR'.mono ?_
          rintro e W5 ⟨rfl, hJ5, hk5⟩
          gi_wp2
          exact ⟨hk5.mono (by omega), by rw [← List.append_assoc, ← List.append_assoc]; rw [← List.append_assoc] at hJ5; exact hJ5, hk5.box _ _ _ (Nat.le_refl _) hiB, hk5.other _ _ (by omega) hiD rfl⟩
        case done2 =>
          intro D2 W5 hD2 hi5 hd5
          obtain ⟨hJ5, _, hd1⟩ := hi5
          have hD2l : D2 < W5.heap.size := (Array.getElem?_eq_some_iff.1 hd5).1
          have hne : D1 ≠ D2 := by omega
          gi_wp2
          rw [roundsIn_succ]
          gi_wp2
          refine ⟨by simp, .inl ⟨_, _, rfl, run_takeDeferred hd5, ?_⟩⟩
          refine ⟨by simp, .inl ⟨_, _, rfl, run_takeDeferred (by rw [World.putObj_heap_other hne]; exact hd1), ?_⟩⟩
          exact ⟨_, results_none rfl _ _ _, ⟨_, rfl⟩, hJ.putObj _ (hJ.putObj _ hJ5 (by omega) hd5 rfl) (by omega) (by rw [World.putObj_heap_other hne]; exact hd1) rfl⟩
end Go.Proofs.YtmkhojaddedpfaaDoor.pth
