/-
  A RANGE OVER A FUNCTION WHOSE ROUNDS ALL GO ON, where the iterator may itself range over functions: what it is owed (Gives), and the statement out of it (wp_rangeGive).
-/
import Derived.RangeFuncNested
import Derived.RangeFuncBound
import Derived.RangeFuncCalls
import Derived.RangeFuncLeaves
import Derived.Shelf.Abstract
import Derived.Shelf.RegionOpen
import Derived.WalkKit
import Derived.OwnWalkIn
import Derived.TacticsInMore
import Derived.LoopNIn
import Derived.LoopIn
import Derived.Test.YtmkhojaddedpfaaDoorBut
namespace Go.Proofs.YtmkhojaddedpfaaDoor.rng
open Go.RowKit

/-- What a round leaves: from block B on whatever is no cells, and the cells of type t, lie as they lay. -/
structure Keeps (t B : Nat) (W W' : World) : Prop where
  size : W.heap.size ≤ W'.heap.size
  other : ∀ (k : Nat) (o : Obj), B ≤ k → W.heap[k]? = some o → o.isCells = false → W'.heap[k]? = some o
  box : ∀ (k : Nat) (c : Array Value) (f : Nat × Nat), B ≤ k → W.heap[k]? = some (.cells c t f) → W'.heap[k]? = some (.cells c t f)
theorem Keeps.refl (t B : Nat) (W : World) : Keeps t B W W := ⟨Nat.le_refl _, fun _ _ _ h _ => h, fun _ _ _ _ h => h⟩
theorem Keeps.trans {t B : Nat} {X Y Z : World} (h : Keeps t B X Y) (k : Keeps t B Y Z) : Keeps t B X Z :=
  ⟨Nat.le_trans h.size k.size, fun i o hB hi ho => k.other i o hB (h.other i o hB hi ho) ho, fun i c f hB hi => k.box i c f hB (h.box i c f hB hi)⟩
theorem Keeps.mono {t B C : Nat} {X Y : World} (h : Keeps t B X Y) (hB : B ≤ C) : Keeps t C X Y :=
  ⟨h.size, fun i o hC hi ho => h.other i o (Nat.le_trans hB hC) hi ho, fun i c f hC hi => h.box i c f (Nat.le_trans hB hC) hi⟩
/-- One block turns that holds cells of another type, or lies below B. -/
theorem Keeps.grown {t B : Nat} {W W' : World} {row : Option Nat} (hg : W.grownBy W' row) (hr : ∀ j, row = some j → j < B ∨ ∃ c t' f, W.heap[j]? = some (.cells c t' f) ∧ t' ≠ t) : Keeps t B W W' :=
  ⟨hg.size, (fun k o hB hk ho => by
      refine (hg.block k (Array.getElem?_eq_some_iff.1 hk).1 (fun e => ?_)).trans hk
      rcases hr k e.symm with h | ⟨c, t', f, h, _⟩
      · omega
      · rw [hk] at h; cases h; exact Bool.noConfusion ho),
    (fun k c f hB hk => by
      refine (hg.block k (Array.getElem?_eq_some_iff.1 hk).1 (fun e => ?_)).trans hk
      rcases hr k e.symm with h | ⟨c', t', f', h, hne⟩
      · omega
      · rw [hk] at h; cases h; exact absurd rfl hne)⟩
theorem Keeps.alloc (t B : Nat) (W : World) (o : Obj) : Keeps t B W (W.alloc o) := Keeps.grown (World.grownBy_alloc W o none) (fun _ e => by cases e)
theorem Keeps.below {t B : Nat} {W W' : World} (h : Below W.heap.size W W') : Keeps t B W W' :=
  Keeps.grown (row := none) ⟨h.os, h.tape, h.output, h.size, fun k hk _ => h.block k hk⟩ (fun _ e => by cases e)
theorem room_wide' (k : Nat) : Fence.wide.room k := room_wide k
theorem RoundIn.any {m m' : Nat} {P : Program} {l : Nat} {f : FuncId} {tmps : Array Value} {assign body : Code} {w : World} {R : Ending → World → Prop}
    (h : RoundIn Fence.wide m P l f tmps assign body w R) : RoundIn Fence.wide m' P l f tmps assign body w R := ⟨h.1, fun c cs _ => h.2 c cs (room_wide _)⟩

/-- AN ITERATOR: whatever is handed over round by round, as long as each round goes on and leaves what the iterator keeps (Kp) and the boxes of functions (of type t), all of xs come, in order. -/
def Gives {α : Type} (P : Program) (t f : Nat) (va : Array Value) (enc : α → Value) (xs : List α) (Kp : World → Prop) : Prop :=
  ∀ (l : Nat) (J : List α → World → Prop) (W : World), OwnFrom W.heap.size J → (∀ s A, J s A → Kp A) →
    (∀ pre x rest W1, xs = pre ++ x :: rest → J pre W1 → YieldAt Fence.wide 0 P l #[enc x] W1 fun e W' => e = .returned (.bool true) ∧ J (pre ++ [x]) W' ∧ Keeps t W.heap.size W1 W') →
    J [] W → CallsIn Fence.wide 0 P f (va ++ #[.func (.yield l) #[] #[]]) W fun e W' => (∃ v, e = .returned v) ∧ J xs W'

/-- THE STATEMENT. -/
theorem wp_rangeGive {α : Type} {P : Program} {g : Operand} {p : Tmp} {assign body : Code} {Q : Exit → Act → World → Prop} {a : Act} {w : World} {t f : Nat} {va : Array Value}
    (hg : a.eval g = .func (.func f) va #[]) (eg : ∀ args w, (callFunc f args).run P w = .ok (.enter f args) w)
    {enc : α → Value} {xs : List α} {Kp : World → Prop} (hseq : Gives P t f va enc xs Kp)
    (I : List α → World → Prop) (hI : OwnFrom w.heap.size I) (hK : ∀ s A, I s A → Kp A) (h0 : I [] w)
    (Ax : α → Act → World → Prop) (hAx : ∀ x a', OwnFrom w.heap.size (fun (_ : Unit) W => Ax x a' W))
    (hassign : ∀ (l : Nat) (pre : List α) (x : α) (rest : List α) (W : World) (K : Act → World → Prop), xs = pre ++ x :: rest → I pre W → w.heap.size ≤ W.heap.size → (∀ a' W', Keeps t w.heap.size W W' → I pre W' → Ax x a' W' → K a' W') →
      assign.wpIn (Fence.wide.inRound l) 0 P (Exit.then K (fun _ _ _ => False)) { tmps := a.tmps.setIfInBounds p (enc x), defers := [] } W)
    (hbody : ∀ (l : Nat) (pre : List α) (x : α) (rest : List α) (a' : Act) (W : World), xs = pre ++ x :: rest → I pre W → w.heap.size ≤ W.heap.size → Ax x a' W →
      body.wpIn (Fence.wide.inRound l) 0 P (fun e _ W' => e = .normal ∧ Keeps t w.heap.size W W' ∧ I (pre ++ [x]) W') a' W)
    (hdone : ∀ (D : Nat) (W : World), w.heap.size ≤ D → I xs W → W.heap[D]? = some (.deferred (some [])) → Q .normal { a with defers := { target := .collected D, args := #[] } :: a.defers } W) :
    (Code.rangeFunc g #[p] assign body).wpIn Fence.wide 0 P Q a w := by
  refine wpIn_rangeFunc ?_
  intro fn hfn
  obtain ⟨rec, hrec⟩ : ∃ rec : LoopState → Option Code → Loop, rec = fun st pe => { state := st, pending := pe, fn, tmps := a.tmps, params := #[p], assign, body, defers := w.heap.size } := ⟨_, rfl⟩
  obtain ⟨D, hD⟩ : ∃ D, w.heap.size = D := ⟨_, rfl⟩
  obtain ⟨U, hU⟩ : ∃ U, (w.alloc (.deferred (some []))).alloc (.loop (rec .ready none)) = U := ⟨_, rfl⟩
  have hUs : U.heap.size = D + 2 := by rw [← hU, ← hD]; simp
  have hL1 : U.heap[D + 1]? = some (.loop (rec .ready none)) := by
    have := World.alloc_heap_new (w.alloc (.deferred (some []))) (.loop (rec .ready none))
    rw [World.size_alloc, hD, hU] at this
    exact this
  have hK1 : U.heap[D]? = some (.deferred (some [])) := by
    rw [← hU]; exact (Below.heap_alloc _ _ _ (by simp; omega)).trans (by rw [← hD]; exact World.alloc_heap_new w _)
  have hI1 : I [] U := by rw [← hU]; exact hI.alloc _ (hI.alloc _ h0)
  have eU : ((w.alloc (.deferred (some []))).alloc (.loop { state := .ready, pending := none, fn, tmps := a.tmps, params := #[p], assign, body, defers := w.heap.size })) = U := by rw [← hU, hrec]
  rw [hD] at hI hAx hassign hbody hdone
  refine ⟨D + 1, [{ target := .collected D, args := #[] }], U, { target := .fn (.func f) #[], args := va ++ #[.func (.yield (D + 1)) #[] #[]] }, U, f, va ++ #[.func (.yield (D + 1)) #[] #[]], U, ?_, ?_, ?_, ?_, (fun h => by cases h), ?_⟩
  · have := run_enterLoop_outer (P := P) (w := w) fn a.tmps #[p] assign body
    rw [eU, hD] at this
    exact this
  · simp only [resolve, hg]
    simp [go_sem]
  · intro f' _; trivial
  · simp [invoke, go_sem, eg]
  · refine (hseq (D + 1) (fun pre W => I pre W ∧ W.heap[D + 1]? = some (.loop (rec .ready none)) ∧ W.heap[D]? = some (.deferred (some []))) U ?_ (fun s A h => hK s A h.1) ?_ ⟨hI1, hL1, hK1⟩).mono ?_
    · rw [hUs]
      intro s A B row hs hgr hr
      have far : ∀ k o, k < D + 2 → A.heap[k]? = some o → B.heap[k]? = some o := fun k o hk ho =>
        (hgr.block k (Array.getElem?_eq_some_iff.1 ho).1 (fun e => by have := (hr k e.symm).1; omega)).trans ho
      exact ⟨hI s A B row hs.1 hgr (fun r e => ⟨by have := (hr r e).1; omega, (hr r e).2⟩), far _ _ (by omega) hs.2.1, far _ _ (by omega) hs.2.2⟩
    · rintro pre x rest W hx ⟨hi, hl, hk⟩
      have hy := run_yield (P := P) (args := #[enc x]) hl (by rw [hrec]; rfl)
      rw [hrec] at hy
      have hlt : D + 1 < W.heap.size := (Array.getElem?_eq_some_iff.1 hl).1
      refine ⟨fn, _, assign, body, hy, roundIn_of_wpIn trivial ?_⟩
      have hz : (#[p].zip #[enc x]).foldl (fun tm (p, v) => tm.setIfInBounds p v) a.tmps = a.tmps.setIfInBounds p (enc x) := by simp
      have hasg := hassign (D + 1) pre x rest W (fun a₁ w₁ => ∃ w₂, (Instr.beginRound (D + 1)).run P w₁ = .ok () w₂ ∧ body.wpIn (Fence.wide.inRound (D + 1)) 0 P
        (roundPost P (D + 1) fun e W' => e = .returned (.bool true) ∧ (I (pre ++ [x]) W' ∧ W'.heap[D + 1]? = some (.loop (rec .ready none)) ∧ W'.heap[D]? = some (.deferred (some []))) ∧ Keeps t U.heap.size W W') a₁ w₂) hx hi (by omega) ?_
      · rw [← hz] at hasg
        exact hasg
      intro a' W2 hk2 hi2 hax
      have hl2 := hk2.other _ _ (by omega) hl rfl
      have hd2 := hk2.other _ _ (by omega) hk rfl
      refine ⟨_, run_beginRound hl2 (by rw [hrec]), ?_⟩
      obtain ⟨W3, hW3⟩ : ∃ W3, W2.putObj (D + 1) (.loop { rec .ready none with state := .busy }) = W3 := ⟨_, rfl⟩
      have hl3 : W3.heap[D + 1]? = some (.loop { rec .ready none with state := .busy }) := by rw [← hW3]; exact World.putObj_heap_same (Array.getElem?_eq_some_iff.1 hl2).1
      have hd3 : W3.heap[D]? = some (.deferred (some [])) := by rw [← hW3]; exact (World.putObj_heap_other (by omega)).trans hd2
      have hi3 : I pre W3 := by rw [← hW3]; exact hI.putObj _ hi2 (by omega) hl2 rfl
      have hax3 : Ax x a' W3 := by rw [← hW3]; exact (hAx x a').putObj (s := ()) _ hax (by omega) hl2 rfl
      have hk3 : Keeps t (D + 2) W2 W3 := by rw [← hW3]; exact Keeps.grown (grownBy_putObj' W2 (D + 1) _) (fun j e => by cases e; exact .inl (by omega))
      have hs3 : D ≤ W3.heap.size := by have := (Array.getElem?_eq_some_iff.1 hd3).1; omega
      rw [hW3]
      refine wpIn_mono (hbody (D + 1) pre x rest a' W3 hx hi3 hs3 hax3) ?_
      rintro e a3 W4 ⟨rfl, hk4, hi4⟩
      have hl4 := hk4.other _ _ (by omega) hl3 rfl
      have hd4 := hk4.other _ _ (Nat.le_refl _) hd3 rfl
      have hend := run_endRound (P := P) none hl4
      refine ⟨_, _, hend, rfl, ⟨hI.putObj _ hi4 (by omega) hl4 rfl, ?_, (World.putObj_heap_other (by omega)).trans hd4⟩, ?_⟩
      · rw [World.putObj_heap_same (Array.getElem?_eq_some_iff.1 hl4).1, hrec]
        rfl
      · rw [hUs]
        exact (hk2.mono (by omega)).trans (hk3.trans ((hk4.mono (by omega)).trans (Keeps.grown (grownBy_putObj' W4 (D + 1) _) (fun j e => by cases e; exact .inl (by omega)))))
    · rintro e W2 ⟨⟨v, rfl⟩, hi, hl, hk⟩
      exact ⟨none, _, by have := run_endLoop (P := P) hl (by rw [hrec]; simp); rw [hrec] at this; exact this, hdone D _ (Nat.le_refl _) (hI.putObj _ hi (by omega) hl rfl) ((World.putObj_heap_other (by omega)).trans hk)⟩
theorem Blk.ownFrom {β : Type} (C b t : Nat) (l : List Value) : OwnFrom C (fun (_ : β) W => Blk W b t l) := fun _ W W' row hs hg hr => by
  unfold Blk at hs ⊢
  refine (hg.block b (Array.getElem?_eq_some_iff.1 hs).1 (fun e => ?_)).trans hs
  obtain ⟨_, o, ho, hc⟩ := hr b e.symm
  rw [hs] at ho
  cases ho
  exact Bool.noConfusion hc
/-- THE STATEMENT, where the loop's variable lies in a box of its own in each round (slot q). -/
theorem wp_rangeBox {α : Type} {P : Program} {g : Operand} {p q : Tmp} {assign body : Code} {Q : Exit → Act → World → Prop} {a : Act} {w : World} {t f : Nat} {va : Array Value}
    (ty : Nat) (cs : α → List Value) (hg : a.eval g = .func (.func f) va #[]) (eg : ∀ args w, (callFunc f args).run P w = .ok (.enter f args) w)
    {enc : α → Value} {xs : List α} {Kp : World → Prop} (hseq : Gives P t f va enc xs Kp)
    (I : List α → World → Prop) (hI : OwnFrom w.heap.size I) (hK : ∀ s A, I s A → Kp A) (h0 : I [] w)
    (hassign : ∀ (l : Nat) (x : α) (W : World) (K : Act → World → Prop), K { tmps := (a.tmps.setIfInBounds p (enc x)).setIfInBounds q (.pointer (some ⟨W.heap.size, 0, none⟩)), defers := [] } (W.alloc (.cells (cs x).toArray ty)) →
      assign.wpIn (Fence.wide.inRound l) 0 P (Exit.then K (fun _ _ _ => False)) { tmps := a.tmps.setIfInBounds p (enc x), defers := [] } W)
    (hbody : ∀ (l : Nat) (pre : List α) (x : α) (rest : List α) (b : Nat) (W : World), xs = pre ++ x :: rest → I pre W → w.heap.size ≤ W.heap.size → w.heap.size ≤ b → Blk W b ty (cs x) →
      body.wpIn (Fence.wide.inRound l) 0 P (fun e _ W' => e = .normal ∧ Keeps t w.heap.size W W' ∧ I (pre ++ [x]) W') { tmps := (a.tmps.setIfInBounds p (enc x)).setIfInBounds q (.pointer (some ⟨b, 0, none⟩)), defers := [] } W)
    (hdone : ∀ (D : Nat) (W : World), w.heap.size ≤ D → I xs W → W.heap[D]? = some (.deferred (some [])) → Q .normal { a with defers := { target := .collected D, args := #[] } :: a.defers } W) :
    (Code.rangeFunc g #[p] assign body).wpIn Fence.wide 0 P Q a w :=
  wp_rangeGive hg eg hseq I hI hK h0
    (fun x a' W => ∃ b, w.heap.size ≤ b ∧ Blk W b ty (cs x) ∧ a' = { tmps := (a.tmps.setIfInBounds p (enc x)).setIfInBounds q (.pointer (some ⟨b, 0, none⟩)), defers := [] })
    (fun x a' _ A C row ⟨b, hb, hB, e⟩ hgr hr => ⟨b, hb, Blk.ownFrom w.heap.size b ty (cs x) () A C row hB hgr hr, e⟩)
    (fun l pre x rest W K hx hi hs hk => hassign l x W K (hk _ _ (Keeps.alloc t w.heap.size W _) (hI.alloc _ hi) ⟨W.heap.size, hs, Blk.new W ty (cs x) _ rfl, rfl⟩))
    (fun l pre x rest a' W hx hi hs ⟨b, hb, hB, e⟩ => by subst e; exact hbody l pre x rest b W hx hi hs hb hB) hdone
end Go.Proofs.YtmkhojaddedpfaaDoor.rng
