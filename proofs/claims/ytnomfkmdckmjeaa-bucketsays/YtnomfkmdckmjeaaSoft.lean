/-
  REGIONS THAT DRAW THEIR ORDER, BY WHAT EACH OPERATION YIELDS: whatever order is drawn, one fact for each operation (its answer may hang on the world: new blocks, calls), and the stores behind them, one after the other.
-/
import Derived.WalkKit
import Derived.StillTail
import Derived.Deep.MidRow
namespace Go.Proofs.Ytnomfkmdckmjeaa.soft
open Go Go.RowKit

/-- The frame, with what has been yielded so far. -/
def fr (a : Act) (f : Nat → Option Value) : List Oper → Nat → Act
  | [], _ => a
  | o :: l, i => fr (match f i with | some v => a.put o.dst v | none => a) f l (i + 1)
def upd (f : Nat → Option Value) (i : Nat) (v : Value) : Nat → Option Value := fun j => if j = i then some v else f j
theorem upd_same (f : Nat → Option Value) (i : Nat) (v : Value) : upd f i v i = some v := if_pos rfl
theorem upd_other (f : Nat → Option Value) {i j : Nat} (v : Value) (h : j ≠ i) : upd f i v j = f j := if_neg h
/-- How many are wanting. -/
def cnt (f : Nat → Option Value) : Nat → Nat
  | 0 => 0
  | n + 1 => cnt f n + (if (f n).isSome then 0 else 1)
theorem cnt_above (f : Nat → Option Value) (i : Nat) (v : Value) : ∀ n, n ≤ i → cnt (upd f i v) n = cnt f n
  | 0, _ => rfl
  | n + 1, h => by rw [cnt, cnt, cnt_above f i v n (by omega), upd_other f v (by omega)]
theorem cnt_upd (f : Nat → Option Value) (i : Nat) (v : Value) (hi : f i = none) : ∀ n, i < n → cnt f n = cnt (upd f i v) n + 1
  | n + 1, h => by
    rw [cnt, cnt]
    by_cases e : i = n
    · subst e
      rw [cnt_above f i v i (Nat.le_refl _), upd_same, hi]
      simp
    · rw [cnt_upd f i v hi n (by omega), upd_other f v (by omega)]
      omega
theorem cnt_zero (f : Nat → Option Value) : ∀ n, cnt f n = 0 → ∀ i, i < n → (f i).isSome = true
  | n + 1, h, i, hi => by
    rw [cnt] at h
    by_cases e : i = n
    · subst e
      cases hs : (f i).isSome
      · rw [hs] at h; simp at h
      · rfl
    · exact cnt_zero f n (by omega) i (by omega)
theorem cnt_some (f : Nat → Option Value) : ∀ n, cnt f n ≠ 0 → ∃ i, i < n ∧ f i = none ∧ ∀ j, j < i → (f j).isSome = true
  | 0, h => absurd rfl h
  | n + 1, h => by
    by_cases h0 : cnt f n = 0
    · refine ⟨n, by omega, ?_, fun j hj => cnt_zero f n h0 j hj⟩
      rw [cnt, h0] at h
      cases hs : f n
      · rfl
      · rw [hs] at h; simp at h
    · obtain ⟨i, h1, h2, h3⟩ := cnt_some f n h0
      exact ⟨i, by omega, h2, h3⟩
theorem cnt_none (n : Nat) : cnt (fun _ => none) n = n := by
  induction n with
  | zero => rfl
  | succ n ih => rw [cnt, ih]; rfl

/-- No two of these have one slot, and each has one. -/
def apartB : List Oper → Bool
  | [] => true
  | o :: l => o.dst.isSome && l.all (fun p => p.dst != o.dst) && apartB l
theorem fr_put_first (f : Nat → Option Value) (d : Option Tmp) (v : Value) : ∀ (l : List Oper) (k : Nat) (a : Act), l.all (fun p => p.dst != d) = true → d.isSome = true →
    fr (a.put d v) f l k = (fr a f l k).put d v
  | [], _, _, _, _ => rfl
  | o :: l, k, a, h, hd => by
    simp only [List.all_cons, Bool.and_eq_true, bne_iff_ne] at h
    rw [fr, fr]
    cases hk : f k with
    | none => exact fr_put_first f d v l (k + 1) a h.2 hd
    | some u =>
      rw [← fr_put_first f d v l (k + 1) (a.put o.dst u) h.2 hd]
      congr 1
      exact Act.put_comm a v u (fun e he h2 => h.1 (h2.trans he.symm))
theorem fr_above (a : Act) (f : Nat → Option Value) (i : Nat) (v : Value) : ∀ (l : List Oper) (k : Nat), i < k → fr a (upd f i v) l k = fr a f l k := by
  intro l
  induction l generalizing a with
  | nil => intro k _; rfl
  | cons o l ih => intro k h; rw [fr, fr, upd_other f v (by omega)]; exact ih _ _ (by omega)
theorem fr_upd (f : Nat → Option Value) (i : Nat) (v : Value) (hi : f i = none) : ∀ (l : List Oper) (k : Nat) (a : Act) (o : Oper), apartB l = true → k ≤ i → l[i - k]? = some o →
    (fr a f l k).put o.dst v = fr a (upd f i v) l k
  | [], _, _, _, _, _, h => by simp at h
  | p :: l, k, a, o, hB, hk, h => by
    simp only [apartB, Bool.and_eq_true] at hB
    rw [fr, fr]
    by_cases e : k = i
    · subst e
      rw [upd_same, hi]
      obtain rfl : p = o := by simpa using h
      rw [fr_above _ f k v l (k + 1) (by omega)]
      exact (fr_put_first f p.dst v l (k + 1) a hB.1.2 hB.1.1).symm
    · rw [upd_other f v e]
      refine fr_upd f i v hi l (k + 1) _ o hB.2 (by omega) ?_
      rw [show i - k = (i - (k + 1)) + 1 from by omega] at h
      simpa using h
theorem fr_size (f : Nat → Option Value) : ∀ (l : List Oper) (k : Nat) (a : Act), (fr a f l k).tmps.size = a.tmps.size
  | [], _, _ => rfl
  | o :: l, k, a => by
    rw [fr, fr_size f l (k + 1)]
    cases f k with
    | none => rfl
    | some v => cases hd : o.dst <;> simp [Act.put]
theorem fr_out (f : Nat → Option Value) (t : Tmp) : ∀ (l : List Oper) (k : Nat) (a : Act), l.all (fun p => p.dst != some t) = true → (fr a f l k).eval (.tmp t) = a.eval (.tmp t)
  | [], _, _, _ => rfl
  | o :: l, k, a, h => by
    simp only [List.all_cons, Bool.and_eq_true, bne_iff_ne] at h
    rw [fr, fr_out f t l (k + 1) _ h.2]
    cases f k with
    | none => rfl
    | some v =>
      cases hd : o.dst with
      | none => rfl
      | some d =>
        have hne : d ≠ t := fun e => h.1 (by rw [hd, e])
        show (a.tmps.setIfInBounds d v).getD t undef = a.tmps.getD t undef
        simp [Array.getElem?_setIfInBounds_ne hne]
theorem fr_in (f : Nat → Option Value) (t : Tmp) (i : Nat) (v : Value) (hv : f i = some v) : ∀ (l : List Oper) (k : Nat) (a : Act), apartB l = true → k ≤ i → (l[i - k]?).map (·.dst) = some (some t) → t < a.tmps.size →
    (fr a f l k).eval (.tmp t) = v
  | [], _, _, _, _, h, _ => by simp at h
  | p :: l, k, a, hB, hk, h, ht => by
    simp only [apartB, Bool.and_eq_true] at hB
    rw [fr]
    by_cases e : k = i
    · subst e
      have hd : p.dst = some t := by simpa using h
      rw [hv, fr_out f t l (k + 1) _ (by rw [← hd]; exact hB.1.2), hd]
      show (a.tmps.setIfInBounds t v).getD t undef = v
      simp [ht]
    · refine fr_in f t i v hv l (k + 1) _ hB.2 (by omega) ?_ ?_
      · rw [show i - k = (i - (k + 1)) + 1 from by omega] at h
        simpa using h
      · cases f k with
        | none => exact ht
        | some u => cases hd : p.dst <;> simp [Act.put] <;> exact ht

/-- What each of the first n waits for lies ahead of it. -/
def aheadB (l : List Oper) (n : Nat) : Bool := (List.range n).all fun i => match l[i]? with | some o => o.after.all fun e => !Region.binds .any e || decide (e.on < i) | none => false
def softB (l : List Oper) (n : Nat) : Bool :=
  decide (n < l.length) && Region.sinkB .any l.toArray n && Region.chainB .any l.toArray n && aheadB l n && apartB (l.take n) &&
    Region.seqB .any l.toArray (l.length - n) n (List.replicate n true ++ List.replicate (l.length - n) false).toArray
theorem ahead_spec {l : List Oper} {n i : Nat} {o : Oper} (h : aheadB l n = true) (hi : i < n) (ho : l[i]? = some o) : ∀ e ∈ o.after, Region.binds .any e = true → e.on < i := by
  have h1 := List.all_eq_true.1 h i (List.mem_range.2 hi)
  rw [ho] at h1
  intro e he hb
  have h2 := Array.all_eq_true_iff_forall_mem.1 h1 e he
  rw [hb] at h2
  simpa using h2
/-- THE LAW. -/
theorem wp_region_soft {P : Program} {id : Nat} {Q : Exit → Act → World → Prop} {a : Act} {w : World} {l : List Oper} (n : Nat) (hm : P.follows .mixedOrders = true) (hB : softB l n = true)
    (Good : (Nat → Option Value) → World → Prop) (h0 : Good (fun _ => none) { w with drawn := w.drawn + 1 })
    (hstep : ∀ i o, i < n → l[i]? = some o → ∀ (f : Nat → Option Value) (W : World), f i = none → (∀ e ∈ o.after, Region.binds .any e = true → (f e.on).isSome = true) → Good f W →
      wpOp P l.toArray Q i (fun a' W' => ∃ v, a' = (fr a f (l.take n) 0).put o.dst v ∧ Good (upd f i v) W') (fr a f (l.take n) 0) W)
    (hend : ∀ (f : Nat → Option Value) (W : World), (∀ i, i < n → (f i).isSome = true) → Good f W → wpList P l.toArray Q (l.drop n) (fr a f (l.take n) 0) W) :
    (Code.region id l.toArray true).wp P Q a w := by
  simp only [softB, Bool.and_eq_true, decide_eq_true_eq] at hB
  obtain ⟨⟨⟨⟨⟨hn, hs⟩, hc⟩, hah⟩, hap⟩, hseq⟩ := hB
  have hn' : n < l.toArray.size := by simpa using hn
  refine wp_region_any hm ?_
  have key : ∀ (k : Nat) (f : Nat → Option Value) (listed : Array Bool) (W : World), cnt f n = k → HeadInv .any l.toArray n listed → (∀ i, i < n → listed.getD i false = (f i).isSome) → Good f W →
      wpAny P .any l.toArray Q (k + (l.length - n)) listed (fr a f (l.take n) 0) W := by
    intro k
    induction k with
    | zero =>
      intro f listed W hk inv hl hg
      have hall := cnt_zero f n hk
      have e : listed = (List.replicate n true ++ List.replicate (l.length - n) false).toArray := by
        have hsz : listed.size = l.length := by have := inv.size; simpa using this
        apply Array.ext
        · simp [hsz]; omega
        · intro i h1 h2
          by_cases hi : i < n
          · have := hl i hi
            rw [hall i hi] at this
            simp [h1] at this
            simp [hi, this]
          · have := inv.tail i (by omega) (by simpa [hsz] using h1)
            simp [h1] at this
            rw [this, List.getElem_toArray, List.getElem_append_right (by simp; omega), List.getElem_replicate]
      have hdl : (l.drop n).length = l.length - n := by simp
      rw [Nat.zero_add, ← hdl]
      refine wpAny_of_seq (md := .any) (l.drop n) n listed _ W (fun j => by simp [List.getElem?_drop]) ?_ (hend f W hall hg)
      rw [hdl, e]
      exact hseq
    | succ k ih =>
      intro f listed W hk inv hl hg
      obtain ⟨i0, hi0, hf0, hlow⟩ := cnt_some f n (by omega)
      have hls : listed.size = l.length := by have := inv.size; simpa using this
      have un : ∀ i, i < n → f i = none → listed.getD i true = false := fun i hi hf => getD_in (by omega) (by rw [hl i hi, hf]; rfl)
      rw [show k + 1 + (l.length - n) = (k + (l.length - n)) + 1 from by omega]
      refine ⟨fun hr => ?_, fun i hi => ?_⟩
      · exfalso
        obtain ⟨o0, ho0⟩ : ∃ o, l[i0]? = some o := ⟨l[i0]'(by omega), List.getElem?_eq_getElem (by omega)⟩
        have : i0 ∈ Region.ready .any l.toArray listed := mem_ready.2 ⟨un i0 hi0 hf0, o0, by simpa using ho0, fun e he hb => by
          have h1 := ahead_spec hah hi0 ho0 e he hb
          rw [hl _ (by omega)]
          exact hlow _ h1⟩
        rw [hr] at this
        cases this
      · have hin : i < n := by
          rcases Nat.lt_or_ge i n with h | h
          · exact h
          · exact absurd hi (tail_waits hs hc hn' inv _ i0 rfl hi0 (un i0 hi0 hf0) i h)
        obtain ⟨hu, o, ho, hpre⟩ := mem_ready.1 hi
        have ho' : l[i]? = some o := by simpa using ho
        have hfi : f i = none := by
          have h1 := hl i hin
          rw [getD_both hu] at h1
          cases hf : f i
          · rfl
          · rw [hf] at h1; cases h1
        refine wpOp_mono ?_ (hstep i o hin ho' f W hfi (fun e he hb => by
          have h1 := ahead_spec hah hin ho' e he hb
          rw [← hl _ (by omega)]
          exact hpre e he hb) hg)
        rintro a' W' ⟨v, rfl, hg'⟩
        have hto : (l.take n)[i - 0]? = some o := by simp [hin, ho']
        rw [fr_upd f i v hfi (l.take n) 0 a o hap (Nat.zero_le _) hto]
        refine ih (upd f i v) _ W' (by have := cnt_upd f i v hfi n hin; omega) (inv.set hi hin) (fun j hj => ?_) hg'
        by_cases e : j = i
        · subst e
          rw [upd_same]
          have : j < listed.size := by omega
          simp [this]
        · rw [upd_other f v e, ← hl j hj, getD_set_ne false (Ne.symm e)]
  have inv0 : HeadInv .any l.toArray n (Array.replicate l.toArray.size false) :=
    ⟨by simp, fun j oj _ hl => (by rw [getD_replicate_false] at hl; cases hl), fun t _ ht => getD_in (by simpa using ht) (getD_replicate_false _ _)⟩
  have H := key n (fun _ => none) _ _ (cnt_none n) inv0 (fun i _ => by rw [getD_replicate_false]; rfl) h0
  have hfr : ∀ (L : List Oper) (k : Nat), fr a (fun _ => none) L k = a := by
    intro L
    induction L with
    | nil => intro k; rfl
    | cons o L ihL => intro k; exact ihL (k + 1)
  rw [hfr, show n + (l.length - n) = l.toArray.size from by simp; omega] at H
  exact H

/-! ### What has been yielded, and the world it stands in -/
/-- R i v W: what operation i may have yielded, in a world W; 'fresh': those that make a block. -/
structure Good (R : Nat → Value → World → Prop) (fresh : Nat → Bool) (W0 : World) (f : Nat → Option Value) (W : World) : Prop where
  below : Below W0.heap.size W0 W
  val : ∀ i v, f i = some v → R i v W
  apart : ∀ i j v, i ≠ j → fresh i = true → fresh j = true → f i = some v → f j ≠ some v
def Stable (R : Nat → Value → World → Prop) : Prop := ∀ i v W W', R i v W → Below W.heap.size W W' → R i v W'
theorem Good.start {R : Nat → Value → World → Prop} {fresh : Nat → Bool} (W : World) : Good R fresh W (fun _ => none) { W with drawn := W.drawn + 1 } :=
  ⟨⟨rfl, rfl, rfl, Nat.le_refl _, fun _ _ => rfl⟩, fun _ _ h => (by cases h), fun _ _ _ _ _ _ h => (by cases h)⟩
theorem Good.get {R : Nat → Value → World → Prop} {fresh : Nat → Bool} {W0 W : World} {f : Nat → Option Value} (h : Good R fresh W0 f W) {i : Nat} (hi : (f i).isSome = true) : ∃ v, f i = some v ∧ R i v W := by
  cases hf : f i with
  | none => rw [hf] at hi; cases hi
  | some v => exact ⟨v, rfl, h.val i v hf⟩
theorem Good.call {R : Nat → Value → World → Prop} {fresh : Nat → Bool} {W0 W W' : World} {f : Nat → Option Value} (h : Good R fresh W0 f W) (hR : Stable R) {i : Nat} {v : Value} (hi : fresh i = false) (hb : Below W.heap.size W W') (hv : R i v W') : Good R fresh W0 (upd f i v) W' := by
  refine ⟨h.below.trans (hb.mono h.below.size), fun j u hj => ?_, fun j k u hjk fj fk h1 h2 => ?_⟩
  · by_cases e : j = i
    · subst e; rw [upd_same] at hj; cases hj; exact hv
    · rw [upd_other f v e] at hj; exact hR j u W W' (h.val j u hj) hb
  · have e1 : j ≠ i := fun e => by rw [e, hi] at fj; cases fj
    have e2 : k ≠ i := fun e => by rw [e, hi] at fk; cases fk
    rw [upd_other f v e1] at h1
    rw [upd_other f v e2] at h2
    exact h.apart j k u hjk fj fk h1 h2
theorem Good.value {R : Nat → Value → World → Prop} {fresh : Nat → Bool} {W0 W : World} {f : Nat → Option Value} (h : Good R fresh W0 f W) (hR : Stable R) {i : Nat} {v : Value} (hi : fresh i = false) (hv : R i v W) : Good R fresh W0 (upd f i v) W := h.call hR hi (Below.refl _ _) hv
theorem Good.alloc {R : Nat → Value → World → Prop} {fresh : Nat → Bool} {W0 W : World} {f : Nat → Option Value} (h : Good R fresh W0 f W) (hR : Stable R) (hF : ∀ j v, fresh j = true → R j v W → ∃ b, v = .pointer (some ⟨b, 0, none⟩) ∧ b < W.heap.size) {i : Nat} {o : Obj}
    (hv : R i (.pointer (some ⟨W.heap.size, 0, none⟩)) (W.alloc o)) : Good R fresh W0 (upd f i (.pointer (some ⟨W.heap.size, 0, none⟩))) (W.alloc o) := by
  have hb : Below W.heap.size W (W.alloc o) := (Below.refl _ _).alloc (Nat.le_refl _) _
  have ne : ∀ j u, fresh j = true → f j = some u → u ≠ .pointer (some ⟨W.heap.size, 0, none⟩) := fun j u fj hj e => by
    obtain ⟨b, e1, hlt⟩ := hF j u fj (h.val j u hj)
    rw [e1] at e
    injection e with e
    injection e with e
    injection e with e
    omega
  refine ⟨h.below.trans (hb.mono h.below.size), fun j u hj => ?_, fun j k u hjk fj fk h1 h2 => ?_⟩
  · by_cases e : j = i
    · subst e; rw [upd_same] at hj; cases hj; exact hv
    · rw [upd_other f _ e] at hj; exact hR j u W _ (h.val j u hj) hb
  · by_cases e1 : j = i
    · subst e1
      have e2 : k ≠ j := Ne.symm hjk
      rw [upd_same] at h1
      rw [upd_other f _ e2] at h2
      cases h1
      exact ne k _ fk h2 rfl
    · rw [upd_other f _ e1] at h1
      by_cases e2 : k = i
      · subst e2
        rw [upd_same] at h2
        cases h2
        exact ne j _ fj h1 rfl
      · rw [upd_other f _ e2] at h2
        exact h.apart j k u hjk fj fk h1 h2

/-! ### One operation -/
theorem op_value {P : Program} {Q : Exit → Act → World → Prop} {l : List Oper} {i : Nat} {o : Oper} {K : Act → World → Prop} {a : Act} {W W' : World} {v : Value} (ho : l[i]? = some o) (hg : o.guard = none)
    (hrun : (execOp a.eval o).run P W = .ok (.value v) W') (h : K (a.put o.dst v) W') : wpOp P l.toArray Q i K a W := by
  unfold wpOp
  simp only [List.getElem?_toArray, ho]
  have hw : Region.wanted o (yielded l.toArray a.tmps) = true := by unfold Region.wanted; rw [hg]
  rw [if_pos hw]
  left
  unfold Oper.wp
  rw [hrun]
  exact h
theorem op_call {P : Program} {Q : Exit → Act → World → Prop} {l : List Oper} {i : Nat} {o : Oper} {K : Act → World → Prop} {a : Act} {W : World} {g : FuncId} {args : Array Value} (ho : l[i]? = some o) (hg : o.guard = none)
    (hrun : (execOp a.eval o).run P W = .ok (.enter g args) W) (h : Calls P g args W fun e W' => ∃ v, e = .returned v ∧ K (a.put o.dst v) W') : wpOp P l.toArray Q i K a W := by
  unfold wpOp
  simp only [List.getElem?_toArray, ho]
  have hw : Region.wanted o (yielded l.toArray a.tmps) = true := by unfold Region.wanted; rw [hg]
  rw [if_pos hw]
  left
  unfold Oper.wp
  rw [hrun]
  refine h.mono ?_
  rintro e W' ⟨v, rfl, hk⟩
  exact hk
theorem op_load {P : Program} {Q : Exit → Act → World → Prop} {l : List Oper} {i : Nat} {o : Oper} {K : Act → World → Prop} {a : Act} {W : World} {v q : Value} {ty : TypeId} {x : Operand} (ho : l[i]? = some o) (hg : o.guard = none) (hop : o.op = .load ty x) (hx : a.eval x = q)
    (hrun : (Instr.loadAt ty q).run P W = .ok v W) (h : K (a.put o.dst v) W) : wpOp P l.toArray Q i K a W := by
  refine op_value ho hg ?_ h
  unfold execOp
  simp only [hop, hx, Sem.run_bind, hrun, Result.andThen_ok, Sem.run_pure]
/-- THE LAW, the frame told by what stands in it. -/
theorem wp_region_told {P : Program} {id : Nat} {Q : Exit → Act → World → Prop} {a : Act} {w : World} {l : List Oper} (n : Nat) (hm : P.follows .mixedOrders = true) (hB : softB l n = true) (R : Nat → Value → World → Prop) (fresh : Nat → Bool)
    (hstep : ∀ (f : Nat → Option Value) (W : World) (A : Act), (∀ j t v, f j = some v → ((l.take n)[j]?).map (·.dst) = some (some t) → t < a.tmps.size → A.eval (.tmp t) = v) → (∀ t, (l.take n).all (fun p => p.dst != some t) = true → A.eval (.tmp t) = a.eval (.tmp t)) → Good R fresh w f W →
      ∀ i o, i < n → l[i]? = some o → (∀ e ∈ o.after, Region.binds .any e = true → (f e.on).isSome = true) → wpOp P l.toArray Q i (fun a' W' => ∃ v, a' = A.put o.dst v ∧ Good R fresh w (upd f i v) W') A W)
    (hend : ∀ (f : Nat → Option Value) (W : World), (∀ i, i < n → (f i).isSome = true) → Good R fresh w f W → wpList P l.toArray Q (l.drop n) (fr a f (l.take n) 0) W) :
    (Code.region id l.toArray true).wp P Q a w := by
  have hap : apartB (l.take n) = true := by
    simp only [softB, Bool.and_eq_true] at hB
    exact hB.1.2
  refine wp_region_soft n hm hB (Good R fresh w) (Good.start w) ?_ hend
  intro i o hi ho f W _ hpre hg
  exact hstep f W _ (fun j t v hj hd ht => fr_in f t j v hj (l.take n) 0 a hap (Nat.zero_le _) hd ht) (fun t ht => fr_out f t (l.take n) 0 a ht) hg i o hi ho hpre

/-! ### All of a region's operations, stores among them -/
/-- No two of these have one slot; some may have none. -/
def apartN : List Oper → Bool
  | [] => true
  | o :: l => (o.dst.isNone || l.all (fun p => p.dst != o.dst)) && apartN l
theorem fr_putN (f : Nat → Option Value) (d : Option Tmp) (v : Value) : ∀ (l : List Oper) (k : Nat) (a : Act), (d.isNone || l.all (fun p => p.dst != d)) = true → fr (a.put d v) f l k = (fr a f l k).put d v := by
  intro l k a h
  cases d with
  | none => rfl
  | some t => exact fr_put_first f (some t) v l k a (by simpa using h) rfl
theorem fr_updN (f : Nat → Option Value) (i : Nat) (v : Value) (hi : f i = none) : ∀ (l : List Oper) (k : Nat) (a : Act) (o : Oper), apartN l = true → k ≤ i → l[i - k]? = some o →
    (fr a f l k).put o.dst v = fr a (upd f i v) l k
  | [], _, _, _, _, _, h => by simp at h
  | p :: l, k, a, o, hB, hk, h => by
    simp only [apartN, Bool.and_eq_true] at hB
    rw [fr, fr]
    by_cases e : k = i
    · subst e
      rw [upd_same, hi]
      obtain rfl : p = o := by simpa using h
      rw [fr_above _ f k v l (k + 1) (by omega)]
      exact (fr_putN f p.dst v l (k + 1) a hB.1).symm
    · rw [upd_other f v e]
      refine fr_updN f i v hi l (k + 1) _ o hB.2 (by omega) ?_
      rw [show i - k = (i - (k + 1)) + 1 from by omega] at h
      simpa using h
theorem fr_inN (f : Nat → Option Value) (t : Tmp) (i : Nat) (v : Value) (hv : f i = some v) : ∀ (l : List Oper) (k : Nat) (a : Act), apartN l = true → k ≤ i → (l[i - k]?).map (·.dst) = some (some t) → t < a.tmps.size →
    (fr a f l k).eval (.tmp t) = v
  | [], _, _, _, _, h, _ => by simp at h
  | p :: l, k, a, hB, hk, h, ht => by
    simp only [apartN, Bool.and_eq_true] at hB
    rw [fr]
    by_cases e : k = i
    · subst e
      have hd : p.dst = some t := by simpa using h
      have hall : l.all (fun q => q.dst != some t) = true := by
        have := hB.1
        rw [hd] at this
        simpa using this
      rw [hv, fr_out f t l (k + 1) _ hall, hd]
      show (a.tmps.setIfInBounds t v).getD t undef = v
      simp [ht]
    · refine fr_inN f t i v hv l (k + 1) _ hB.2 (by omega) ?_ ?_
      · rw [show i - k = (i - (k + 1)) + 1 from by omega] at h
        simpa using h
      · cases f k with
        | none => exact ht
        | some u => cases hd : p.dst <;> simp [Act.put] <;> exact ht
def allB (l : List Oper) : Bool := aheadB l l.length && apartN l
/-- THE LAW for a whole region: Good f W is whatever is held on the way. -/
theorem wp_region_all {P : Program} {id : Nat} {Q : Exit → Act → World → Prop} {a : Act} {w : World} {l : List Oper} (hm : P.follows .mixedOrders = true) (hB : allB l = true)
    (G : (Nat → Option Value) → World → Prop) (h0 : G (fun _ => none) { w with drawn := w.drawn + 1 })
    (hstep : ∀ (f : Nat → Option Value) (W : World) (A : Act), (∀ j t v, f j = some v → (l[j]?).map (·.dst) = some (some t) → t < a.tmps.size → A.eval (.tmp t) = v) → (∀ t, l.all (fun p => p.dst != some t) = true → A.eval (.tmp t) = a.eval (.tmp t)) → G f W →
      ∀ i o, l[i]? = some o → f i = none → (∀ e ∈ o.after, Region.binds .any e = true → (f e.on).isSome = true) → wpOp P l.toArray Q i (fun a' W' => ∃ v, a' = A.put o.dst v ∧ G (upd f i v) W') A W)
    (hend : ∀ (f : Nat → Option Value) (W : World), (∀ i, i < l.length → (f i).isSome = true) → G f W → Q .normal (fr a f l 0) W) :
    (Code.region id l.toArray true).wp P Q a w := by
  simp only [allB, Bool.and_eq_true] at hB
  obtain ⟨hah, hap⟩ := hB
  refine wp_region_any hm ?_
  have key : ∀ (k : Nat) (f : Nat → Option Value) (listed : Array Bool) (W : World), cnt f l.length = k → listed.size = l.length → (∀ i, i < l.length → listed.getD i false = (f i).isSome) → G f W →
      wpAny P .any l.toArray Q k listed (fr a f l 0) W := by
    intro k
    induction k with
    | zero =>
      intro f listed W hk hls hl hg
      have hall := cnt_zero f l.length hk
      refine ⟨?_, hend f W hall hg⟩
      rw [List.eq_nil_iff_forall_not_mem]
      intro i hi
      obtain ⟨hu, o, ho, _⟩ := mem_ready.1 hi
      have hin : i < l.length := by have := (Array.getElem?_eq_some_iff.1 ho).1; simpa using this
      have h1 := hl i hin
      rw [hall i hin, getD_both hu] at h1
      cases h1
    | succ k ih =>
      intro f listed W hk hls hl hg
      obtain ⟨i0, hi0, hf0, hlow⟩ := cnt_some f l.length (by omega)
      have un : ∀ i, i < l.length → f i = none → listed.getD i true = false := fun i hi hf => getD_in (by omega) (by rw [hl i hi, hf]; rfl)
      refine ⟨fun hr => ?_, fun i hi => ?_⟩
      · exfalso
        have ho0 : l[i0]? = some (l[i0]'hi0) := List.getElem?_eq_getElem hi0
        have : i0 ∈ Region.ready .any l.toArray listed := mem_ready.2 ⟨un i0 hi0 hf0, l[i0]'hi0, by simp, fun e he hb => by
          have h1 := ahead_spec hah hi0 ho0 e he hb
          rw [hl _ (by omega)]
          exact hlow _ h1⟩
        rw [hr] at this
        cases this
      · obtain ⟨hu, o, ho, hpre⟩ := mem_ready.1 hi
        have ho' : l[i]? = some o := by simpa using ho
        have hin : i < l.length := by have := (Array.getElem?_eq_some_iff.1 ho).1; simpa using this
        have hfi : f i = none := by
          have h1 := hl i hin
          rw [getD_both hu] at h1
          cases hf : f i
          · rfl
          · rw [hf] at h1; cases h1
        refine wpOp_mono ?_ (hstep f W _ (fun j t v hj hd ht => fr_inN f t j v hj l 0 a hap (Nat.zero_le _) hd ht) (fun t ht => fr_out f t l 0 a ht) hg i o ho' hfi (fun e he hb => by
          have h1 := ahead_spec hah hin ho' e he hb
          rw [← hl _ (by omega)]
          exact hpre e he hb))
        rintro a' W' ⟨v, rfl, hg'⟩
        rw [fr_updN f i v hfi l 0 a o hap (Nat.zero_le _) (by simpa using ho')]
        refine ih (upd f i v) _ W' (by have := cnt_upd f i v hfi l.length hin; omega) (by simp [hls]) (fun j hj => ?_) hg'
        by_cases e : j = i
        · subst e
          rw [upd_same]
          have : j < listed.size := by omega
          simp [this]
        · rw [upd_other f v e, ← hl j hj, getD_set_ne false (Ne.symm e)]
  have H := key l.length (fun _ => none) (Array.replicate l.toArray.size false) { w with drawn := w.drawn + 1 } (cnt_none _) (by simp) (fun i _ => by rw [getD_replicate_false]; rfl) h0
  have hfr : ∀ (L : List Oper) (k : Nat), fr a (fun _ => none) L k = a := by
    intro L
    induction L with
    | nil => intro k; rfl
    | cons o L ihL => intro k; exact ihL (k + 1)
  rw [hfr] at H
  rw [show l.toArray.size = l.length from by simp] at H ⊢
  exact H
/-- A store, as one operation. -/
theorem op_store {P : Program} {Q : Exit → Act → World → Prop} {l : List Oper} {i : Nat} {o : Oper} {K : Act → World → Prop} {a : Act} {W : World} {ty : TypeId} {x y : Operand} {b : Nat} {cells : Array Value} (ho : l[i]? = some o) (hg : o.guard = none) (hop : o.op = .store ty x y)
    (hx : a.eval x = .pointer (some ⟨b, 0, none⟩)) (hy : a.eval y = .agg cells) (ht : W.there b 0 cells.size) (hi : (P.info? ty).map (·.size) = some cells.size) (h1 : cells.all (·.oneCell') = true)
    (h : K (a.put o.dst undef) (W.setCells b 0 cells.toList)) : wpOp P l.toArray Q i K a W := by
  unfold wpOp
  simp only [List.getElem?_toArray, ho]
  have hw : Region.wanted o (yielded l.toArray a.tmps) = true := by unfold Region.wanted; rw [hg]
  rw [if_pos hw]
  left
  exact wp_store_mid ty x y hop b 0 cells hx hy ht hi h1 h

/-- What has been yielded, and what has been stored: (s, k, C): operation s stores into the block that operation k has made; C W b: what then lies in it. -/
structure Kept (R : Nat → Value → World → Prop) (fresh : Nat → Bool) (W0 : World) (st : List (Nat × Nat × (World → Nat → Prop))) (f : Nat → Option Value) (W : World) : Prop where
  good : Good R fresh W0 f W
  kept : ∀ s ∈ st, (f s.1).isSome = true → ∃ b, f s.2.1 = some (.pointer (some ⟨b, 0, none⟩)) ∧ b < W.heap.size ∧ s.2.2 W b
def StableC (st : List (Nat × Nat × (World → Nat → Prop))) : Prop := ∀ s ∈ st, ∀ W W' b, s.2.2 W b → b < W.heap.size → Below W.heap.size W W' → s.2.2 W' b
theorem Kept.start {R : Nat → Value → World → Prop} {fresh : Nat → Bool} {st : List (Nat × Nat × (World → Nat → Prop))} (W : World) : Kept R fresh W st (fun _ => none) { W with drawn := W.drawn + 1 } := ⟨Good.start W, fun _ _ h => (by cases h)⟩
theorem Kept.move {R : Nat → Value → World → Prop} {fresh : Nat → Bool} {W0 W W' : World} {st : List (Nat × Nat × (World → Nat → Prop))} {f : Nat → Option Value} (h : Kept R fresh W0 st f W) (hC : StableC st) {i : Nat} {v : Value} (hf : f i = none) (hi : st.all (fun s => s.1 != i) = true) (hb : Below W.heap.size W W')
    (hg : Good R fresh W0 (upd f i v) W') : Kept R fresh W0 st (upd f i v) W' := by
  refine ⟨hg, fun s hs hsome => ?_⟩
  have h1 : s.1 ≠ i := by have := List.all_eq_true.1 hi s hs; simpa using this
  rw [upd_other f v h1] at hsome
  obtain ⟨b, h2, h3, h4⟩ := h.kept s hs hsome
  have h5 : s.2.1 ≠ i := fun e => by rw [e, hf] at h2; cases h2
  exact ⟨b, by rw [upd_other f v h5]; exact h2, Nat.lt_of_lt_of_le h3 hb.size, hC s hs W W' b h4 h3 hb⟩
end Go.Proofs.Ytnomfkmdckmjeaa.soft
