/-
  REGIONS THAT DRAW THEIR ORDER: n operations that only read or call (callees make new memory at most), then others one after the other: one walk, in the text's order.
-/
import Derived.Test.YtgfcbmajgaeadaaSoft
import Derived.Test.YtgfcbmajgaeadaaUp
import Derived.BigQuiet
namespace Go.Proofs.Ytgfcbmajgaeadaa
open Go.RowKit
open Go.Proofs.Ytgfcbmajgaeadaa.soft

/-- Whatever order is picked among the first n. -/
def wpHeadQ (P : Program) (md : Region.Mode) (ops : Array Oper) (n : Nat) (C : World → Prop) (Q : Act → Prop) : Nat → Array Bool → Act → Prop
  | 0, listed, a => (∀ i ∈ Region.ready md ops listed, n ≤ i) ∧ Q a
  | fuel + 1, listed, a => ∀ i ∈ Region.ready md ops listed, i < n → qOp P ops C i (wpHeadQ P md ops n C Q fuel (listed.setIfInBounds i true)) a
theorem wpHeadQ_first {P : Program} {md : Region.Mode} {ops : Array Oper} {n : Nat} {C : World → Prop} {Q : Act → Prop} {i : Nat} {oi : Oper} {v : Value} (hi : ops[i]? = some oi) (hsel : ∀ (j : Nat) (o : Oper) cs b, ops[j]? = some o → o.op ≠ .select cs b) :
    ∀ (fuel : Nat) (listed : Array Bool) (a : Act),
      (∀ j oj, ops[j]? = some oj → j ≠ i → listed.getD j true = false → (∀ e ∈ oj.after, Region.binds md e = true → e.on ≠ i) → oi.apart ops oj = true) →
      i ∈ Region.ready md ops listed → YieldsIn P ops C oi v a →
      wpHeadQ P md ops n C Q fuel (listed.setIfInBounds i true) (a.put oi.dst v) → wpHeadQ P md ops n C Q (fuel + 1) listed a := by
  intro fuel
  induction fuel with
  | zero =>
    intro listed a _ hr hy H j hj hjn
    by_cases hji : j = i
    · subst hji; exact hy.qOp hi H
    · have := H.1 j (ready_mono hj hji)
      omega
  | succ fuel ih =>
    intro listed a hfree hr hy H j hj hjn
    by_cases hji : j = i
    · subst hji; exact hy.qOp hi H
    · have h1 := H j (ready_mono hj hji) hjn
      obtain ⟨hjun, oj, hoj, hall⟩ := mem_ready.1 hj
      have hnot : ∀ e ∈ oj.after, Region.binds md e = true → e.on ≠ i := fun e he hb heq => by
        have h1 := hall e he hb
        have h0 := (mem_ready.1 hr).1
        rw [heq] at h1
        rcases Nat.lt_or_ge i listed.size with h' | h'
        · simp [h'] at h0 h1; rw [h0] at h1; cases h1
        · simp [Array.getElem?_eq_none h'] at h1
      have h2 := qOp_put hoj (hfree j oj hoj hji hjun hnot) (fun cs b => hsel i oi cs b hi) (fun cs b => hsel j oj cs b hoj) hy h1
      have hfree' : ∀ k ok, ops[k]? = some ok → k ≠ i → (listed.setIfInBounds j true).getD k true = false →
          (∀ e ∈ ok.after, Region.binds md e = true → e.on ≠ i) → oi.apart ops ok = true := fun k ok hk hki hun hno => by
        refine hfree k ok hk hki ?_ hno
        by_cases hjk : j = k
        · subst hjk; exact hjun
        · rw [getD_set_ne true hjk] at hun; exact hun
      refine qOp_mono (fun a' h3 => ih (listed.setIfInBounds j true) a' hfree' (ready_mono hr (Ne.symm hji)) h3.1 ?_) h2
      rw [Array.setIfInBounds_comm _ _ hji]
      exact h3.2
/-- The text's order goes through. -/
def headB (md : Region.Mode) (ops : Array Oper) (n : Nat) : Nat → Nat → Array Bool → Bool
  | 0, _, listed => (Region.ready md ops listed).all fun i => decide (n ≤ i)
  | m + 1, k, listed => (Region.ready md ops listed).contains k && Region.free md ops listed k && headB md ops n m (k + 1) (listed.setIfInBounds k true)
theorem wpHeadQ_lex {P : Program} {md : Region.Mode} {ops : Array Oper} {n : Nat} {C : World → Prop} {Q : Act → Prop} (hs : Region.noSelect ops = true) : ∀ (l : List Oper) (k : Nat) (listed : Array Bool) (a : Act), (∀ j, j < l.length → l[j]? = ops[k + j]?) →
    headB md ops n l.length k listed = true → wpQuiet P ops C Q l a → wpHeadQ P md ops n C Q l.length listed a
  | [], _, _, _, _, hB, h => ⟨fun i hi => by have := List.all_eq_true.1 hB i hi; simpa using this, h⟩
  | o :: l, k, listed, a, hl, hB, h => by
    have h0 : ops[k]? = some o := by simpa using (hl 0 (by simp)).symm
    simp only [List.length_cons, headB, Bool.and_eq_true] at hB
    obtain ⟨⟨hr, hf⟩, hB'⟩ := hB
    have hst : qOp P ops C k (wpQuiet P ops C Q l) a := by unfold qOp; simp only [h0]; exact h
    obtain ⟨v, hy, hK⟩ := yieldsIn_of_qOp h0 hst
    exact wpHeadQ_first h0 (Region.noSelect_spec hs) l.length listed a (Region.free_spec h0 hf) (by simpa using hr) hy
      (wpHeadQ_lex hs l (k + 1) _ _ (fun j hj => by have := hl (j + 1) (by simpa using hj); simpa [Nat.add_assoc, Nat.add_comm 1 j] using this) hB' hK)
def marks (f : Nat → Option Value) (n m : Nat) : Array Bool := ((List.range m).map fun i => decide (i < n) && (f i).isSome).toArray
theorem marks_get (f : Nat → Option Value) (n m i : Nat) (d : Bool) (hi : i < m) : (marks f n m).getD i d = (decide (i < n) && (f i).isSome) := by
  simp [marks, hi]
theorem marks_upd (f : Nat → Option Value) (n m i : Nat) (v : Value) (hi : i < n) : marks (upd f i v) n m = (marks f n m).setIfInBounds i true := by
  apply Array.ext
  · simp [marks]
  · intro j h1 h2
    have hj : j < m := by simpa [marks] using h1
    rw [Array.getElem_setIfInBounds (by simpa [marks] using hj)]
    by_cases e : i = j
    · subst e; simp [marks, hi, upd_same]
    · rw [if_neg e]; simp [marks, upd_other f v (Ne.symm e)]
/-- THE LAW. -/
theorem wp_region_tail {P : Program} {id : Nat} {Q : Exit → Act → World → Prop} {a : Act} {w : World} {l : List Oper} (n : Nat) (hm : P.follows .mixedOrders = true)
    (hB : (softB l n && Region.noSelect l.toArray && headB .any l.toArray n n 0 (Array.replicate l.length false)) = true)
    (h : wpQuiet P l.toArray (fun w' => ∃ x : Up w, w' = x.1) (fun a' => ∀ w', (∃ x : Up w, w' = x.1) → wpList P l.toArray Q (l.drop n) a' w') (l.take n) a) : (Code.region id l.toArray true).wp P Q a w := by
  simp only [Bool.and_eq_true] at hB
  obtain ⟨⟨hB1, hB2⟩, hB3⟩ := hB
  have hB1' := hB1
  simp only [softB, Bool.and_eq_true, decide_eq_true_eq] at hB1'
  obtain ⟨⟨⟨⟨⟨hn, _⟩, _⟩, hah⟩, hap⟩, _⟩ := hB1'
  have hlen : (l.take n).length = n := by simp; omega
  have H0 := wpHeadQ_lex (md := .any) hB2 (l.take n) 0 (Array.replicate l.length false) a (fun j hj => by
    rw [hlen] at hj
    rw [Nat.zero_add, List.getElem?_take, if_pos hj, List.getElem?_toArray]) (by rw [hlen]; exact hB3) h
  rw [hlen] at H0
  have hfr : ∀ (L : List Oper) (k : Nat), fr a (fun _ => none) L k = a := by
    intro L
    induction L with
    | nil => intro k; rfl
    | cons o L ihL => intro k; exact ihL (k + 1)
  have hm0 : marks (fun _ => none) n l.length = Array.replicate l.length false := by
    apply Array.ext
    · simp [marks]
    · intro i h1 h2; simp [marks]
  refine wp_region_soft n hm hB1 (fun f W => (∃ x : Up w, W = x.1) ∧ wpHeadQ P .any l.toArray n (fun w' => ∃ x : Up w, w' = x.1) (fun a' => ∀ w', (∃ x : Up w, w' = x.1) → wpList P l.toArray Q (l.drop n) a' w') (cnt f n) (marks f n l.length) (fr a f (l.take n) 0)) ?_ ?_ ?_
  · refine ⟨⟨⟨_, up_drawn w⟩, rfl⟩, ?_⟩
    rw [cnt_none, hm0, hfr]
    exact H0
  · intro i o hi ho f W hfi hpre hg
    obtain ⟨hC, hH⟩ := hg
    have hc := cnt_upd f i undef hfi n hi
    obtain ⟨k, hk⟩ : ∃ k, cnt f n = k + 1 := ⟨_, hc⟩
    rw [hk] at hH
    have hop : l.toArray[i]? = some o := by rw [List.getElem?_toArray]; exact ho
    have hr : i ∈ Region.ready .any l.toArray (marks f n l.length) := mem_ready.2 ⟨by rw [marks_get _ _ _ _ _ (by omega), hfi]; simp, o, hop, fun e he hb => by
      have h1 := ahead_spec hah hi ho e he hb
      rw [marks_get _ _ _ _ _ (by omega), hpre e he hb]
      simp; omega⟩
    obtain ⟨v, hy, hK⟩ := yieldsIn_of_qOp hop (hH i hr hi)
    have hq : qOp P l.toArray (fun w' => ∃ x : Up w, w' = x.1) i (fun a' => a' = (fr a f (l.take n) 0).put o.dst v) (fr a f (l.take n) 0) := hy.qOp hop rfl
    refine wpOp_of_qOp hC (fun a' w' hw' ha' => ⟨v, ha', hw', ?_⟩) hq
    have hto : (l.take n)[i - 0]? = some o := by simp [hi, ho]
    rw [← fr_upd f i v hfi (l.take n) 0 a o hap (Nat.zero_le _) hto, marks_upd f n l.length i v hi]
    have hc2 := cnt_upd f i v hfi n hi
    rw [show cnt (upd f i v) n = k from by omega]
    exact hK
  · intro f W hall hg
    obtain ⟨hC, hH⟩ := hg
    have h0 : cnt f n = 0 := by
      rcases Nat.eq_zero_or_pos (cnt f n) with h0 | h0
      · exact h0
      · obtain ⟨i, hi, hf, _⟩ := cnt_some f n (by omega)
        have := hall i hi
        rw [hf] at this
        cases this
    rw [h0] at hH
    exact hH.2 W hC
/-- A load of many cells, at the walk of the head. -/
theorem wpQuiet_load {P : Program} {ops : Array Oper} {w : World} {K : Act → Prop} {rest : List Oper} {op : Oper} {a : Act} (hgd : op.guard = none) (ty : TypeId) (x : Operand) (ho : op.op = .load ty x)
    (b o : Nat) (hx : a.eval x = .pointer (some ⟨b, o, none⟩)) (cs : List Value) (d : TypeDesc) (hc : ∀ y : Up w, y.1.rangeAt b o cs) (hu : P.underlying ty = some d) (hd : d.isRow = true) (hi : (P.info? ty).map (·.size) = some cs.length)
    (h : wpQuiet P ops (fun w' => ∃ x : Up w, w' = x.1) K rest (a.put op.dst (.agg cs.toArray))) : wpQuiet P ops (fun w' => ∃ x : Up w, w' = x.1) K (op :: rest) a := by
  have hw : Region.wanted op (yielded ops a.tmps) = true := by simp [Region.wanted, hgd]
  unfold wpQuiet
  rw [if_pos hw]
  refine ⟨.agg cs.toArray, ?_, h⟩
  rintro W ⟨y, rfl⟩
  unfold Oper.quietAt execOp
  simp only [ho, hx, Instr.loadAt, Instr.sureAddr, Sem.run_bind, Sem.run_pure, Result.andThen_ok, run_loadVar_mid y.1 b o ty cs d (hc y) hu hd hi]
  exact ⟨rfl, rfl⟩
end Go.Proofs.Ytgfcbmajgaeadaa
