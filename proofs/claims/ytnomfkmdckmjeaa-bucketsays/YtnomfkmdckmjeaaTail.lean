/-
  REGIONS THAT DRAW THEIR ORDER: n operations that only read or call (callees make new memory at most), then others one after the other: one walk, in the text's order.
-/
import Derived.Test.YtnomfkmdckmjeaaSoft
import Derived.Test.YtnomfkmdckmjeaaUp
import Derived.BigQuiet
namespace Go.Proofs.Ytnomfkmdckmjeaa
open Go.RowKit
open Go.Proofs.Ytnomfkmdckmjeaa.soft

/-- No operation of these is guarded. -/
def bareB (l : List Oper) : Bool := l.all fun o => o.guard.isNone
theorem bare_spec {l : List Oper} (h : bareB l = true) {i : Nat} {o : Oper} (ho : l[i]? = some o) : o.guard = none := by
  have := List.all_eq_true.1 h o (List.mem_of_getElem? ho)
  simpa using this
/-- What an operation without a guard yields does not hang on the region it stands in. -/
theorem yields_move {P : Program} {ops ops' : Array Oper} {C : World → Prop} {o : Oper} {v : Value} {a : Act} (hg : o.guard = none) (h : YieldsIn P ops C o v a) : YieldsIn P ops' C o v a := by
  have e : ∀ T : Array Oper, Region.wanted o (yielded T a.tmps) = true := fun T => by simp [Region.wanted, hg]
  rcases h with h | h
  · exact .inl ⟨e ops', h.2⟩
  · rw [e ops] at h; exact absurd h.1 (by decide)
def marks (f : Nat → Option Value) (n m : Nat) : Array Bool := ((List.range m).map fun i => decide (i < n) && (f i).isSome).toArray
theorem marks_get (f : Nat → Option Value) (n m i : Nat) (d : Bool) (hi : i < m) : (marks f n m).getD i d = (decide (i < n) && (f i).isSome) := by
  simp [marks, hi]
theorem marks_upd (f : Nat → Option Value) (n m i : Nat) (v : Value) (hi : i < n) : marks (upd f i v) n m = (marks f n m).setIfInBounds i true := by
  apply Array.ext
  · simp [marks]
  · intro j h1 h2
    have hj : j < m := by simpa [marks] using h1
    rw [Array.getElem_setIfInBounds (by simpa [marks] using hj)]
    by_cases e : i = j
    · subst e; simp [marks, hi, upd_same]
    · rw [if_neg e]; simp [marks, upd_other f v (Ne.symm e)]
/-- THE LAW. -/
theorem wp_region_tail {P : Program} {id : Nat} {Q : Exit → Act → World → Prop} {a : Act} {w : World} {l : List Oper} (n : Nat) (hm : P.follows .mixedOrders = true)
    (hB : (softB l n && bareB l && Region.lexB .any (l.take n).toArray) = true)
    (h : wpQuiet P (l.take n).toArray (fun w' => ∃ x : Up w, w' = x.1) (fun a' => ∀ w', (∃ x : Up w, w' = x.1) → wpList P l.toArray Q (l.drop n) a' w') (l.take n) a) : (Code.region id l.toArray true).wp P Q a w := by
  simp only [Bool.and_eq_true] at hB
  obtain ⟨⟨hB1, hB2⟩, hB3⟩ := hB
  have hB1' := hB1
  simp only [softB, Bool.and_eq_true, decide_eq_true_eq] at hB1'
  obtain ⟨⟨⟨⟨⟨hn, _⟩, _⟩, hah⟩, hap⟩, _⟩ := hB1'
  simp only [Region.lexB, Bool.and_eq_true] at hB3
  have hlen : (l.take n).length = n := by simp; omega
  have H0 := wpAnyQ_lex (md := .any) (ops := (l.take n).toArray) hB3.1 (l.take n) 0 (Array.replicate n false) a (fun j => by simp) (by
    have := hB3.2
    rw [List.size_toArray, hlen] at this
    rw [hlen]
    exact this) h
  rw [hlen] at H0
  have hfr : ∀ (L : List Oper) (k : Nat), fr a (fun _ => none) L k = a := by
    intro L
    induction L with
    | nil => intro k; rfl
    | cons o L ihL => intro k; exact ihL (k + 1)
  have hm0 : marks (fun _ => none) n n = Array.replicate n false := by
    apply Array.ext
    · simp [marks]
    · intro i h1 h2; simp [marks]
  refine wp_region_soft n hm hB1 (fun f W => (∃ x : Up w, W = x.1) ∧ wpAnyQ P .any (l.take n).toArray (fun w' => ∃ x : Up w, w' = x.1) (fun a' => ∀ w', (∃ x : Up w, w' = x.1) → wpList P l.toArray Q (l.drop n) a' w') (cnt f n) (marks f n n) (fr a f (l.take n) 0)) ?_ ?_ ?_
  · refine ⟨⟨⟨_, up_drawn w⟩, rfl⟩, ?_⟩
    rw [cnt_none, hm0, hfr]
    exact H0
  · intro i o hi ho f W hfi hpre hg
    obtain ⟨hC, hH⟩ := hg
    have hc := cnt_upd f i undef hfi n hi
    obtain ⟨k, hk⟩ : ∃ k, cnt f n = k + 1 := ⟨_, hc⟩
    rw [hk] at hH
    have hto : (l.take n)[i]? = some o := by rw [List.getElem?_take, if_pos hi]; exact ho
    have hop : (l.take n).toArray[i]? = some o := by rw [List.getElem?_toArray]; exact hto
    have hr : i ∈ Region.ready .any (l.take n).toArray (marks f n n) := mem_ready.2 ⟨by rw [marks_get _ _ _ _ _ hi, hfi]; simp, o, hop, fun e he hb => by
      have h1 := ahead_spec hah hi ho e he hb
      rw [marks_get _ _ _ _ _ (by omega), hpre e he hb]
      simp; omega⟩
    obtain ⟨v, hy, hK⟩ := yieldsIn_of_qOp hop (hH.2 i hr)
    have hop' : l.toArray[i]? = some o := by rw [List.getElem?_toArray]; exact ho
    have hq : qOp P l.toArray (fun w' => ∃ x : Up w, w' = x.1) i (fun a' => a' = (fr a f (l.take n) 0).put o.dst v) (fr a f (l.take n) 0) := (yields_move (bare_spec hB2 ho) hy).qOp hop' rfl
    refine wpOp_of_qOp hC (fun a' w' hw' ha' => ⟨v, ha', hw', ?_⟩) hq
    rw [← fr_upd f i v hfi (l.take n) 0 a o hap (Nat.zero_le _) hto, marks_upd f n n i v hi]
    have hc2 := cnt_upd f i v hfi n hi
    rw [show cnt (upd f i v) n = k from by omega]
    exact hK
  · intro f W hall hg
    obtain ⟨hC, hH⟩ := hg
    have h0 : cnt f n = 0 := by
      rcases Nat.eq_zero_or_pos (cnt f n) with h0 | h0
      · exact h0
      · obtain ⟨i, hi, hf, _⟩ := cnt_some f n (by omega)
        have := hall i hi
        rw [hf] at this
        cases this
    rw [h0] at hH
    exact hH.2 W hC
/-- A load of many cells, at the walk of the head. -/
theorem wpQuiet_load {P : Program} {ops : Array Oper} {w : World} {K : Act → Prop} {rest : List Oper} {op : Oper} {a : Act} (hgd : op.guard = none) (ty : TypeId) (x : Operand) (ho : op.op = .load ty x)
    (b o : Nat) (hx : a.eval x = .pointer (some ⟨b, o, none⟩)) (cs : List Value) (d : TypeDesc) (hc : ∀ y : Up w, y.1.rangeAt b o cs) (hu : P.underlying ty = some d) (hd : d.isRow = true) (hi : (P.info? ty).map (·.size) = some cs.length)
    (h : wpQuiet P ops (fun w' => ∃ x : Up w, w' = x.1) K rest (a.put op.dst (.agg cs.toArray))) : wpQuiet P ops (fun w' => ∃ x : Up w, w' = x.1) K (op :: rest) a := by
  have hw : Region.wanted op (yielded ops a.tmps) = true := by simp [Region.wanted, hgd]
  unfold wpQuiet
  rw [if_pos hw]
  refine ⟨.agg cs.toArray, ?_, h⟩
  rintro W ⟨y, rfl⟩
  unfold Oper.quietAt execOp
  simp only [ho, hx, Instr.loadAt, Instr.sureAddr, Sem.run_bind, Sem.run_pure, Result.andThen_ok, run_loadVar_mid y.1 b o ty cs d (hc y) hu hd hi]
  exact ⟨rfl, rfl⟩
end Go.Proofs.Ytnomfkmdckmjeaa
