/-
  THE DOCUMENT's All: a list of its own, sorted as it is laid in; what append needs to know of a part of a list.
-/
import Derived.Test.YtmkhojaddedpfaaRefPathSet
import Derived.Test.YtmkhojaddedpfaaTail
import Derived.Deep.Upon
namespace Go.Proofs.Ytmkhojaddedpfaa.rpth
open Go.RowKit
open pth
open Go.Proofs.Ytmkhojaddedpfaa.soft

/-- x is a slice of m paths, whose cells are news. -/
def Piece (W : World) (x : Value) (m : Nat) (news : List Value) : Prop :=
  (x = .slice none 0 0 ∧ m = 0 ∧ news = []) ∨ ∃ ad c, x = .slice (some ad) m c ∧ news.length = m * 3 ∧ (∀ j u, news[j]? = some u → W.cell? (ad.add j) = some u) ∧ ∀ u ∈ news, u.oneCell' = true
theorem cell_lt {w : World} {a : Addr} {v : Value} (h : w.cell? a = some v) : a.block < w.heap.size := by
  rcases Nat.lt_or_ge a.block w.heap.size with hlt | hge
  · exact hlt
  · simp [World.cell?, Array.getElem?_eq_none hge] at h
theorem Piece.below {W W' : World} {x : Value} {m : Nat} {news : List Value} (h : Piece W x m news) (hb : Below W.heap.size W W') : Piece W' x m news := by
  rcases h with h | ⟨ad, c, h1, h2, h3, h4⟩
  · exact .inl h
  · exact .inr ⟨ad, c, h1, h2, fun j u hu => (hb.cell (cell_lt (h3 j u hu))).trans (h3 j u hu), h4⟩
theorem rows_cell (L : List En) : ∀ u ∈ rows L, u.oneCell' = true := by
  intro u hu
  unfold rows at hu
  rw [List.mem_flatMap] at hu
  obtain ⟨e, _, he⟩ := hu
  simp [cells3] at he
  rcases he with rfl | rfl | rfl <;> rfl
theorem rows_drop (L : List En) (k : Nat) : rows (L.drop k) = (rows L).drop (3 * k) := by
  induction k generalizing L with
  | zero => rfl
  | succ k ih =>
    cases L with
    | nil => simp [rows]
    | cons e L =>
      have e1 : rows (e :: L) = cells3 e ++ rows L := by rw [show e :: L = [e] ++ L from rfl, rows_app, rows_one]
      rw [List.drop_succ_cons, ih, e1, show 3 * (k + 1) = 3 * k + (cells3 e).length from rfl, Nat.add_comm, ← List.drop_drop, List.drop_left]
theorem rows_take (L : List En) (k : Nat) : rows (L.take k) = (rows L).take (3 * k) := by
  induction k generalizing L with
  | zero => rfl
  | succ k ih =>
    cases L with
    | nil => simp [rows]
    | cons e L =>
      have e1 : ∀ (y : En) (M : List En), rows (y :: M) = cells3 y ++ rows M := fun y M => by rw [show y :: M = [y] ++ M from rfl, rows_app, rows_one]
      rw [List.take_succ_cons, e1, e1, ih, show 3 * (k + 1) = (cells3 e).length + 3 * k from by show 3 * (k + 1) = 3 + 3 * k; omega, List.take_length_add_append]
theorem piece_lo {W : World} {D n cap k : Nat} {a : Option Addr} {L : List En} (h : W.ownsRow D 42 3 (.slice a n cap) n (rows L)) (hk : k ≤ n) : Piece W (sliced a 0 k cap 3) k (rows (L.take k)) := by
  have hl : 3 * L.length = n * 3 := by have := h.1; rw [rows_len] at this; omega
  by_cases hn : n = 0
  · subst hn
    obtain rfl : k = 0 := by omega
    rcases h.2 with ⟨e, _⟩ | ⟨g, cp, cur, e, _⟩
    · injection e with e1 e2 e3
      subst e1 e3
      exact .inl ⟨rfl, rfl, by simp [rows]⟩
    · injection e with e1 e2 e3
      subst e1
      refine .inr ⟨⟨g, 0, none⟩, cap, ?_, ?_, fun j u hu => ?_, rows_cell _⟩
      · unfold sliced; simp [Addr.add]
      · simp [rows]
      · simp [rows] at hu
  · obtain ⟨g, cp, e, _⟩ := h.form (by omega)
    injection e with e1 e2 e3
    subst e1
    refine .inr ⟨⟨g, 0, none⟩, cap, ?_, ?_, fun j u hu => ?_, rows_cell _⟩
    · unfold sliced; simp [Addr.add]
    · rw [rows_len, List.length_take]; omega
    · have hj : j < 3 * k := by
        have := (List.getElem?_eq_some_iff.1 hu).1
        rw [rows_len, List.length_take] at this
        omega
      rw [rows_take, List.getElem?_take, if_pos hj] at hu
      rw [show (⟨g, 0, none⟩ : Addr).add j = ⟨g, j, none⟩ from by unfold Addr.add; split <;> simp_all]
      rw [h.cellAt j (by omega)]
      exact hu
theorem piece_hi {W : World} {D n cap k : Nat} {a : Option Addr} {L : List En} (h : W.ownsRow D 42 3 (.slice a n cap) n (rows L)) (hk : k ≤ n) (hc : n ≤ cap) : Piece W (sliced a k n cap 3) (n - k) (rows (L.drop k)) := by
  have hl : 3 * L.length = n * 3 := by have := h.1; rw [rows_len] at this; omega
  by_cases hn : n = 0
  · subst hn
    obtain rfl : k = 0 := by omega
    rcases h.2 with ⟨e, _⟩ | ⟨g, cp, cur, e, _⟩
    · injection e with e1 e2 e3
      subst e1 e3
      exact .inl ⟨rfl, rfl, by rw [List.drop_zero, List.eq_nil_of_length_eq_zero (l := L) (by omega)]; rfl⟩
    · injection e with e1 e2 e3
      subst e1
      refine .inr ⟨⟨g, 0, none⟩, cap, ?_, ?_, fun j u hu => ?_, rows_cell _⟩
      · unfold sliced; simp [Addr.add]
      · rw [List.drop_zero, rows_len]; omega
      · have := (List.getElem?_eq_some_iff.1 hu).1
        rw [List.drop_zero, rows_len] at this
        omega
  · obtain ⟨g, cp, e, _⟩ := h.form (by omega)
    injection e with e1 e2 e3
    subst e1
    by_cases hck : cap = k
    · obtain rfl : k = n := by omega
      refine .inr ⟨⟨g, 0, none⟩, cap - k, ?_, ?_, fun j u hu => ?_, rows_cell _⟩
      · unfold sliced; rw [if_pos hck]
      · rw [rows_len, List.length_drop]; omega
      · have := (List.getElem?_eq_some_iff.1 hu).1
        rw [rows_len, List.length_drop] at this
        omega
    · refine .inr ⟨(⟨g, 0, none⟩ : Addr).add (k * 3), cap - k, ?_, ?_, fun j u hu => ?_, rows_cell _⟩
      · unfold sliced; rw [if_neg hck]; rfl
      · rw [rows_len, List.length_drop]; omega
      · have hj : 3 * k + j < n * 3 := by
          have := (List.getElem?_eq_some_iff.1 hu).1
          rw [rows_len, List.length_drop] at this
          omega
        rw [rows_drop, List.getElem?_drop] at hu
        rw [show ((⟨g, 0, none⟩ : Addr).add (k * 3)).add j = ⟨g, 3 * k + j, none⟩ from by rw [Addr.add_mid]; unfold Addr.add; split <;> simp_all <;> omega]
        rw [h.cellAt (3 * k + j) (by omega)]
        exact hu
theorem src_nil (w : World) : Src Try.prog 3 27 (.slice none 0 0) 0 [] w :=
  ⟨.inl ⟨_, Try.underlying27⟩, fun _ => rfl, run_firstCells_none _ _ _ _ _, run_firstCells_none _ _ _ _ _, rfl, fun _ h => nomatch h⟩
/-- Appended to a row of one's own. -/
theorem run_app {w : World} (ty : TypeId) (base : Nat) (v : Value) (n : Nat) (xs : List Value) (hown : w.ownsRow base 42 3 v n xs) (x : Value) (m : Nat) (news : List Value) (hp : Piece w x m news) (hnm : n + m ≤ 1000) (hbase : base ≤ w.heap.size) :
    ∃ v' w', (Builtin.append_ #[27, 27] ty #[v, x]).run Try.prog w = .ok v' w' ∧ w'.ownsRow base 42 3 v' (n + m) (xs ++ news) ∧ w.grownBy w' v.ownBlock := by
  obtain ⟨i0, hi0, hz0, hz1, hz2⟩ := info_parts infoPATH
  rcases hp with ⟨rfl, rfl, rfl⟩ | ⟨ad, c, rfl, h2, h3, h4⟩
  · obtain ⟨a, cap, rfl⟩ := row_slice hown
    have hle : n ≤ cap := by
      rcases hown.2 with ⟨e, _⟩ | ⟨g, cp, cur, e, _, _, hc, _⟩
      · injection e with _ e2 e3; omega
      · injection e with _ e2 e3; omega
    refine ⟨_, w, run_append_nothing w _ _ ty _ i0 Try.underlying27 hi0 a n cap hle _ (by rw [hz1]; exact src_nil w), by rw [Nat.add_zero, List.append_nil]; exact hown, ⟨rfl, rfl, rfl, Nat.le_refl _, fun _ _ _ => rfl⟩⟩
  · obtain ⟨v', w', h5, h6, h7, _, _⟩ := run_append_own_at w base 27 ty 42 i0 _ 3 24 Try.underlying27 hi0 hz0 hz1 hz2 rfl (by omega) v n xs hown ad m c news h2 h3 h4 (by unfold maxLen; omega) (by omega) hbase
    exact ⟨v', w', h5, h6, h7⟩
/-- Appended to a row of one path, which is full. -/
theorem run_app_one {w : World} (ty : TypeId) (g : Nat) (x : En) (hg : w.heap[g]? = some (.cells (cells3 x).toArray 42)) (q : Value) (m : Nat) (news : List Value) (hp : Piece w q m news) (hm : m ≤ 1000) :
    ∃ v' w', (Builtin.append_ #[27, 27] ty #[.slice (some ⟨g, 0, none⟩) 1 1, q]).run Try.prog w = .ok v' w' ∧ Piece w' v' (1 + m) (cells3 x ++ news) ∧ Below w.heap.size w w' := by
  obtain ⟨i0, hi0, hz0, hz1, hz2⟩ := info_parts infoPATH
  have hc1 : ∀ u ∈ cells3 x, u.oneCell' = true := by simp [cells3, Value.oneCell']
  have hc0 := World.news_of_block hg
  rcases hp with ⟨rfl, rfl, rfl⟩ | ⟨ad, c, rfl, h2, h3, h4⟩
  · refine ⟨_, w, run_append_nothing w _ _ ty _ i0 Try.underlying27 hi0 _ 1 1 (Nat.le_refl _) _ (by rw [hz1]; exact src_nil w), .inr ⟨_, 1, rfl, rfl, by rw [List.append_nil]; exact hc0, by rw [List.append_nil]; exact hc1⟩, Below.refl _ _⟩
  · by_cases h0 : m = 0
    · subst h0
      obtain rfl : news = [] := List.eq_nil_of_length_eq_zero (by omega)
      refine ⟨_, w, run_append_nothing w _ _ ty _ i0 Try.underlying27 hi0 _ 1 1 (Nat.le_refl _) _ (Src.ofSlice w Try.underlying27 ad 0 c [] (by simp) (by simp) (by simp)), .inr ⟨_, 1, rfl, rfl, by rw [List.append_nil]; exact hc0, by rw [List.append_nil]; exact hc1⟩, Below.refl _ _⟩
    · have hrun := run_append_grow w 27 ty 42 i0 _ Try.underlying27 hi0 hz0 ⟨g, 0, none⟩ 1 1 (cells3 x) (by rw [hz1]; rfl) hc0 ad m c news (by rw [hz1]; exact h2) h3 (by omega) (by omega) (growslice_fits (by omega) (by rw [hz2]; omega))
      refine ⟨_, _, hrun, .inr ⟨_, _, rfl, by simp [cells3, h2]; omega, fun j u hu => ?_, fun u hu => (List.mem_append.1 hu).elim (hc1 u) (h4 u)⟩, ((Below.refl _ _).drew).alloc (Nat.le_refl _) _⟩
      have hb := heap_alloc_new w.drew (.cells ((cells3 x).toArray ++ news.toArray ++ Builtin.zeroCells (Value.cells (.agg #[.int .u32 0, .int .i64 0, .int .i64 0])) (grownCap w (1 + m) 1 42 - (1 + m))) 42)
      refine World.news_of_block hb j u ?_
      rw [Array.toList_append, Array.toList_append, List.getElem?_append_left (by simpa using (List.getElem?_eq_some_iff.1 hu).1)]
      exact hu
/-- At the operation, its run known. -/
theorem wpList_app {ops : Array Oper} {rest : List Oper} {o : Oper} {a : Act} {w : World} {Q : Exit → Act → World → Prop} (hgd : o.guard = none) (s x : Operand)
    (ho : o.op = .call { callee := .builtin .append, args := #[s, x], argTypes := #[27, 27] }) (v q v' : Value) (w' : World) (hs : a.eval s = v) (hx : a.eval x = q)
    (hr : (Builtin.append_ #[27, 27] o.type #[v, q]).run Try.prog w = .ok v' w') (h : wpList Try.prog ops Q rest (a.put o.dst v') w') : wpList Try.prog ops Q (o :: rest) a w := by
  refine wpList_plain hgd fun K hK => ?_
  unfold Oper.wp execOp
  simp only [ho, resolve, invoke, builtin, Sem.run_bind, Sem.run_pure, Result.andThen_ok, List.map_toArray, List.map_cons, List.map_nil, hs, hx, hr]
  exact hK _ _ h
set_option maxHeartbeats 1600000 in
theorem Copy_any (x : Value) (m : Nat) (news : List Value) (hm : m ≤ 1000) (C : Nat) (w : World) (hC : C ≤ w.heap.size) (hp : Piece w x m news) :
    Calls Try.prog 27 #[x] w fun e w' => ∃ v, e = .returned v ∧ w'.ownsRow C 42 3 v m news ∧ Below w.heap.size w w' := by
  obtain ⟨v', w', h1, h2, h3⟩ := run_app (w := w) 27 C (.slice none 0 0) 0 [] (World.ownsRow_nil _ _ _ _) x m news hp (by omega) hC
  have hb : Below w.heap.size w w' := ⟨h3.os, h3.tape, h3.output, h3.size, fun k hk => h3.block k hk (by simp [Value.ownBlock])⟩
  rw [Nat.zero_add, List.nil_append] at h2
  have HO : Hid (w'.ownsRow C 42 3 v' m news) := h2
  clear h2 h3
  obtain ⟨a', c', rfl⟩ := row_slice HO.out
  have hx : ∃ a c, x = .slice a m c := by
    rcases hp with ⟨e, e2, _⟩ | ⟨ad, c, e, _⟩
    · subst e2; exact ⟨_, _, e⟩
    · exact ⟨_, _, e⟩
  obtain ⟨a, c, rfl⟩ := hx
  clear hp
  go_enter Try.func27, Try.ntmps27
  go_wp2_with (at_builtin; refine wpList_app rfl _ _ rfl _ _ _ _ rfl rfl h1 ?_)
  go_ret
  exact ⟨_, rfl, HO.out, hb⟩
/-- Laid in behind all that are smaller. -/
theorem ins_split {x : En} : ∀ (M : List En) (k : Nat), (∀ f ∈ M, ¬ same f x) → k ≤ M.length → (∀ j (hj : j < M.length), j < k → lt M[j] x) → (∀ hk : k < M.length, ¬ lt M[k] x) → M.Pairwise lt → ins x M = M.take k ++ x :: M.drop k := by
  intro M
  induction M with
  | nil => intro k _ hk _ _ _; obtain rfl : k = 0 := by simpa using hk
           rfl
  | cons f M ih =>
    intro k hs hk ha hb hM
    cases k with
    | zero =>
      have h1 : ¬ lt f x := hb (by simp)
      have h2 : ¬ same f x := hs f (by simp)
      have h3 : lt x f := by rcases lt_or f x with q | q | q; exact absurd q h1; exact absurd q h2; exact q
      unfold ins
      rw [if_pos h3]
      rfl
    | succ k =>
      have h1 : lt f x := ha 0 (by simp) (by omega)
      unfold ins
      rw [if_neg (lt_asym h1), if_pos h1, ih k (fun g hg => hs g (by simp [hg])) (by simpa using hk) (fun j hj hjk => by
        have := ha (j + 1) (by simpa using hj) (by omega)
        simpa using this) (fun hk' => by
        have := hb (by simpa using hk')
        simpa using this) (List.pairwise_cons.1 hM).2]
      rfl
def srt (R : List En) : List En := R.foldl (fun o p => ins p o) []
theorem srt_take (R : List En) (k : Nat) (hk : k < R.length) : srt (R.take (k + 1)) = ins R[k] (srt (R.take k)) := by
  unfold srt
  rw [List.take_succ_eq_append_getElem hk, List.foldl_append]
  rfl
theorem srt_facts {R L : List En} (h : Rel R L) (k : Nat) (hk : k ≤ R.length) : (srt (R.take k)).Pairwise lt ∧ (srt (R.take k)).length = k ∧ ∀ hk' : k < R.length, ∀ f ∈ srt (R.take k), ¬ same f R[k] := by
  obtain ⟨h1, h2, h3⟩ := sort_spec (R.take k) [] (h.once.sublist (List.take_sublist k R)) List.Pairwise.nil (fun _ _ _ h => (nomatch h))
  refine ⟨h1, ?_, fun hk' f hf => ?_⟩
  · unfold srt
    rw [h3]; simp; omega
  · rcases (h2 f).1 hf with q | q
    · cases q
    · obtain ⟨i, hi, rfl⟩ := List.getElem_of_mem q
      have hi' : i < k := by rw [List.length_take] at hi; omega
      rw [List.getElem_take]
      exact List.pairwise_iff_getElem.1 h.once i k (by omega) hk' hi'
def allR (D : Nat) (v slo shi : Value) (j m : Nat) (XC xl xh : List Value) : Nat → Value → World → Prop
  | 0, u, _ => u = v
  | 1, u, _ => u = .int .i64 (j : Int)
  | 2, u, _ => u = slo
  | 3, u, W => W.ownsRow D 42 3 u j xl
  | 4, u, _ => u = .agg XC.toArray
  | 5, u, W => ∃ g, u = .slice (some ⟨g, 0, none⟩) 1 1 ∧ W.heap[g]? = some (.cells XC.toArray 42)
  | 6, u, _ => u = v
  | 7, u, _ => u = .int .i64 (j : Int)
  | 8, u, _ => u = shi
  | 9, u, W => Piece W u (1 + m) (XC ++ xh)
  | _, _, _ => True
theorem allR_stable (D : Nat) (v slo shi : Value) (j m : Nat) (XC xl xh : List Value) : Stable (allR D v slo shi j m XC xl xh) := by
  intro i u W W' hr hb
  unfold allR at hr ⊢
  split at hr <;> try exact hr
  · exact row_below hr hb (fun q hq => (hr.lt q hq).2)
  · obtain ⟨g, e, hg⟩ := hr
    refine ⟨g, e, (hb.block g ?_).trans hg⟩
    rcases Nat.lt_or_ge g W.heap.size with hlt | hge
    · exact hlt
    · rw [Array.getElem?_eq_none hge] at hg; cases hg
  · exact hr.below hb
theorem sizeP (W : World) : (sizeOf (Try.prog.elem 27)).run Try.prog W = .ok 3 W := by
  have hi : (Try.prog.info? 42).map (fun i => i.size) = some 3 := by kernel_rfl
  obtain ⟨i0, hi0, hs⟩ := Option.map_eq_some_iff.1 hi
  rw [show Try.prog.elem 27 = 42 from by kernel_rfl]
  simp [sizeOf, typeInfo, hi0, hs]
theorem slice_lo (W : World) (a : Option Addr) (k cap j : Nat) (hj : j ≤ k) (hc : k ≤ cap) : (Instr.sliceAt 27 (.slice a k cap) none (some (.int .i64 (j : Int))) none).run Try.prog W = .ok (sliced a 0 j cap 3) W := by
  rw [run_sliceAt_slice W 27 _ _ _ _ Try.underlying27, run_slice_h W 27 a k cap Try.underlying27 .i64 (j : Int) (by omega) (by omega), sizeP, Result.andThen_ok, Int.toNat_natCast]
theorem slice_hi (W : World) (a : Option Addr) (k cap j : Nat) (hj : j ≤ k) : (Instr.sliceAt 27 (.slice a k cap) (some (.int .i64 (j : Int))) none none).run Try.prog W = .ok (sliced a j k cap 3) W := by
  rw [run_sliceAt_slice W 27 _ _ _ _ Try.underlying27, run_slice_l W 27 a k cap Try.underlying27 .i64 (j : Int) (by omega) (by omega), sizeP, Result.andThen_ok, Int.toNat_natCast]
set_option maxRecDepth 100000 in
set_option maxHeartbeats 6400000 in
theorem All_any (b : Nat) (v : Value) (R L : List En) (hrel : Rel R L) (hok : Ok L) (hL : L.length ≤ 64) (w : World) (hT : RTab w b 0 v R) :
    Calls Try.prog 17 #[.pointer (some ⟨b, 0, none⟩)] w fun e w' => ∃ v', e = .returned v' ∧ w'.ownsRow w.heap.size 42 3 v' L.length (rows L) ∧ Below w.heap.size w w' := by
  obtain ⟨av, cv, rfl⟩ := row_slice hT.own
  have hlen := hrel.len hok
  have hsort : srt (R.take R.length) = L := by rw [List.take_of_length_le (Nat.le_refl _)]; exact hrel.sort hok
  obtain ⟨D, hD⟩ : ∃ D, w.heap.size = D := ⟨_, rfl⟩
  have c0 := hT.blk.cell 0 _ rfl
  have HO : Hid (w.ownsRow 0 42 3 (.slice av R.length cv) R.length (rows R)) := hT.own
  have HF : Hid (∀ k, k ≤ R.length → (srt (R.take k)).Pairwise lt ∧ (srt (R.take k)).length = k ∧ ∀ hk' : k < R.length, ∀ f ∈ srt (R.take k), ¬ same f R[k]) := fun k hk => srt_facts hrel k hk
  have HS : Hid (srt (R.take R.length) = L) := hsort
  have HW : Hid (D ≤ w.heap.size) := by show _ ≤ _; omega
  have hX0 : Below D w w := Below.refl _ _
  have l1 : R.length ≤ 64 := by omega
  rw [← hlen, hD]
  clear hT hrel hok hsort hlen hL
  go_enter Try.func17, Try.ntmps17
  go_wp2
  go_loopw [3, 12] (fun r i wr => ∃ k v, k ≤ R.length ∧ v = r ∧ i = .int .i64 (k : Int) ∧ wr.ownsRow D 42 3 v k (rows (srt (R.take k))) ∧ Below D w wr) (fun _ i _ => R.length - (intOf i).toNat)
  case atStart => exact ⟨0, _, Nat.zero_le _, rfl, rfl, World.ownsRow_nil _ _ _ _, hX0⟩
  case round =>
    clear hX0
    obtain ⟨k, v, hk, rfl, rfl, hown, hX⟩ := hrel
    have k0 : (0 : Int) ≤ (k : Int) := by omega
    have k1 : (k : Int) ≤ 64 := by omega
    have hCr : D ≤ wr.heap.size := by have := hX.size; omega
    obtain ⟨a, cap, rfl⟩ := row_slice hown
    by_cases hlt : k < R.length
    · have d0 : decide ((k : Int) < (R.length : Int)) = true := decide_eq_true (by omega)
      obtain ⟨g, o, hix, hg, _, a1, a2, a3, _⟩ := row_at HO.out rfl k hlt hlt
      have hgD : g < D := by have := (HO.out.lt g hg).2; omega
      replace a1 := (hX.cell (p := ⟨g, o, none⟩) hgD).trans a1
      replace a2 := (hX.cell (p := ⟨g, o + 1, none⟩) hgD).trans a2
      replace a3 := (hX.cell (p := ⟨g, o + 2, none⟩) hgD).trans a3
      obtain ⟨f1, f2, f3⟩ := HF.out k hk
      have f3 := f3 hlt
      have HN : Hid (srt (R.take (k + 1)) = ins R[k] (srt (R.take k))) := srt_take R k hlt
      generalize srt (R.take k) = M at *
      generalize R[k] = x at *
      obtain ⟨E, hE⟩ : ∃ E, wr.heap.size = E := ⟨_, rfl⟩
      have hBx := Blk.new wr 42 (cells3 x) _ rfl
      rw [hE] at hBx
      have hX1 : Below D w (wr.alloc (.cells (cells3 x).toArray 42)) := hX.alloc hCr _
      have hO1 : (wr.alloc (.cells (cells3 x).toArray 42)).ownsRow D 42 3 (.slice a k cap) k (rows M) := hown.alloc _
      have hs1 : (wr.alloc (.cells (cells3 x).toArray 42)).heap.size = E + 1 := by simp [hE]
      obtain ⟨XC, hXC⟩ : ∃ XC, cells3 x = XC := ⟨_, rfl⟩
      have HIn : Hid (∀ j, j ≤ k → (∀ i (hi : i < M.length), i < j → lt M[i] x) → (∀ hj : j < M.length, ¬ lt M[j] x) → rows (srt (R.take (k + 1))) = rows (M.take j) ++ (XC ++ rows (M.drop j))) := fun j hj h1 h2 => by
        rw [HN.out, ins_split M j f3 (by omega) h1 h2 f1, rows_app, ← hXC, show x :: M.drop j = [x] ++ M.drop j from rfl, rows_app, rows_one]
      have HM : Hid (M.length = k) := f2
      obtain ⟨x1, x2, x3⟩ := x
      have HXC : Hid (XC = [.int .u32 (x1 : Int), .int .i64 (x2 : Int), .int .i64 (x3 : Int)]) := hXC.symm
      clear f1 f2 f3 HN hown hX hg hgD hXC
      simp only at a1 a2 a3
      simp only [cells3] at hBx hX1 hO1 hs1
      go_wp2
      obtain ⟨w1, hw1⟩ : ∃ w1, w1 = wr.alloc (.cells #[.int .u32 (x1 : Int), .int .i64 (x2 : Int), .int .i64 (x3 : Int)] 42) := ⟨_, rfl⟩
      rw [show wr.alloc (.cells [Value.int .u32 (x1 : Int), .int .i64 (x2 : Int), .int .i64 (x3 : Int)].toArray 42) = w1 from hw1.symm] at hBx hX1 hO1 hs1
      rw [← hw1]
      rw [← HXC.out] at hBx
      clear hw1
      have hX2 : Below (E + 1) w1 w1 := Below.refl _ _
      have b0 := hBx.cell 0 _ (by rw [HXC.out]; rfl)
      have b1 := hBx.cell 1 _ (by rw [HXC.out]; rfl)
      have HB : Hid (Blk w1 E 42 XC) := hBx
      have HO1 : Hid (w1.ownsRow D 42 3 (.slice a k cap) k (rows M)) := hO1
      have HX1 : Hid (Below D w w1) := hX1
      have HS1 : Hid (w1.heap.size = E + 1) := hs1
      clear hBx hO1 hX1 hs1 a1 a2 a3 hCr hE
      go_loopw [6] (fun i wr => ∃ j, j ≤ k ∧ i = .int .i64 (j : Int) ∧ Hid (∀ i (hi : i < M.length), i < j → lt M[i] (x1, x2, x3)) ∧ Below (E + 1) w1 wr) (fun i _ => k - (intOf i).toNat)
      case atStart => exact ⟨0, Nat.zero_le _, rfl, fun i _ h => absurd h (by omega), hX2⟩
      case round =>
        clear hX2
        obtain ⟨j, hj, rfl, HJ, hX⟩ := hrel
        have j0 : (0 : Int) ≤ (j : Int) := by omega
        have j1 : (j : Int) ≤ 64 := by omega
        replace b0 := (hX.cell (p := ⟨E, 0, none⟩) (Nat.lt_succ_self E)).trans b0
        replace b1 := (hX.cell (p := ⟨E, 1, none⟩) (Nat.lt_succ_self E)).trans b1
        have hMl := HM.out
        by_cases hin : ∃ (h1 : j < k), lt (M[j]'(by omega)) (x1, x2, x3)
        · obtain ⟨hjk, hl⟩ := hin
          have d1 : decide ((j : Int) < (k : Int)) = true := decide_eq_true (by omega)
          obtain ⟨g1, o1, hix1, hg1, _, m1, m2, m3, _⟩ := row_at HO1.out hMl j hjk (by omega)
          have hgD1 : g1 < E + 1 := by have := (HO1.out.lt g1 hg1).2; have := HS1.out; omega
          replace m1 := (hX.cell (p := ⟨g1, o1, none⟩) hgD1).trans m1
          replace m2 := (hX.cell (p := ⟨g1, o1 + 1, none⟩) hgD1).trans m2
          have HJ2 : Hid (∀ i (hi : i < M.length), i < j + 1 → lt M[i] (x1, x2, x3)) := fun i hi h => by
            by_cases c : i = j
            · subst c; exact hl
            · exact HJ.out i hi (by omega)
          generalize M[j]'(by omega) = y at *
          obtain ⟨y1, y2, y3⟩ := y
          clear m3 hg1 hgD1 hMl HJ
          simp only [lt] at hl
          simp only at m1 m2
          rcases hl with hl | ⟨hl1, hl2⟩
          · have u1 : decide ((y1 : Int) < (x1 : Int)) = true := decide_eq_true (by omega)
            go_wp2
            go_quiet (fail)
            go_wp2
            go_roundw
            case rel => exact ⟨j + 1, by omega, by go_num, HJ2, hX.trans (Go.Joins.below_draws (E + 1) _ _)⟩
            case measure => simp [intOf]; omega
          · subst hl1
            have u1 : decide ((y1 : Int) < (y1 : Int)) = false := decide_eq_false (by omega)
            have u2 : ((y1 : Int) == (y1 : Int)) = true := by simp
            have u3 : decide ((y2 : Int) < (x2 : Int)) = true := decide_eq_true (by omega)
            go_wp2
            go_quiet (fail)
            go_wp2
            go_roundw
            case rel => exact ⟨j + 1, by omega, by go_num, HJ2, hX.trans (Go.Joins.below_draws (E + 1) _ _)⟩
            case measure => simp [intOf]; omega
        · have HI : Hid (rows (srt (R.take (k + 1))) = rows (M.take j) ++ (XC ++ rows (M.drop j))) := HIn.out j hj HJ.out (fun hj' hl => hin ⟨by omega, hl⟩)
          have h3 := hin
          have hways : j = k ∨ ∃ (h1 : j < k), ((x1 < (M[j]'(by omega)).1 ∨ ((M[j]'(by omega)).1 = x1 ∧ x2 ≤ (M[j]'(by omega)).2.1))) := by
            by_cases c : j = k
            · exact .inl c
            · refine .inr ⟨by omega, ?_⟩
              by_cases c2 : x1 < (M[j]'(by omega)).1
              · exact .inl c2
              · have : ¬ lt (M[j]'(by omega)) (x1, x2, x3) := fun q => hin ⟨by omega, q⟩
                unfold lt at this
                simp only at this
                omega
          have hOw : Hid (wr.ownsRow D 42 3 (.slice a k cap) k (rows M)) := row_below HO1.out hX (fun q hq => by have := (HO1.out.lt q hq).2; have := HS1.out; omega)
          have hBx : Hid (Blk wr E 42 XC) := HB.out.below hX (Nat.lt_succ_self E)
          have hXw : Hid (Below D w wr) := HX1.out.trans (hX.mono (by have := HX1.out.size; have := HS1.out; omega))
          have hcap : k ≤ cap := by
            rcases HO1.out.2 with ⟨e, _⟩ | ⟨g, cp, cur, e, _, _, hc, _⟩
            · injection e with _ e2 e3; omega
            · injection e with _ e2 e3; omega
          clear hin h3 HJ HIn
          rcases hways with hjk | ⟨hjk, hl | ⟨hl1, hl2⟩⟩
          case' neg.inl =>
            have d1 : decide ((j : Int) < (k : Int)) = false := decide_eq_false (by omega)
            have d1n : ¬ j < k := by omega
            clear hjk
            go_wp2
            go_quiet (fail)
            go_wp2
          case' neg.inr.inl =>
            have d1 : decide ((j : Int) < (k : Int)) = true := decide_eq_true (by omega)
            obtain ⟨g1, o1, hix1, hg1, _, m1, m2, m3, _⟩ := row_at hOw.out hMl j hjk (by omega)
            generalize M[j]'(by omega) = y at *
            obtain ⟨y1, y2, y3⟩ := y
            simp only at m1 m2 hl
            clear m3 hg1 hMl
            have u1 : decide ((y1 : Int) < (x1 : Int)) = false := decide_eq_false (by omega)
            have u2 : ((y1 : Int) == (x1 : Int)) = false := by rw [beq_eq_false_iff_ne]; omega
            have u3 : decide ((y1 : Int) = (x1 : Int)) = false := decide_eq_false (by omega)
            have u4 : ¬ y1 < x1 := by omega
            have u5 : ¬ y1 = x1 := by omega
            clear hl
            go_wp2
            go_quiet (fail)
            go_wp2
          case' neg.inr.inr =>
            have d1 : decide ((j : Int) < (k : Int)) = true := decide_eq_true (by omega)
            obtain ⟨g1, o1, hix1, hg1, _, m1, m2, m3, _⟩ := row_at hOw.out hMl j hjk (by omega)
            generalize M[j]'(by omega) = y at *
            obtain ⟨y1, y2, y3⟩ := y
            simp only at m1 m2 hl1 hl2
            clear m3 hg1 hMl
            subst hl1
            have u1 : decide ((y1 : Int) < (y1 : Int)) = false := decide_eq_false (by omega)
            have u2 : ((y1 : Int) == (y1 : Int)) = true := by simp
            have u3 : decide ((y2 : Int) < (x2 : Int)) = false := decide_eq_false (by omega)
            have u4 : ¬ y2 < x2 := by omega
            clear hl2
            go_wp2
            go_quiet (fail)
            go_wp2
          all_goals
            have hMl := HM.out
            obtain ⟨z1, z2, z3, hz⟩ : ∃ z1 z2 z3 : Nat, XC = [.int .u32 (z1 : Int), .int .i64 (z2 : Int), .int .i64 (z3 : Int)] := ⟨_, _, _, HXC.out⟩
            obtain ⟨W0, hW0⟩ : ∃ W0, W0 = wr.drewN nq := ⟨_, rfl⟩
            have hB0 : Below wr.heap.size wr W0 := by rw [hW0]; exact Go.Joins.below_draws _ _ _
            rw [← hW0]
            clear hW0
            have o0 := row_below hOw.out hB0 (fun q hq => (hOw.out.lt q hq).2)
            have x0 : Blk W0 E 42 XC := hBx.out.below hB0 hBx.out.lt
            have hDr : D ≤ wr.heap.size := by have := hXw.out.size; omega
            have X0 : Below D w W0 := hXw.out.trans (hB0.mono hDr)
            have hDw : D ≤ W0.heap.size := by have := X0.size; omega
            have p1 := piece_lo o0 hj
            have p2 := piece_hi o0 hj hcap
            have s1 := fun W => slice_lo W a k cap j hj hcap
            have s2 := fun W => slice_hi W a k cap j hj
            obtain ⟨slo, hslo⟩ : ∃ s, sliced a 0 j cap 3 = s := ⟨_, rfl⟩
            obtain ⟨shi, hshi⟩ : ∃ s, sliced a j k cap 3 = s := ⟨_, rfl⟩
            rw [hslo] at p1 s1
            rw [hshi] at p2 s2
            clear hslo hshi
            have hSt := allR_stable D (.slice a k cap) slo shi j (k - j) XC (rows (M.take j)) (rows (M.drop j))
            refine wp_region_told 10 (by kernel_rfl) (by kernel_rfl) (allR D (.slice a k cap) slo shi j (k - j) XC (rows (M.take j)) (rows (M.drop j))) (fun _ => false) ?_ ?_
            · intro f W A hin hout hg i o hi ho hpre
              have ef : ∀ f, A.eval (.func f) = .func (.func f) #[] #[] := fun _ => rfl
              match i, hi with
              | 0, _ =>
                obtain rfl := Option.some.inj ho
                have e : A.eval (.tmp 3) = .slice a k cap := hout 3 (by kernel_rfl)
                exact op_value (v := .slice a k cap) (W' := W) rfl rfl (by generalize A.eval = ev at *; simp [go_sem, e]) ⟨_, rfl, hg.value hSt rfl rfl⟩
              | 1, _ =>
                obtain rfl := Option.some.inj ho
                have e : A.eval (.tmp 6) = .int .i64 (j : Int) := hout 6 (by kernel_rfl)
                exact op_value (v := .int .i64 (j : Int)) (W' := W) rfl rfl (by generalize A.eval = ev at *; simp [go_sem, e]) ⟨_, rfl, hg.value hSt rfl rfl⟩
              | 2, _ =>
                obtain rfl := Option.some.inj ho
                obtain ⟨v0, g0, r0⟩ := hg.get (hpre ⟨0, .data⟩ (by simp) rfl)
                have e0 := hin 0 58 v0 g0 (by kernel_rfl) (by simp)
                obtain ⟨v1, g1, r1⟩ := hg.get (hpre ⟨1, .data⟩ (by simp) rfl)
                have e1 := hin 1 59 v1 g1 (by kernel_rfl) (by simp)
                obtain rfl : v0 = .slice a k cap := r0
                obtain rfl : v1 = .int .i64 (j : Int) := r1
                refine op_value (v := slo) (W' := W) rfl rfl ?_ ⟨_, rfl, hg.value hSt rfl rfl⟩
                unfold execOp
                simp only [Option.map_none, Option.map_some, e0, e1, Sem.run_bind, s1 W, Result.andThen_ok, Sem.run_pure]
              | 3, _ =>
                obtain rfl := Option.some.inj ho
                obtain ⟨v2, g2, r2⟩ := hg.get (hpre ⟨2, .data⟩ (by simp) rfl)
                have e2 := hin 2 60 v2 g2 (by kernel_rfl) (by simp)
                obtain rfl : v2 = slo := r2
                refine op_call (g := 27) (args := #[v2]) rfl rfl (by generalize A.eval = ev at *; simp [go_sem, e2, ef]) ?_
                refine (Copy_any v2 j _ (by omega) D W (Nat.le_trans hDw hg.below.size) (p1.below hg.below)).mono ?_
                rintro e W' ⟨r, rfl, hr, hb⟩
                exact ⟨r, rfl, r, rfl, hg.call hSt rfl hb hr⟩
              | 4, _ =>
                obtain rfl := Option.some.inj ho
                have e : A.eval (.tmp 5) = .pointer (some ⟨E, 0, none⟩) := hout 5 (by kernel_rfl)
                exact op_load (v := .agg XC.toArray) rfl rfl rfl e ((x0.below hg.below x0.lt).loadAt (P := Try.prog) 0 XC (by simp) _ Try.underlying42 rfl (by rw [hz]; kernel_rfl)) ⟨_, rfl, hg.value hSt rfl rfl⟩
              | 5, _ =>
                obtain rfl := Option.some.inj ho
                obtain ⟨v4, g4, r4⟩ := hg.get (hpre ⟨4, .data⟩ (by simp) rfl)
                have e4 := hin 4 62 v4 g4 (by kernel_rfl) (by simp)
                obtain rfl : v4 = .agg XC.toArray := r4
                have hnew : (W.alloc (.cells XC.toArray 42)).heap[W.heap.size]? = some (.cells XC.toArray 42) := heap_alloc_new W _
                refine op_value (v := .slice (some ⟨W.heap.size, 0, none⟩) 1 1) (W' := W.alloc (.cells XC.toArray 42)) rfl rfl ?_ ⟨_, rfl, hg.call hSt rfl ((Below.refl _ _).alloc (Nat.le_refl _) _) ⟨_, rfl, hnew⟩⟩
                rw [hz] at e4 ⊢
                generalize A.eval = ev at *
                simp [go_sem, e4]
              | 6, _ =>
                obtain rfl := Option.some.inj ho
                have e : A.eval (.tmp 3) = .slice a k cap := hout 3 (by kernel_rfl)
                exact op_value (v := .slice a k cap) (W' := W) rfl rfl (by generalize A.eval = ev at *; simp [go_sem, e]) ⟨_, rfl, hg.value hSt rfl rfl⟩
              | 7, _ =>
                obtain rfl := Option.some.inj ho
                have e : A.eval (.tmp 6) = .int .i64 (j : Int) := hout 6 (by kernel_rfl)
                exact op_value (v := .int .i64 (j : Int)) (W' := W) rfl rfl (by generalize A.eval = ev at *; simp [go_sem, e]) ⟨_, rfl, hg.value hSt rfl rfl⟩
              | 8, _ =>
                obtain rfl := Option.some.inj ho
                obtain ⟨v0, g0, r0⟩ := hg.get (hpre ⟨6, .data⟩ (by simp) rfl)
                have e0 := hin 6 64 v0 g0 (by kernel_rfl) (by simp)
                obtain ⟨v1, g1, r1⟩ := hg.get (hpre ⟨7, .data⟩ (by simp) rfl)
                have e1 := hin 7 65 v1 g1 (by kernel_rfl) (by simp)
                obtain rfl : v0 = .slice a k cap := r0
                obtain rfl : v1 = .int .i64 (j : Int) := r1
                refine op_value (v := shi) (W' := W) rfl rfl ?_ ⟨_, rfl, hg.value hSt rfl rfl⟩
                unfold execOp
                simp only [Option.map_none, Option.map_some, e0, e1, Sem.run_bind, s2 W, Result.andThen_ok, Sem.run_pure]
              | 9, _ =>
                obtain rfl := Option.some.inj ho
                obtain ⟨v5, g5, r5⟩ := hg.get (hpre ⟨5, .data⟩ (by simp) rfl)
                have e5 := hin 5 63 v5 g5 (by kernel_rfl) (by simp)
                obtain ⟨v8, g8, r8⟩ := hg.get (hpre ⟨8, .data⟩ (by simp) rfl)
                have e8 := hin 8 66 v8 g8 (by kernel_rfl) (by simp)
                obtain ⟨q, rfl, hq⟩ := r5
                obtain rfl : v8 = shi := r8
                obtain ⟨u, W', hr, hpc, hb⟩ := run_app_one 27 q (z1, z2, z3) (by rw [hq, hz]; rfl) v8 (k - j) _ (p2.below hg.below) (by omega)
                refine op_value (v := u) (W' := W') rfl rfl ?_ ⟨_, rfl, hg.call hSt rfl hb ?_⟩
                · unfold execOp
                  simp only [resolve, invoke, builtin, Sem.run_bind, Sem.run_pure, Result.andThen_ok, List.map_toArray, List.map_cons, List.map_nil, e5, e8, hr]
                · show Piece _ _ _ _
                  rw [hz]
                  exact hpc
              | (j + 10), h => exact absurd h (by omega)
            · intro f W hall hg
              obtain ⟨v0, g0, r0⟩ := hg.get (hall 0 (by decide))
              obtain ⟨v1, g1, r1⟩ := hg.get (hall 1 (by decide))
              obtain ⟨v2, g2, r2⟩ := hg.get (hall 2 (by decide))
              obtain ⟨v3, g3, r3⟩ := hg.get (hall 3 (by decide))
              obtain ⟨v4, g4, r4⟩ := hg.get (hall 4 (by decide))
              obtain ⟨v5, g5, r5⟩ := hg.get (hall 5 (by decide))
              obtain ⟨v6, g6, r6⟩ := hg.get (hall 6 (by decide))
              obtain ⟨v7, g7, r7⟩ := hg.get (hall 7 (by decide))
              obtain ⟨v8, g8, r8⟩ := hg.get (hall 8 (by decide))
              obtain ⟨v9, g9, r9⟩ := hg.get (hall 9 (by decide))
              obtain ⟨u, W', hr, hown', hgrow⟩ := run_app 27 D v3 j (rows (M.take j)) r3 v9 (1 + (k - j)) _ r9 (by omega) (Nat.le_trans hDw hg.below.size)
              have HR : Hid (W'.ownsRow D 42 3 u (k + 1) (rows (srt (R.take (k + 1)))) ∧ Below D w W') := by
                refine ⟨?_, (X0.trans (hg.below.mono hDw)).grown hgrow (Nat.le_trans hDw hg.below.size) (fun i hi => (r3.lt i hi).1)⟩
                rw [HI.out]
                rw [show j + (1 + (k - j)) = k + 1 from by omega] at hown'
                exact hown'
              simp only [List.drop_succ_cons, List.drop_zero, List.take_succ_cons, List.take_zero, fr, g0, g1, g2, g3, g4, g5, g6, g7, g8, g9, Act.put, List.setIfInBounds_toArray, List.set_cons_zero, List.set_cons_succ]
              clear r0 r1 r2 r3 r4 r5 r6 r7 r8 r9 g0 g1 g2 g3 g4 g5 g6 g7 g8 g9 hall hg hSt hown' hgrow s1 s2 p1 p2 o0 x0 X0 hB0 hz
              refine wpList_app rfl _ _ rfl _ _ _ _ rfl rfl hr ?_
              simp only [Act.put, List.setIfInBounds_toArray, List.set_cons_zero, List.set_cons_succ]
              clear hr
              go_wp2
              go_roundw
              case rel => exact ⟨k + 1, u, by omega, rfl, by go_num, HR.out.1, HR.out.2⟩
              case measure => simp [intOf]; omega
    · obtain rfl : k = R.length := by omega
      have d0 : decide ((R.length : Int) < (R.length : Int)) = false := decide_eq_false (by omega)
      have HO2 : Hid (wr.ownsRow D 42 3 (.slice a R.length cap) R.length (rows (srt (R.take R.length)))) := hown
      clear hown
      go_wp2
      go_ret
      exact ⟨_, rfl, by have := HO2.out; rwa [HS.out] at this, hX⟩
end Go.Proofs.Ytmkhojaddedpfaa.rpth
