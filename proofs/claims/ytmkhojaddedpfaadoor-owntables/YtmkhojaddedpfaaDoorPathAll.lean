/-
  ALL THAT A TABLE HAS, AND WHAT IS DROPPED (All, Drop).
-/
import Derived.Test.YtmkhojaddedpfaaDoorPathEach
import Derived.Maps.AppendAt
namespace Go.Proofs.YtmkhojaddedpfaaDoor.pth
open Go.RowKit Go.Shelf
open Go.Proofs.YtmkhojaddedpfaaDoor.rng
attribute [local go_sem] Oper.semAt_some

def cells3 (e : En) : List Value := [.int .u32 (e.1 : Int), .int .i64 (e.2.1 : Int), .int .i64 (e.2.2 : Int)]
/-- A list of paths as cells. -/
def rows (L : List En) : List Value := L.flatMap cells3
theorem rows_app (L M : List En) : rows (L ++ M) = rows L ++ rows M := by simp [rows]
theorem rows_one (e : En) : rows [e] = cells3 e := by simp [rows]
theorem rows_len (L : List En) : (rows L).length = L.length * 3 := by
  induction L with
  | nil => rfl
  | cons e L ih => rw [show e :: L = [e] ++ L from rfl, rows_app, List.length_append, ih, rows_one, List.length_append]; simp [cells3]; omega
theorem infoPATH : (Tryd.prog.info? 31).map (fun i => (i.zero, i.size, i.bytes)) = some (some (.agg #[.int .u32 0, .int .i64 0, .int .i64 0]), 3, 24) := by kernel_rfl
theorem Tab.ownFrom {β : Type} (C b : Nat) (L : List En) (B : Nat → Nat → Option Nat) : OwnFrom C (fun (_ : β) W => Tab W b L B) := fun s W W' row hs hg hr =>
  ⟨hs.ok, hs.shape, fun d v k hk => Blk.ownFrom C k _ _ s W W' row (hs.blk d v k hk) hg hr⟩
theorem row_block {W : World} {C e n : Nat} {s : Nat} {v : Value} {xs : List Value} (h : W.ownsRow C e s v n xs) (j : Nat) (hj : v.ownBlock = some j) : ∃ c f, W.heap[j]? = some (.cells c e f) := by
  rcases h.2 with ⟨rfl, _⟩ | ⟨g, cap, cur, rfl, _, hgb, _⟩
  · cases hj
  · cases hj
    exact ⟨_, _, hgb⟩
theorem all_each (b : Nat) (L : List En) (B : Nat → Nat → Option Nat) (ok : Ok L) (hr : B 0 0 = some b) : Gives Tryd.prog 60 13 #[.pointer (some ⟨b, 0, none⟩)] enc L (fun A => Tab A b L B) := by
  have h := each_gives b L B 33 0 0 (by omega)
  rw [hr, ptr_some, show en' (at' L) 33 0 0 = en (at' L) 32 0 0 from rfl, en_all ok] at h
  exact h
set_option maxRecDepth 100000 in
set_option maxHeartbeats 4000000 in
theorem All_any (b : Nat) (L : List En) (B : Nat → Nat → Option Nat) (hL : L.length ≤ 64) (w : World) (hT : Tab w b L B) :
    Calls Tryd.prog 5 #[.pointer (some ⟨b, 0, none⟩)] w fun e w' => ∃ v, e = .returned v ∧ w'.ownsRow w.heap.size 31 3 v L.length (rows L) ∧ Below w.heap.size w w' := by
  refine (callsIn_wide (n := 0)).1 ?_
  have hg := all_each b L B hT.ok hT.shape.root
  have c6 := (hT.blk _ _ _ hT.shape.root).cell 6 _ rfl
  obtain ⟨i0, hi, hz0, hz1, hz2⟩ := info_parts infoPATH
  obtain ⟨w1, hmk, hown, hgrow⟩ := run_makeSlice_owned (P := Tryd.prog) w w.heap.size 25 31 i0 _ 3 Tryd.underlying25 hi hz0 hz1 .i64 .i64 L.length (by omega) (by rw [hz2]; omega) (by unfold maxLen; omega) (Nat.le_refl _)
  have hX1 : Below w.heap.size w w1 := (Below.refl _ w).grown hgrow (Nat.le_refl _) (fun _ e => by cases e)
  have hT1 := hT.below hX1
  obtain ⟨C, hC⟩ : ∃ C, w.heap.size = C := ⟨_, rfl⟩
  rw [hC] at hmk hown hX1 ⊢
  have hsz : C ≤ w1.heap.size := by have := hX1.size; omega
  refine callsIn_of_wp_marks Tryd.func5 rfl trivial ?_
  simp only [Tryd.ntmps5, List.size_toArray, List.length_cons, List.length_nil, Nat.reduceAdd, Nat.reduceSub, Array.replicate_succ, Array.replicate_zero, List.push_toArray, List.append_toArray, List.nil_append, List.cons_append]
  gi_wp2
  obtain ⟨A, hA⟩ : ∃ A, w1.heap.size = A := ⟨_, rfl⟩
  have hb2 : Boxed (w1.alloc (.cells #[.slice (some ⟨C, 0, none⟩) 0 L.length] 25)) A 25 (.slice (some ⟨C, 0, none⟩) 0 L.length) := by rw [← hA]; exact Boxed.new w1 _ _
  have hT2 : Tab (w1.alloc (.cells #[.slice (some ⟨C, 0, none⟩) 0 L.length] 25)) b L B := hT1.below ((Below.refl _ _).alloc (Nat.le_refl _) _)
  have hX2 : Below C w (w1.alloc (.cells #[.slice (some ⟨C, 0, none⟩) 0 L.length] 25)) := hX1.alloc hsz _
  have hown2 := hown.alloc (.cells #[.slice (some ⟨C, 0, none⟩) 0 L.length] 25)
  have hs2 : (w1.alloc (.cells #[.slice (some ⟨C, 0, none⟩) 0 L.length] 25)).heap.size = A + 1 := by simp [hA]
  have hTl : ∀ d v k, B d v = some k → k < C := fun d v k hk => by have := hT.lt hk; omega
  rw [hA]
  clear hmk hown hgrow hX1 hT1 c6 hT
  generalize w1.alloc (.cells #[.slice (some ⟨C, 0, none⟩) 0 L.length] 25) = w2 at *
  refine wp_rangeBox (q := 4) 31 cells3 rfl (enters_of Tryd.func13 (by kernel_rfl) rfl) hg
    (fun pre W => (∃ v, Boxed W A 25 v ∧ W.ownsRow C 31 3 v pre.length (rows pre) ∧ True) ∧ Tab W b L B ∧ Below C w W)
    (OwnFrom.and ((holdsRow_own C A 25 31 3 (fun pre : List En => pre.length) rows (fun _ _ => True)).from _) (OwnFrom.and (Tab.ownFrom _ b L B) (ownFrom_below (by omega) (by omega))))
    (fun s W h => h.2.1) ⟨⟨_, hb2, hown2, trivial⟩, hT2, hX2⟩ ?assign ?body ?done
  case assign =>
    intro l x W K hK
    simp only [enc, cells3, List.setIfInBounds_toArray, List.set_cons_succ, List.set_cons_zero] at hK ⊢
    gi_wp2
    exact hK
  case body =>
    rintro l pre x rest bx W hx ⟨⟨v, hv, hrow, _⟩, hT3, hX3⟩ hs3 hbx hBx
    simp only [enc, List.setIfInBounds_toArray, List.set_cons_succ, List.set_cons_zero]
    have hlen : pre.length < 64 := by
      have := congrArg List.length hx
      simp at this
      omega
    have e0 := hBx.cell 0 _ rfl
    have e1 := hBx.cell 1 _ rfl
    have e2 := hBx.cell 2 _ rfl
    have cv := hv.cell
    have hle : C ≤ W.heap.size := by omega
    gi_wp2_with (gi_at_builtin; refine wpListIn_append_own _ rfl _ _ 25 rfl C 31 i0 _ 3 24 Tryd.underlying25 hi hz0 hz1 hz2 rfl (by decide) _ _ _ rfl (hrow.alloc _) ⟨W.heap.size, 0, none⟩ 1 1 (cells3 x) rfl rfl (World.news_of_block (cs := (cells3 x).toArray) (t := 31) (fr := (0, 0)) (heap_alloc_new W _)) (by simp [cells3, Value.oneCell']) (by unfold maxLen; omega) (by omega) (by simp; omega) ?_; intro v' W4 hown' hgrow' _; obtain ⟨g', cap', rfl⟩ := ownsRow_succ hown'; obtain ⟨hv1, hv2, hr2, hk2, hb4⟩ := hv.appended (by decide) hrow hle (by omega) hown' hgrow'; have hc1 := hv1.cell; have hf1 := hv1.frozen)
    refine ⟨(Keeps.alloc 60 (A + 1) W _).trans ((Keeps.grown hgrow' (fun j hj => ?_)).trans (Keeps.grown (grownBy_setCell' _ A _) (fun j hj => by cases hj; exact .inl (by omega)))), ⟨_, hv2, by rw [rows_app, rows_one]; exact hr2⟩, ?_, hX3.trans hb4⟩
    · obtain ⟨c, f, h⟩ := row_block (hrow.alloc _) j hj
      exact .inr ⟨c, _, f, h, by decide⟩
    · rw [← hx]
      exact hT3.mono fun d v k hk => hb4.block k (hTl d v k hk)
  case done =>
    rintro D W hD ⟨⟨v, hv, hrow, _⟩, hT3, hX3⟩ hd
    have cv := hv.cell
    gi_wp2
    refine ⟨by simp, .inl ⟨_, _, rfl, run_takeDeferred hd, ?_⟩⟩
    exact ⟨_, results_tmp rfl _ _ _, _, rfl, ownsRow_putObj hrow _ hd rfl, hX3.trans (belowK_b (w := w) (by omega) W D _ _ (by omega) hd rfl rfl)⟩
theorem blk_seven {W : World} {b t : Nat} {l : List Value} (h : Blk W b t l) (v0 v1 v2 v3 v4 v5 v6 : Value) (hl : l.length = 7 := by rfl) :
    Blk (((((((W.setCell ⟨b, 0, none⟩ v0).setCell ⟨b, 1, none⟩ v1).setCell ⟨b, 2, none⟩ v2).setCell ⟨b, 3, none⟩ v3).setCell ⟨b, 4, none⟩ v4).setCell ⟨b, 5, none⟩ v5).setCell ⟨b, 6, none⟩ v6) b t [v0, v1, v2, v3, v4, v5, v6] := by
  have h7 := ((((((h.set 0 v0).set 1 v1).set 2 v2).set 3 v3).set 4 v4).set 5 v5).set 6 v6
  match l, hl with
  | [a0, a1, a2, a3, a4, a5, a6], _ => exact h7
/-- What is left where a peer is dropped. -/
def dL (L : List En) (peer : Int) : List En := L.filter fun e => decide ((e.2.2 : Int) ≠ peer)
theorem dL_len (L : List En) (peer : Int) : (dL L peer).length ≤ L.length := List.length_filter_le _ _
theorem dL_app (L M : List En) (peer : Int) : dL (L ++ M) peer = dL L peer ++ dL M peer := by simp [dL]
theorem dL_same {x : En} {peer : Int} (h : (x.2.2 : Int) = peer) : dL [x] peer = [] := by simp [dL, h]
theorem dL_other {x : En} {peer : Int} (h : (x.2.2 : Int) ≠ peer) : dL [x] peer = [x] := by simp [dL, h]
theorem dL_ins {L : List En} (hL : L.Pairwise lt) {pre rest : List En} {x : En} (hx : L = pre ++ x :: rest) {peer : Int} (h : (x.2.2 : Int) ≠ peer) : dL (pre ++ [x]) peer = ins x (dL pre peer) := by
  rw [dL_app, dL_other h, ins_end]
  intro f hf
  rw [hx, List.pairwise_append] at hL
  exact hL.2.2 f (List.mem_filter.1 hf).1 x (by simp)
theorem tyN_ne (d : Nat) : tyN d ≠ 60 := by unfold tyN; split <;> decide
theorem turns_keeps {W W' : World} {b C : Nat} {L : List En} {B : Nat → Nat → Option Nat} {X : Nat → Prop} (hT : Tab W b L B) (h : Turns (OwnB B) X W W') : Keeps 60 C W W' :=
  ⟨h.low.size, (fun k o _ hk ho => (h.same k (Array.getElem?_eq_some_iff.1 hk).1 (fun ⟨d, v, hB⟩ => by
      have := hT.blk d v k hB
      unfold Blk at this
      rw [hk] at this
      cases this
      exact Bool.noConfusion ho)).trans hk),
    (fun k c f _ hk => (h.same k (Array.getElem?_eq_some_iff.1 hk).1 (fun ⟨d, v, hB⟩ => by
      have := hT.blk d v k hB
      unfold Blk at this
      rw [hk] at this
      simp only [Option.some.injEq, Obj.cells.injEq] at this
      exact tyN_ne d this.2.1.symm)).trans hk)⟩
/-- The tree of a table into which another was copied. -/
def moved (B : Nat → Nat → Option Nat) (b : Nat) : Nat → Nat → Option Nat := fun d v => if d = 0 ∧ v = 0 then some b else B d v
theorem Tab.moved {W W' : World} {b l C : Nat} {L : List En} {B : Nat → Nat → Option Nat} (h : Tab W l L B) (hC : ∀ k, OwnB B k → C ≤ k) (hb : b < C) (hw : ∀ k, k ≠ b → W'.heap[k]? = W.heap[k]?)
    (h0 : Blk W' b 49 (cellsN (at' L 0 0) 0 0 (B 1 0) (B 1 1) ++ [.int .i64 (L.length : Int)])) : Tab W' b L (moved B b) := by
  have m0 : pth.moved B b 0 0 = some b := by unfold pth.moved; rw [if_pos ⟨rfl, rfl⟩]
  have m1 : ∀ d v, ¬ (d = 0 ∧ v = 0) → pth.moved B b d v = B d v := fun d v hn => by unfold pth.moved; rw [if_neg hn]
  refine ⟨h.ok, ⟨m0, ?_, ?_, ?_, ?_⟩, ?_⟩
  · intro d v k hk
    by_cases c : d = 0 ∧ v = 0
    · obtain ⟨rfl, rfl⟩ := c; exact ⟨by omega, by decide⟩
    · rw [m1 d v c] at hk; exact h.shape.dom d v k hk
  · intro d v d' v' k hk hk'
    by_cases c : d = 0 ∧ v = 0 <;> by_cases c' : d' = 0 ∧ v' = 0
    · omega
    · obtain ⟨rfl, rfl⟩ := c
      rw [m0] at hk
      rw [m1 d' v' c'] at hk'
      cases hk
      have := hC b ⟨_, _, hk'⟩
      omega
    · obtain ⟨rfl, rfl⟩ := c'
      rw [m0] at hk'
      rw [m1 d v c] at hk
      cases hk'
      have := hC b ⟨_, _, hk⟩
      omega
    · rw [m1 d v c] at hk
      rw [m1 d' v' c'] at hk'
      exact h.shape.inj _ _ _ _ _ hk hk'
  · intro d v k hk
    rw [m1 _ _ (by omega)] at hk
    by_cases c : d = 0 ∧ v / 2 = 0
    · rw [c.1, c.2, m0]; exact ⟨_, rfl⟩
    · rw [m1 _ _ c]; exact h.shape.up d v k hk
  · intro d v p hp
    by_cases c : d = 0 ∧ v = 0
    · rw [c.1, c.2, m0]; exact ⟨_, rfl⟩
    · rw [m1 _ _ c]; exact h.shape.all d v p hp
  · intro d v k hk
    rw [m1 (d + 1) _ (by omega), m1 (d + 1) _ (by omega)]
    by_cases c : d = 0 ∧ v = 0
    · obtain ⟨rfl, rfl⟩ := c
      rw [m0] at hk
      cases hk
      exact h0
    · rw [m1 d v c] at hk
      have hb' := h.blk d v k hk
      have := hC k ⟨_, _, hk⟩
      unfold Blk at hb' ⊢
      rw [hw k (by omega)]
      exact hb'
set_option maxRecDepth 100000 in
set_option maxHeartbeats 4000000 in
theorem Drop_any (b : Nat) (L : List En) (B : Nat → Nat → Option Nat) (peer : Int) (hL : L.length ≤ 64) (w : World) (hT : Tab w b L B) :
    Calls Tryd.prog 12 #[.pointer (some ⟨b, 0, none⟩), .int .i64 peer] w fun e w' => e = .returned (.int .i64 ((L.length : Int) - ((dL L peer).length : Int))) ∧ ∃ B', Tab w' b (dL L peer) B' ∧ Turns (OwnB B) (OwnB B') w w' := by
  refine (callsIn_wide (n := 0)).1 ?_
  have hg := all_each b L B hT.ok hT.shape.root
  obtain ⟨C, hC⟩ : ∃ C, w.heap.size = C := ⟨_, rfl⟩
  have hTl : ∀ d v k, B d v = some k → k < C := fun d v k hk => by have := hT.lt hk; omega
  have hb1 : Boxed (w.alloc (.cells #[.int .i64 peer] 3)) C 3 (.int .i64 peer) := by rw [← hC]; exact Boxed.new w _ _
  have hX1 : Below C w (w.alloc (.cells #[.int .i64 peer] 3)) := (Below.refl _ _).alloc (by omega) _
  have hs1 : (w.alloc (.cells #[.int .i64 peer] 3)).heap.size = C + 1 := by simp [hC]
  have hT2 := Tab.new (w.alloc (.cells #[.int .i64 peer] 3))
  rw [hs1] at hT2
  have hb2 := hb1.alloc (.cells #[.bool false, .int .u32 0, .int .i64 0, .int .i64 0, .pointer none, .pointer none, .int .i64 0] 49)
  have hX2 := hX1.alloc (by omega) (.cells #[.bool false, .int .u32 0, .int .i64 0, .int .i64 0, .pointer none, .pointer none, .int .i64 0] 49)
  have hs2 : ((w.alloc (.cells #[.int .i64 peer] 3)).alloc (.cells #[.bool false, .int .u32 0, .int .i64 0, .int .i64 0, .pointer none, .pointer none, .int .i64 0] 49)).heap.size = C + 2 := by simp [hC]
  have hT3 := hT.mono (w' := (w.alloc (.cells #[.int .i64 peer] 3)).alloc (.cells #[.bool false, .int .u32 0, .int .i64 0, .int .i64 0, .pointer none, .pointer none, .int .i64 0] 49)) (fun d v k hk => hX2.block k (hTl d v k hk))
  refine callsIn_of_wp_marks Tryd.func12 rfl trivial ?_
  simp only [Tryd.ntmps12, List.size_toArray, List.length_cons, List.length_nil, Nat.reduceAdd, Nat.reduceSub, Array.replicate_succ, Array.replicate_zero, List.push_toArray, List.append_toArray, List.nil_append, List.cons_append]
  gi_wp2
  generalize (w.alloc (.cells #[.int .i64 peer] 3)).alloc (.cells #[.bool false, .int .u32 0, .int .i64 0, .int .i64 0, .pointer none, .pointer none, .int .i64 0] 49) = w2 at *
  have hown0 : ∀ k, OwnB (B0 (C + 1)) k → C + 1 ≤ k := fun k hk => by rw [own_new hk]; omega
  clear hb1 hX1
  refine wp_rangeBox (q := 6) 31 cells3 rfl (enters_of Tryd.func13 (by kernel_rfl) rfl) hg
    (fun pre W => (∃ B1, Tab W (C + 1) (dL pre peer) B1 ∧ ∀ k, OwnB B1 k → C + 1 ≤ k) ∧ Boxed W C 3 (.int .i64 peer) ∧ Tab W b L B ∧ Below C w W)
    (OwnFrom.and (fun s X Y row ⟨B1, h1, h2⟩ hgr hr => ⟨B1, Tab.ownFrom w2.heap.size (C + 1) (dL s peer) B1 s X Y row h1 hgr hr, h2⟩) (OwnFrom.and ((boxed_own C 3 (fun _ => .int .i64 peer)).from _) (OwnFrom.and (Tab.ownFrom _ b L B) (ownFrom_below (by omega) (by omega)))))
    (fun s W h => h.2.2.1) ⟨⟨_, hT2, hown0⟩, hb2, hT3, hX2⟩ ?assign ?body ?done
  case assign =>
    intro l x W K hK
    simp only [enc, cells3, List.setIfInBounds_toArray, List.set_cons_succ, List.set_cons_zero] at hK ⊢
    gi_wp2
    exact hK
  case body =>
    rintro l pre x rest bx W hx ⟨⟨B1, hT4, ho4⟩, hb4, hT5, hX5⟩ hs3 hbx hBx
    simp only [enc, List.setIfInBounds_toArray, List.set_cons_succ, List.set_cons_zero]
    have hxm : x ∈ L := by rw [hx]; simp
    obtain ⟨v1, v2, v3, v4⟩ := hT.ok.each x hxm
    have hlen : (dL pre peer).length ≤ 64 := by
      have := congrArg List.length hx
      have := dL_len pre peer
      simp at *
      omega
    have e0 := hBx.cell 0 _ rfl
    have e1 := hBx.cell 1 _ rfl
    have e2 := hBx.cell 2 _ rfl
    have cv := hb4.cell
    have HT : Hid (L.Pairwise lt) := hT.ok.rising
    clear hT hT2 hT3 hb2 hX2 hown0
    by_cases hp : (x.2.2 : Int) = peer
    · have hd : dL (pre ++ [x]) peer = dL pre peer := by rw [dL_app, dL_same hp, List.append_nil]
      have t0 : ((x.2.2 : Int) != peer) = false := by rw [hp]; simp
      rw [hd]
      clear hp hx
      gi_wp2
      exact ⟨Keeps.refl _ _ _, B1, hT4, ho4⟩
    · have hd := dL_ins HT.out hx hp
      have t0 : ((x.2.2 : Int) != peer) = true := by rw [bne_iff_ne]; exact hp
      rw [hd]
      have f1 := put_any (C + 1) (dL pre peer) B1 x.1 x.2.1 x.2.2 v2 v1 v3 v4 hlen W hT4
      clear hp hx hd
      gi_wp2
      refine ⟨trivial, rfl, ?_⟩
      refine (CallsIn.inRound l ((callsIn_wide (n := 0)).2 f1)).mono ?_
      rintro e W6 ⟨B2, rfl, hT6, ht6⟩
      gi_wp2
      have hfar : ∀ k, k < C + 1 → W6.heap[k]? = W.heap[k]? := fun k hk => ht6.same k (by omega) (fun h => by have := ho4 k h; omega)
      exact ⟨turns_keeps hT4 ht6, ⟨B2, hT6, fun k hk => (ht6.new k hk).elim (ho4 k) (fun h => by omega)⟩, (hfar C (by omega)).trans hb4, hT5.mono fun d v k hk => hfar k (by have := hTl d v k hk; omega),
        hX5.trans ⟨ht6.low.os, ht6.low.tape, ht6.low.output, ht6.low.size, fun k hk => hfar k (by omega)⟩⟩
  case done =>
    rintro D W hD ⟨⟨B1, hT4, ho4⟩, hb4, hT5, hX5⟩ hd
    have hbb := hT5.blk _ _ _ hT5.shape.root
    have hll := hT4.blk _ _ _ hT4.shape.root
    have c0 := hbb.cell 0 _ rfl
    have z0 := hbb.frozen 0
    have l0 := hll.cell 0 _ rfl
    have c1 := hbb.cell 1 _ rfl
    have z1 := hbb.frozen 1
    have l1 := hll.cell 1 _ rfl
    have c2 := hbb.cell 2 _ rfl
    have z2 := hbb.frozen 2
    have l2 := hll.cell 2 _ rfl
    have c3 := hbb.cell 3 _ rfl
    have z3 := hbb.frozen 3
    have l3 := hll.cell 3 _ rfl
    have c4 := hbb.cell 4 _ rfl
    have z4 := hbb.frozen 4
    obtain ⟨q4, hq4⟩ : ∃ q, ptr (B1 1 0) = .pointer q := by cases B1 1 0 <;> exact ⟨_, rfl⟩
    have l4 : W.cell? ⟨C + 1, 4, none⟩ = some (.pointer q4) := by rw [hll.cell 4 _ rfl]; exact congrArg some hq4
    have c5 := hbb.cell 5 _ rfl
    have z5 := hbb.frozen 5
    obtain ⟨q5, hq5⟩ : ∃ q, ptr (B1 1 1) = .pointer q := by cases B1 1 1 <;> exact ⟨_, rfl⟩
    have l5 : W.cell? ⟨C + 1, 5, none⟩ = some (.pointer q5) := by rw [hll.cell 5 _ rfl]; exact congrArg some hq5
    have c6 := hbb.cell 6 _ rfl
    have z6 := hbb.frozen 6
    have l6 := hll.cell 6 _ rfl
    have HQ4 : Hid (ptr (B1 1 0) = .pointer q4) := hq4
    have HQ5 : Hid (ptr (B1 1 1) = .pointer q5) := hq5
    clear hq4 hq5
    have hlen := dL_len L peer
    have n0 : (0 : Int) ≤ (L.length : Int) := by omega
    have n1 : (L.length : Int) ≤ 64 := by omega
    have n2 : (0 : Int) ≤ ((dL L peer).length : Int) := by omega
    have n3 : ((dL L peer).length : Int) ≤ 64 := by omega
    have hbC := hTl _ _ _ hT.shape.root
    have hroot := hT.shape.root
    clear hT hg hT2 hT3 hb2 hX2 hown0
    gi_wp2
    refine wpIn_wide.2 ?_
    go_region
    gi_wp2
    have hBf := (blk_seven hbb (.bool (at' (dL L peer) 0 0).isSome) (.int .u32 (adC (at' (dL L peer) 0 0) 0 0 : Int)) (.int .i64 (btC (at' (dL L peer) 0 0) 0 : Int)) (.int .i64 (prC (at' (dL L peer) 0 0) : Int)) (.pointer q4) (.pointer q5) (.int .i64 ((dL L peer).length : Int))).drew
    have hother : ∀ k, k ≠ b → (((((((W.setCell ⟨b, 0, none⟩ (.bool (at' (dL L peer) 0 0).isSome)).setCell ⟨b, 1, none⟩ (.int .u32 (adC (at' (dL L peer) 0 0) 0 0 : Int))).setCell ⟨b, 2, none⟩ (.int .i64 (btC (at' (dL L peer) 0 0) 0 : Int))).setCell ⟨b, 3, none⟩ (.int .i64 (prC (at' (dL L peer) 0 0) : Int))).setCell ⟨b, 4, none⟩ (.pointer q4)).setCell ⟨b, 5, none⟩ (.pointer q5)).setCell ⟨b, 6, none⟩ (.int .i64 ((dL L peer).length : Int))).drew.heap[k]? = W.heap[k]? := fun k hk => by
      rw [show ∀ W : World, W.drew.heap = W.heap from fun _ => rfl]
      repeat rw [show ∀ (W : World) i v, (W.setCell ⟨b, i, none⟩ v).heap[k]? = W.heap[k]? from fun W i v => Below.heap_setCell _ _ _ _ hk]
    have hlow : Below 0 W (((((((W.setCell ⟨b, 0, none⟩ (.bool (at' (dL L peer) 0 0).isSome)).setCell ⟨b, 1, none⟩ (.int .u32 (adC (at' (dL L peer) 0 0) 0 0 : Int))).setCell ⟨b, 2, none⟩ (.int .i64 (btC (at' (dL L peer) 0 0) 0 : Int))).setCell ⟨b, 3, none⟩ (.int .i64 (prC (at' (dL L peer) 0 0) : Int))).setCell ⟨b, 4, none⟩ (.pointer q4)).setCell ⟨b, 5, none⟩ (.pointer q5)).setCell ⟨b, 6, none⟩ (.int .i64 ((dL L peer).length : Int))).drew := (((((((Below.refl 0 W).setCell (p := ⟨b, 0, none⟩) (Nat.zero_le _) _).setCell (p := ⟨b, 1, none⟩) (Nat.zero_le _) _).setCell (p := ⟨b, 2, none⟩) (Nat.zero_le _) _).setCell (p := ⟨b, 3, none⟩) (Nat.zero_le _) _).setCell (p := ⟨b, 4, none⟩) (Nat.zero_le _) _).setCell (p := ⟨b, 5, none⟩) (Nat.zero_le _) _).setCell (p := ⟨b, 6, none⟩) (Nat.zero_le _) _ |>.drew
    have hTf : Tab (((((((W.setCell ⟨b, 0, none⟩ (.bool (at' (dL L peer) 0 0).isSome)).setCell ⟨b, 1, none⟩ (.int .u32 (adC (at' (dL L peer) 0 0) 0 0 : Int))).setCell ⟨b, 2, none⟩ (.int .i64 (btC (at' (dL L peer) 0 0) 0 : Int))).setCell ⟨b, 3, none⟩ (.int .i64 (prC (at' (dL L peer) 0 0) : Int))).setCell ⟨b, 4, none⟩ (.pointer q4)).setCell ⟨b, 5, none⟩ (.pointer q5)).setCell ⟨b, 6, none⟩ (.int .i64 ((dL L peer).length : Int))).drew b (dL L peer) (moved B1 b) := by
      refine hT4.moved ho4 (by omega) hother ?_
      unfold cellsN
      rw [HQ4.out, HQ5.out]
      exact hBf
    generalize (((((((W.setCell ⟨b, 0, none⟩ (.bool (at' (dL L peer) 0 0).isSome)).setCell ⟨b, 1, none⟩ (.int .u32 (adC (at' (dL L peer) 0 0) 0 0 : Int))).setCell ⟨b, 2, none⟩ (.int .i64 (btC (at' (dL L peer) 0 0) 0 : Int))).setCell ⟨b, 3, none⟩ (.int .i64 (prC (at' (dL L peer) 0 0) : Int))).setCell ⟨b, 4, none⟩ (.pointer q4)).setCell ⟨b, 5, none⟩ (.pointer q5)).setCell ⟨b, 6, none⟩ (.int .i64 ((dL L peer).length : Int))).drew = Wf at *
    have hDb : D ≠ b := by omega
    have hdf : Wf.heap[D]? = some (.deferred (some [])) := (hother D hDb).trans hd
    refine ⟨by simp, .inl ⟨_, _, rfl, run_takeDeferred hdf, ?_⟩⟩
    refine ⟨_, results_tmp rfl _ _ _, rfl, moved B1 b, OwnFrom.putObj (Tab.ownFrom D b (dL L peer) (moved B1 b)) (s := ()) _ hTf (Nat.le_refl _) hdf rfl, ?_, ?_, ?_⟩
    · exact ((hX5.mono (Nat.zero_le _)).trans hlow).grown (grownBy_putObj' Wf D _) (Nat.zero_le _) (fun _ _ => Nat.zero_le _)
    · intro k hk hnk
      have hkb : k ≠ b := fun e => by subst e; exact hnk ⟨_, _, hroot⟩
      rw [World.putObj_heap_other (by omega), hother k hkb]
      exact hX5.block k (by omega)
    · rintro k ⟨d, v, hk⟩
      unfold moved at hk
      split at hk
      · cases hk; exact .inl ⟨_, _, hroot⟩
      · exact .inr (by have := ho4 k ⟨_, _, hk⟩; omega)
end Go.Proofs.YtmkhojaddedpfaaDoor.pth
