/-
  THE WALKS OF package chacha's stirrer and what it makes (written by tools/mkstir.py).
-/
import Derived.Test.YtmbckgfpkmnlnabDoorChaBegun
import Derived.Test.YtmbckgfpkmnlnabDoorSoft
import Derived.Laws.EntriesVeiled
namespace Go.Proofs.YtmbckgfpkmnlnabDoor.cha
open Go.RowKit
open Go.Proofs.YtmbckgfpkmnlnabDoor.soft

/-- What each operation yields. -/
def SV (a b c d sp : Nat) (l : List Nat) (q : Q) : Nat → Value
  | 0 => .pointer (some ⟨sp, 0, none⟩)
  | 1 => .int .i64 (a : Nat)
  | 2 => .pointer (some ⟨sp, 0, none⟩)
  | 3 => .int .i64 (b : Nat)
  | 4 => .pointer (some ⟨sp, 0, none⟩)
  | 5 => .int .i64 (c : Nat)
  | 6 => .pointer (some ⟨sp, 0, none⟩)
  | 7 => .int .i64 (d : Nat)
  | 8 => .pointer (some ⟨sp, 0, none⟩)
  | 9 => .int .i64 (a : Nat)
  | 10 => .pointer (some ⟨sp, 0, none⟩)
  | 11 => .pointer (some ⟨sp, a, none⟩)
  | 12 => .int .u32 (l.getD a 0 : Nat)
  | 13 => .pointer (some ⟨sp, 0, none⟩)
  | 14 => .int .i64 (b : Nat)
  | 15 => .pointer (some ⟨sp, 0, none⟩)
  | 16 => .pointer (some ⟨sp, b, none⟩)
  | 17 => .int .u32 (l.getD b 0 : Nat)
  | 18 => .pointer (some ⟨sp, 0, none⟩)
  | 19 => .int .i64 (c : Nat)
  | 20 => .pointer (some ⟨sp, 0, none⟩)
  | 21 => .pointer (some ⟨sp, c, none⟩)
  | 22 => .int .u32 (l.getD c 0 : Nat)
  | 23 => .pointer (some ⟨sp, 0, none⟩)
  | 24 => .int .i64 (d : Nat)
  | 25 => .pointer (some ⟨sp, 0, none⟩)
  | 26 => .pointer (some ⟨sp, d, none⟩)
  | 27 => .int .u32 (l.getD d 0 : Nat)
  | 28 => .tuple #[.int .u32 (q.a : Nat), .int .u32 (q.b : Nat), .int .u32 (q.c : Nat), .int .u32 (q.d : Nat)]
  | 29 => .tuple #[.int .u32 (q.a : Nat), .int .u32 (q.b : Nat), .int .u32 (q.c : Nat), .int .u32 (q.d : Nat)]
  | 30 => .int .u32 (q.a : Nat)
  | 31 => .int .u32 (q.b : Nat)
  | 32 => .int .u32 (q.c : Nat)
  | 33 => .int .u32 (q.d : Nat)
  | 34 => .pointer (some ⟨sp, 0, none⟩)
  | 35 => .pointer (some ⟨sp, a, none⟩)
  | 36 => undef
  | 37 => .pointer (some ⟨sp, 0, none⟩)
  | 38 => .pointer (some ⟨sp, b, none⟩)
  | 39 => undef
  | 40 => .pointer (some ⟨sp, 0, none⟩)
  | 41 => .pointer (some ⟨sp, c, none⟩)
  | 42 => undef
  | 43 => .pointer (some ⟨sp, 0, none⟩)
  | 44 => .pointer (some ⟨sp, d, none⟩)
  | 45 => undef
  | _ => undef
/-- The state, as many numbers stored as are. -/
def Lf (a b c d : Nat) (l : List Nat) (q : Q) (f : Nat → Option Value) : List Nat :=
  if (f 45).isSome then put4 l a b c d q else if (f 42).isSome then ((l.set a q.a).set b q.b).set c q.c else if (f 39).isSome then (l.set a q.a).set b q.b else if (f 36).isSome then l.set a q.a else l
structure SG (a b c d sp cp : Nat) (l : List Nat) (q : Q) (w : World) (f : Nat → Option Value) (W : World) : Prop where
  val : ∀ i v, f i = some v → v = SV a b c d sp l q i
  s39 : (f 39).isSome = true → (f 36).isSome = true
  s42 : (f 42).isSome = true → (f 39).isSome = true
  s45 : (f 45).isSome = true → (f 42).isSome = true
  s36 : (f 36).isSome = true → (f 28).isSome = true
  s28 : (f 28).isSome = true → (f 12).isSome = true ∧ (f 17).isSome = true ∧ (f 22).isSome = true ∧ (f 27).isSome = true
  blk : Blk W sp 80 (wd (Lf a b c d l q f))
  cell : W.cell? ⟨cp, 0, none⟩ = some (.pointer (some ⟨sp, 0, none⟩))
  block : ∀ k, k ≠ sp → W.heap[k]? = w.heap[k]?
  below : ∀ (B : Nat) (z : World), B ≤ sp → Below B z w → Below B z W
theorem SG.pure {a b c d sp cp : Nat} {l : List Nat} {q : Q} {w W : World} {f : Nat → Option Value} (h : SG a b c d sp cp l q w f W) (i : Nat) (h1 : i ≠ 36) (h2 : i ≠ 39) (h3 : i ≠ 42) (h4 : i ≠ 45) (h5 : i ≠ 28) : SG a b c d sp cp l q w (upd f i (SV a b c d sp l q i)) W := by
  have e : ∀ j, j ≠ i → upd f i (SV a b c d sp l q i) j = f j := fun j hj => upd_other f _ hj
  have m : ∀ j, (f j).isSome = true → (upd f i (SV a b c d sp l q i) j).isSome = true := fun j hj => by
    by_cases c : j = i
    · rw [c, upd_same]; rfl
    · rw [e j c]; exact hj
  refine ⟨fun j v hj => ?_, ?_, ?_, ?_, ?_, ?_, ?_, h.cell, h.block, h.below⟩
  · by_cases c : j = i
    · subst c; rw [upd_same] at hj; cases hj; rfl
    · rw [e j c] at hj; exact h.val j v hj
  · rw [e 39 (Ne.symm h2), e 36 (Ne.symm h1)]; exact h.s39
  · rw [e 42 (Ne.symm h3), e 39 (Ne.symm h2)]; exact h.s42
  · rw [e 45 (Ne.symm h4), e 42 (Ne.symm h3)]; exact h.s45
  · rw [e 36 (Ne.symm h1), e 28 (Ne.symm h5)]; exact h.s36
  · rw [e 28 (Ne.symm h5)]
    exact fun x => ⟨m _ (h.s28 x).1, m _ (h.s28 x).2.1, m _ (h.s28 x).2.2.1, m _ (h.s28 x).2.2.2⟩
  · have : Lf a b c d l q (upd f i (SV a b c d sp l q i)) = Lf a b c d l q f := by
      unfold Lf
      rw [e 45 (Ne.symm h4), e 42 (Ne.symm h3), e 39 (Ne.symm h2), e 36 (Ne.symm h1)]
    rw [this]
    exact h.blk
theorem SG.call {a b c d sp cp : Nat} {l : List Nat} {q : Q} {w W : World} {f : Nat → Option Value} (h : SG a b c d sp cp l q w f W) (hl : (f 12).isSome = true ∧ (f 17).isSome = true ∧ (f 22).isSome = true ∧ (f 27).isSome = true) : SG a b c d sp cp l q w (upd f 28 (SV a b c d sp l q 28)) W := by
  have e : ∀ j, j ≠ 28 → upd f 28 (SV a b c d sp l q 28) j = f j := fun j hj => upd_other f _ hj
  refine ⟨fun j v hj => ?_, ?_, ?_, ?_, ?_, ?_, ?_, h.cell, h.block, h.below⟩
  · by_cases c : j = 28
    · subst c; rw [upd_same] at hj; cases hj; rfl
    · rw [e j c] at hj; exact h.val j v hj
  · rw [e 39 (by decide), e 36 (by decide)]; exact h.s39
  · rw [e 42 (by decide), e 39 (by decide)]; exact h.s42
  · rw [e 45 (by decide), e 42 (by decide)]; exact h.s45
  · intro _; rw [upd_same]; rfl
  · intro _; rw [e 12 (by decide), e 17 (by decide), e 22 (by decide), e 27 (by decide)]; exact hl
  · have : Lf a b c d l q (upd f 28 (SV a b c d sp l q 28)) = Lf a b c d l q f := by
      unfold Lf
      rw [e 45 (by decide), e 42 (by decide), e 39 (by decide), e 36 (by decide)]
    rw [this]
    exact h.blk
/-- What was loaded ahead of all stores. -/
theorem SG.first {a b c d sp cp : Nat} {l : List Nat} {q : Q} {w W : World} {f : Nat → Option Value} (h : SG a b c d sp cp l q w f W) {i : Nat} (hi : i = 12 ∨ i = 17 ∨ i = 22 ∨ i = 27) (hf : f i = none) : Blk W sp 80 (wd l) := by
  have n28 : (f 28).isSome = false := by
    cases hx : (f 28).isSome
    · rfl
    · have := h.s28 hx
      rcases hi with rfl | rfl | rfl | rfl
      · rw [hf] at this; cases this.1
      · rw [hf] at this; cases this.2.1
      · rw [hf] at this; cases this.2.2.1
      · rw [hf] at this; cases this.2.2.2
  have n36 : (f 36).isSome = false := by
    cases hx : (f 36).isSome
    · rfl
    · rw [h.s36 hx] at n28; cases n28
  have n39 : (f 39).isSome = false := by
    cases hx : (f 39).isSome
    · rfl
    · rw [h.s39 hx] at n36; cases n36
  have n42 : (f 42).isSome = false := by
    cases hx : (f 42).isSome
    · rfl
    · rw [h.s42 hx] at n39; cases n39
  have n45 : (f 45).isSome = false := by
    cases hx : (f 45).isSome
    · rfl
    · rw [h.s45 hx] at n42; cases n42
  have hb := h.blk
  unfold Lf at hb
  rw [n45, n42, n39, n36] at hb
  exact hb
/-- A number is stored. -/
theorem SG.store {a b c d sp cp : Nat} {l : List Nat} {q : Q} {w W : World} {f : Nat → Option Value} (h : SG a b c d sp cp l q w f W) (hne : cp ≠ sp) (i at' x : Nat) (hi : i = 36 ∨ i = 39 ∨ i = 42 ∨ i = 45) (hf : f i = none)
    (h28 : (f 28).isSome = true) (hb : (i = 36 ∨ (f (i - 3)).isSome = true)) (hx : Lf a b c d l q (upd f i undef) = (Lf a b c d l q f).set at' x) : SG a b c d sp cp l q w (upd f i undef) (W.setCell ⟨sp, at', none⟩ (.int .u32 (x : Nat))) := by
  have e : ∀ j, j ≠ i → upd f i undef j = f j := fun j hj => upd_other f _ hj
  have s : (upd f i undef i).isSome = true := by rw [upd_same]; rfl
  have m : ∀ j, (f j).isSome = true → (upd f i undef j).isSome = true := fun j hj => by
    by_cases c : j = i
    · rw [c]; exact s
    · rw [e j c]; exact hj
  refine ⟨fun j v hj => ?_, ?_, ?_, ?_, ?_, ?_, ?_, ?_, fun k hk => ?_, fun B z hB hz => (h.below B z hB hz).setCell hB _⟩
  · by_cases c : j = i
    · subst c; rw [upd_same] at hj; cases hj
      rcases hi with rfl | rfl | rfl | rfl <;> rfl
    · rw [e j c] at hj; exact h.val j v hj
  · intro hs
    by_cases c : 39 = i
    · rcases hb with hb | hb
      · omega
      · rw [← c] at hb; exact m 36 hb
    · rw [e 39 c] at hs; exact m 36 (h.s39 hs)
  · intro hs
    by_cases c : 42 = i
    · rcases hb with hb | hb
      · omega
      · rw [← c] at hb; exact m 39 hb
    · rw [e 42 c] at hs; exact m 39 (h.s42 hs)
  · intro hs
    by_cases c : 45 = i
    · rcases hb with hb | hb
      · omega
      · rw [← c] at hb; exact m 42 hb
    · rw [e 45 c] at hs; exact m 42 (h.s45 hs)
  · exact fun _ => m 28 h28
  · exact fun _ => ⟨m _ (h.s28 h28).1, m _ (h.s28 h28).2.1, m _ (h.s28 h28).2.2.1, m _ (h.s28 h28).2.2.2⟩
  · rw [hx, ← wd_set]
    exact h.blk.set at' _
  · rw [World.cell?_setCell_other (h := fun y => hne (Addr.mk.inj y).1.symm)]
    exact h.cell
  · rw [Below.heap_setCell _ _ _ _ hk]
    exact h.block k hk

theorem results_none {P : Program} {fn : Func} (hr : fn.results = #[]) (tmps : Array Value) (w : World) : (results fn tmps).run P w = .ok (.tuple #[]) w := by
  simp [results, hr]
theorem fr_defers (f : Nat → Option Value) : ∀ (l : List Oper) (k : Nat) (a : Act), a.defers = [] → (fr a f l k).defers = []
  | [], _, _, h => h
  | o :: l, k, a, h => by
    rw [fr]
    refine fr_defers f l (k + 1) _ ?_
    cases f k with
    | none => exact h
    | some v => cases hd : o.dst <;> exact h
theorem op_skip {P : Program} {Q : Exit → Act → World → Prop} {l : List Oper} {i : Nat} {o : Oper} {K : Act → World → Prop} {a : Act} {W W' : World} (ho : l[i]? = some o) (hg : o.guard = none)
    (hrun : (execOp a.eval o).run P W = .ok .skip W') (h : K (a.put o.dst undef) W') : wpOp P l.toArray Q i K a W := by
  unfold wpOp
  simp only [List.getElem?_toArray, ho]
  have hw : Region.wanted o (yielded l.toArray a.tmps) = true := by unfold Region.wanted; rw [hg]
  rw [if_pos hw]
  left
  unfold Oper.wp
  rw [hrun]
  exact h
set_option maxRecDepth 100000 in
set_option maxHeartbeats 4000000 in
theorem stir_any (a b c d : Nat) (ha : a < 16) (hb : b < 16) (hc : c < 16) (hd : d < 16) (l : List Nat) (hl : l.length = 16) (ok : Ws l) (sp cp : Nat) (hne : cp ≠ sp) (w : World) (hS : Blk w sp 80 (wd l)) (hP : w.cell? ⟨cp, 0, none⟩ = some (.pointer (some ⟨sp, 0, none⟩))) :
    Calls Tryd.prog 74 #[.int .i64 a, .int .i64 b, .int .i64 c, .int .i64 d, .pointer (some ⟨cp, 0, none⟩)] w fun e w' => e = .returned (.tuple #[]) ∧ Blk w' sp 80 (wd (st l a b c d)) ∧ (∀ k, k ≠ sp → w'.heap[k]? = w.heap[k]?) ∧ (∀ (B : Nat) (z : World), B ≤ sp → Below B z w → Below B z w') := by
  have g1 := quarter_any (at4 l a b c d) (at4_ok ok a b c d)
  obtain ⟨q, hq⟩ : ∃ q, q = qr (at4 l a b c d) := ⟨_, rfl⟩
  have HP : Hid (st l a b c d = put4 l a b c d q) := by rw [hq]; rfl
  rw [HP.out]
  rw [← hq] at g1
  clear hq
  have f1 : ∀ w, Calls Tryd.prog 75 #[.int .u32 (l.getD a 0 : Nat), .int .u32 (l.getD b 0 : Nat), .int .u32 (l.getD c 0 : Nat), .int .u32 (l.getD d 0 : Nat)] w fun e w' => e = .returned (.tuple #[.int .u32 (q.a : Nat), .int .u32 (q.b : Nat), .int .u32 (q.c : Nat), .int .u32 (q.d : Nat)]) ∧ w' = w := g1
  clear g1
  have a0 : (0 : Int) ≤ (a : Int) ∧ (a : Int) < 16 := by omega
  have b0 : (0 : Int) ≤ (b : Int) ∧ (b : Int) < 16 := by omega
  have c0 : (0 : Int) ≤ (c : Int) ∧ (c : Int) < 16 := by omega
  have d0 : (0 : Int) ≤ (d : Int) ∧ (d : Int) < 16 := by omega
  have hLl : ∀ f, (Lf a b c d l q f).length = 16 := fun f => by unfold Lf put4; split <;> (try split) <;> (try split) <;> (try split) <;> simp [hl]
  go_enter Tryd.func74, Tryd.ntmps74
  refine wp_region_all (by kernel_rfl) (by kernel_rfl) (SG a b c d sp cp l q w) ?_ ?_ ?_
  · exact ⟨fun _ _ h => (by cases h), fun h => (by cases h), fun h => (by cases h), fun h => (by cases h), fun h => (by cases h), fun h => (by cases h), hS, hP, fun _ _ => rfl, fun B z _ hz => Below.drew hz⟩
  · intro f W A hin hout hG i o ho hf hpre
    have e4 : A.eval (.tmp 4) = .pointer (some ⟨cp, 0, none⟩) := hout 4 (by kernel_rfl)
    have e0 : A.eval (.tmp 0) = .int .i64 (a : Nat) := hout 0 (by kernel_rfl)
    have e1 : A.eval (.tmp 1) = .int .i64 (b : Nat) := hout 1 (by kernel_rfl)
    have e2 : A.eval (.tmp 2) = .int .i64 (c : Nat) := hout 2 (by kernel_rfl)
    have e3 : A.eval (.tmp 3) = .int .i64 (d : Nat) := hout 3 (by kernel_rfl)
    have get : ∀ j, (f j).isSome = true → f j = some (SV a b c d sp l q j) := fun j hj => by
      cases hx : f j with
      | none => rw [hx] at hj; cases hj
      | some v => rw [hG.val j v hx]
    have hcell := hG.cell
    match i, ho, hf with
    | 0, ho, hf =>
      obtain rfl := Option.some.inj ho
      exact op_value (v := .pointer (some ⟨sp, 0, none⟩)) (W' := W) rfl rfl (by generalize A.eval = ev at *; simp [go_sem, e4, hcell]) ⟨_, rfl, hG.pure 0 (by decide) (by decide) (by decide) (by decide) (by decide)⟩
    | 1, ho, hf =>
      obtain rfl := Option.some.inj ho
      exact op_value (v := .int .i64 (a : Nat)) (W' := W) rfl rfl (by generalize A.eval = ev at *; simp [go_sem, e0]) ⟨_, rfl, hG.pure 1 (by decide) (by decide) (by decide) (by decide) (by decide)⟩
    | 2, ho, hf =>
      obtain rfl := Option.some.inj ho
      exact op_value (v := .pointer (some ⟨sp, 0, none⟩)) (W' := W) rfl rfl (by generalize A.eval = ev at *; simp [go_sem, e4, hcell]) ⟨_, rfl, hG.pure 2 (by decide) (by decide) (by decide) (by decide) (by decide)⟩
    | 3, ho, hf =>
      obtain rfl := Option.some.inj ho
      exact op_value (v := .int .i64 (b : Nat)) (W' := W) rfl rfl (by generalize A.eval = ev at *; simp [go_sem, e1]) ⟨_, rfl, hG.pure 3 (by decide) (by decide) (by decide) (by decide) (by decide)⟩
    | 4, ho, hf =>
      obtain rfl := Option.some.inj ho
      exact op_value (v := .pointer (some ⟨sp, 0, none⟩)) (W' := W) rfl rfl (by generalize A.eval = ev at *; simp [go_sem, e4, hcell]) ⟨_, rfl, hG.pure 4 (by decide) (by decide) (by decide) (by decide) (by decide)⟩
    | 5, ho, hf =>
      obtain rfl := Option.some.inj ho
      exact op_value (v := .int .i64 (c : Nat)) (W' := W) rfl rfl (by generalize A.eval = ev at *; simp [go_sem, e2]) ⟨_, rfl, hG.pure 5 (by decide) (by decide) (by decide) (by decide) (by decide)⟩
    | 6, ho, hf =>
      obtain rfl := Option.some.inj ho
      exact op_value (v := .pointer (some ⟨sp, 0, none⟩)) (W' := W) rfl rfl (by generalize A.eval = ev at *; simp [go_sem, e4, hcell]) ⟨_, rfl, hG.pure 6 (by decide) (by decide) (by decide) (by decide) (by decide)⟩
    | 7, ho, hf =>
      obtain rfl := Option.some.inj ho
      exact op_value (v := .int .i64 (d : Nat)) (W' := W) rfl rfl (by generalize A.eval = ev at *; simp [go_sem, e3]) ⟨_, rfl, hG.pure 7 (by decide) (by decide) (by decide) (by decide) (by decide)⟩
    | 8, ho, hf =>
      obtain rfl := Option.some.inj ho
      exact op_value (v := .pointer (some ⟨sp, 0, none⟩)) (W' := W) rfl rfl (by generalize A.eval = ev at *; simp [go_sem, e4, hcell]) ⟨_, rfl, hG.pure 8 (by decide) (by decide) (by decide) (by decide) (by decide)⟩
    | 9, ho, hf =>
      obtain rfl := Option.some.inj ho
      exact op_value (v := .int .i64 (a : Nat)) (W' := W) rfl rfl (by generalize A.eval = ev at *; simp [go_sem, e0]) ⟨_, rfl, hG.pure 9 (by decide) (by decide) (by decide) (by decide) (by decide)⟩
    | 10, ho, hf =>
      obtain rfl := Option.some.inj ho
      have g1 : A.eval (.tmp 18) = .pointer (some ⟨sp, 0, none⟩) := hin 8 18 _ (get 8 (hpre ⟨8, .data⟩ (by simp) rfl)) (by kernel_rfl) (by simp)
      exact op_value (v := .pointer (some ⟨sp, 0, none⟩)) (W' := W) rfl rfl (by generalize A.eval = ev at *; simp [go_sem, g1]) ⟨_, rfl, hG.pure 10 (by decide) (by decide) (by decide) (by decide) (by decide)⟩
    | 11, ho, hf =>
      obtain rfl := Option.some.inj ho
      have g1 : A.eval (.tmp 20) = .pointer (some ⟨sp, 0, none⟩) := hin 10 20 _ (get 10 (hpre ⟨10, .data⟩ (by simp) rfl)) (by kernel_rfl) (by simp)
      have g2 : A.eval (.tmp 19) = .int .i64 (a : Nat) := hin 9 19 _ (get 9 (hpre ⟨9, .data⟩ (by simp) rfl)) (by kernel_rfl) (by simp)
      exact op_value (v := .pointer (some ⟨sp, a, none⟩)) (W' := W) rfl rfl (by generalize A.eval = ev at *; simp [go_sem, g1, g2, Tryd.underlying80, a0]) ⟨_, rfl, hG.pure 11 (by decide) (by decide) (by decide) (by decide) (by decide)⟩
    | 12, ho, hf =>
      obtain rfl := Option.some.inj ho
      have g1 : A.eval (.tmp 21) = .pointer (some ⟨sp, a, none⟩) := hin 11 21 _ (get 11 (hpre ⟨11, .data⟩ (by simp) rfl)) (by kernel_rfl) (by simp)
      have hc := (hG.first (i := 12) (by omega) hf).cell a _ (wd_get l a (by omega))
      exact op_value (v := .int .u32 (l.getD a 0 : Nat)) (W' := W) rfl rfl (by generalize A.eval = ev at *; simp [go_sem, g1, hc]) ⟨_, rfl, hG.pure 12 (by decide) (by decide) (by decide) (by decide) (by decide)⟩
    | 13, ho, hf =>
      obtain rfl := Option.some.inj ho
      exact op_value (v := .pointer (some ⟨sp, 0, none⟩)) (W' := W) rfl rfl (by generalize A.eval = ev at *; simp [go_sem, e4, hcell]) ⟨_, rfl, hG.pure 13 (by decide) (by decide) (by decide) (by decide) (by decide)⟩
    | 14, ho, hf =>
      obtain rfl := Option.some.inj ho
      exact op_value (v := .int .i64 (b : Nat)) (W' := W) rfl rfl (by generalize A.eval = ev at *; simp [go_sem, e1]) ⟨_, rfl, hG.pure 14 (by decide) (by decide) (by decide) (by decide) (by decide)⟩
    | 15, ho, hf =>
      obtain rfl := Option.some.inj ho
      have g1 : A.eval (.tmp 23) = .pointer (some ⟨sp, 0, none⟩) := hin 13 23 _ (get 13 (hpre ⟨13, .data⟩ (by simp) rfl)) (by kernel_rfl) (by simp)
      exact op_value (v := .pointer (some ⟨sp, 0, none⟩)) (W' := W) rfl rfl (by generalize A.eval = ev at *; simp [go_sem, g1]) ⟨_, rfl, hG.pure 15 (by decide) (by decide) (by decide) (by decide) (by decide)⟩
    | 16, ho, hf =>
      obtain rfl := Option.some.inj ho
      have g1 : A.eval (.tmp 25) = .pointer (some ⟨sp, 0, none⟩) := hin 15 25 _ (get 15 (hpre ⟨15, .data⟩ (by simp) rfl)) (by kernel_rfl) (by simp)
      have g2 : A.eval (.tmp 24) = .int .i64 (b : Nat) := hin 14 24 _ (get 14 (hpre ⟨14, .data⟩ (by simp) rfl)) (by kernel_rfl) (by simp)
      exact op_value (v := .pointer (some ⟨sp, b, none⟩)) (W' := W) rfl rfl (by generalize A.eval = ev at *; simp [go_sem, g1, g2, Tryd.underlying80, b0]) ⟨_, rfl, hG.pure 16 (by decide) (by decide) (by decide) (by decide) (by decide)⟩
    | 17, ho, hf =>
      obtain rfl := Option.some.inj ho
      have g1 : A.eval (.tmp 26) = .pointer (some ⟨sp, b, none⟩) := hin 16 26 _ (get 16 (hpre ⟨16, .data⟩ (by simp) rfl)) (by kernel_rfl) (by simp)
      have hc := (hG.first (i := 17) (by omega) hf).cell b _ (wd_get l b (by omega))
      exact op_value (v := .int .u32 (l.getD b 0 : Nat)) (W' := W) rfl rfl (by generalize A.eval = ev at *; simp [go_sem, g1, hc]) ⟨_, rfl, hG.pure 17 (by decide) (by decide) (by decide) (by decide) (by decide)⟩
    | 18, ho, hf =>
      obtain rfl := Option.some.inj ho
      exact op_value (v := .pointer (some ⟨sp, 0, none⟩)) (W' := W) rfl rfl (by generalize A.eval = ev at *; simp [go_sem, e4, hcell]) ⟨_, rfl, hG.pure 18 (by decide) (by decide) (by decide) (by decide) (by decide)⟩
    | 19, ho, hf =>
      obtain rfl := Option.some.inj ho
      exact op_value (v := .int .i64 (c : Nat)) (W' := W) rfl rfl (by generalize A.eval = ev at *; simp [go_sem, e2]) ⟨_, rfl, hG.pure 19 (by decide) (by decide) (by decide) (by decide) (by decide)⟩
    | 20, ho, hf =>
      obtain rfl := Option.some.inj ho
      have g1 : A.eval (.tmp 28) = .pointer (some ⟨sp, 0, none⟩) := hin 18 28 _ (get 18 (hpre ⟨18, .data⟩ (by simp) rfl)) (by kernel_rfl) (by simp)
      exact op_value (v := .pointer (some ⟨sp, 0, none⟩)) (W' := W) rfl rfl (by generalize A.eval = ev at *; simp [go_sem, g1]) ⟨_, rfl, hG.pure 20 (by decide) (by decide) (by decide) (by decide) (by decide)⟩
    | 21, ho, hf =>
      obtain rfl := Option.some.inj ho
      have g1 : A.eval (.tmp 30) = .pointer (some ⟨sp, 0, none⟩) := hin 20 30 _ (get 20 (hpre ⟨20, .data⟩ (by simp) rfl)) (by kernel_rfl) (by simp)
      have g2 : A.eval (.tmp 29) = .int .i64 (c : Nat) := hin 19 29 _ (get 19 (hpre ⟨19, .data⟩ (by simp) rfl)) (by kernel_rfl) (by simp)
      exact op_value (v := .pointer (some ⟨sp, c, none⟩)) (W' := W) rfl rfl (by generalize A.eval = ev at *; simp [go_sem, g1, g2, Tryd.underlying80, c0]) ⟨_, rfl, hG.pure 21 (by decide) (by decide) (by decide) (by decide) (by decide)⟩
    | 22, ho, hf =>
      obtain rfl := Option.some.inj ho
      have g1 : A.eval (.tmp 31) = .pointer (some ⟨sp, c, none⟩) := hin 21 31 _ (get 21 (hpre ⟨21, .data⟩ (by simp) rfl)) (by kernel_rfl) (by simp)
      have hc := (hG.first (i := 22) (by omega) hf).cell c _ (wd_get l c (by omega))
      exact op_value (v := .int .u32 (l.getD c 0 : Nat)) (W' := W) rfl rfl (by generalize A.eval = ev at *; simp [go_sem, g1, hc]) ⟨_, rfl, hG.pure 22 (by decide) (by decide) (by decide) (by decide) (by decide)⟩
    | 23, ho, hf =>
      obtain rfl := Option.some.inj ho
      exact op_value (v := .pointer (some ⟨sp, 0, none⟩)) (W' := W) rfl rfl (by generalize A.eval = ev at *; simp [go_sem, e4, hcell]) ⟨_, rfl, hG.pure 23 (by decide) (by decide) (by decide) (by decide) (by decide)⟩
    | 24, ho, hf =>
      obtain rfl := Option.some.inj ho
      exact op_value (v := .int .i64 (d : Nat)) (W' := W) rfl rfl (by generalize A.eval = ev at *; simp [go_sem, e3]) ⟨_, rfl, hG.pure 24 (by decide) (by decide) (by decide) (by decide) (by decide)⟩
    | 25, ho, hf =>
      obtain rfl := Option.some.inj ho
      have g1 : A.eval (.tmp 33) = .pointer (some ⟨sp, 0, none⟩) := hin 23 33 _ (get 23 (hpre ⟨23, .data⟩ (by simp) rfl)) (by kernel_rfl) (by simp)
      exact op_value (v := .pointer (some ⟨sp, 0, none⟩)) (W' := W) rfl rfl (by generalize A.eval = ev at *; simp [go_sem, g1]) ⟨_, rfl, hG.pure 25 (by decide) (by decide) (by decide) (by decide) (by decide)⟩
    | 26, ho, hf =>
      obtain rfl := Option.some.inj ho
      have g1 : A.eval (.tmp 35) = .pointer (some ⟨sp, 0, none⟩) := hin 25 35 _ (get 25 (hpre ⟨25, .data⟩ (by simp) rfl)) (by kernel_rfl) (by simp)
      have g2 : A.eval (.tmp 34) = .int .i64 (d : Nat) := hin 24 34 _ (get 24 (hpre ⟨24, .data⟩ (by simp) rfl)) (by kernel_rfl) (by simp)
      exact op_value (v := .pointer (some ⟨sp, d, none⟩)) (W' := W) rfl rfl (by generalize A.eval = ev at *; simp [go_sem, g1, g2, Tryd.underlying80, d0]) ⟨_, rfl, hG.pure 26 (by decide) (by decide) (by decide) (by decide) (by decide)⟩
    | 27, ho, hf =>
      obtain rfl := Option.some.inj ho
      have g1 : A.eval (.tmp 36) = .pointer (some ⟨sp, d, none⟩) := hin 26 36 _ (get 26 (hpre ⟨26, .data⟩ (by simp) rfl)) (by kernel_rfl) (by simp)
      have hc := (hG.first (i := 27) (by omega) hf).cell d _ (wd_get l d (by omega))
      exact op_value (v := .int .u32 (l.getD d 0 : Nat)) (W' := W) rfl rfl (by generalize A.eval = ev at *; simp [go_sem, g1, hc]) ⟨_, rfl, hG.pure 27 (by decide) (by decide) (by decide) (by decide) (by decide)⟩
    | 28, ho, hf =>
      obtain rfl := Option.some.inj ho
      have g1 : A.eval (.tmp 22) = .int .u32 (l.getD a 0 : Nat) := hin 12 22 _ (get 12 (hpre ⟨12, .data⟩ (by simp) rfl)) (by kernel_rfl) (by simp)
      have g2 : A.eval (.tmp 27) = .int .u32 (l.getD b 0 : Nat) := hin 17 27 _ (get 17 (hpre ⟨17, .data⟩ (by simp) rfl)) (by kernel_rfl) (by simp)
      have g3 : A.eval (.tmp 32) = .int .u32 (l.getD c 0 : Nat) := hin 22 32 _ (get 22 (hpre ⟨22, .data⟩ (by simp) rfl)) (by kernel_rfl) (by simp)
      have g4 : A.eval (.tmp 37) = .int .u32 (l.getD d 0 : Nat) := hin 27 37 _ (get 27 (hpre ⟨27, .data⟩ (by simp) rfl)) (by kernel_rfl) (by simp)
      have ef : ∀ f, A.eval (.func f) = .func (.func f) #[] #[] := fun _ => rfl
      refine op_call (g := 75) (args := #[.int .u32 (l.getD a 0 : Nat), .int .u32 (l.getD b 0 : Nat), .int .u32 (l.getD c 0 : Nat), .int .u32 (l.getD d 0 : Nat)]) rfl rfl (by generalize A.eval = ev at *; simp [go_sem, g1, g2, g3, g4, ef]) ?_
      refine (f1 W).mono ?_
      rintro e W' ⟨rfl, rfl⟩
      exact ⟨_, rfl, _, rfl, hG.call ⟨hpre ⟨12, .data⟩ (by simp) rfl, hpre ⟨17, .data⟩ (by simp) rfl, hpre ⟨22, .data⟩ (by simp) rfl, hpre ⟨27, .data⟩ (by simp) rfl⟩⟩
    | 29, ho, hf =>
      obtain rfl := Option.some.inj ho
      have g1 : A.eval (.tmp 38) = .tuple #[.int .u32 (q.a : Nat), .int .u32 (q.b : Nat), .int .u32 (q.c : Nat), .int .u32 (q.d : Nat)] := hin 28 38 _ (get 28 (hpre ⟨28, .data⟩ (by simp) rfl)) (by kernel_rfl) (by simp)
      exact op_value (v := .tuple #[.int .u32 (q.a : Nat), .int .u32 (q.b : Nat), .int .u32 (q.c : Nat), .int .u32 (q.d : Nat)]) (W' := W) rfl rfl (by generalize A.eval = ev at *; simp [go_sem, g1]) ⟨_, rfl, hG.pure 29 (by decide) (by decide) (by decide) (by decide) (by decide)⟩
    | 30, ho, hf =>
      obtain rfl := Option.some.inj ho
      have g1 : A.eval (.tmp 9) = .tuple #[.int .u32 (q.a : Nat), .int .u32 (q.b : Nat), .int .u32 (q.c : Nat), .int .u32 (q.d : Nat)] := hin 29 9 _ (get 29 (hpre ⟨29, .data⟩ (by simp) rfl)) (by kernel_rfl) (by simp)
      exact op_value (v := .int .u32 (q.a : Nat)) (W' := W) rfl rfl (by generalize A.eval = ev at *; simp [go_sem, g1]) ⟨_, rfl, hG.pure 30 (by decide) (by decide) (by decide) (by decide) (by decide)⟩
    | 31, ho, hf =>
      obtain rfl := Option.some.inj ho
      have g1 : A.eval (.tmp 9) = .tuple #[.int .u32 (q.a : Nat), .int .u32 (q.b : Nat), .int .u32 (q.c : Nat), .int .u32 (q.d : Nat)] := hin 29 9 _ (get 29 (hpre ⟨29, .data⟩ (by simp) rfl)) (by kernel_rfl) (by simp)
      exact op_value (v := .int .u32 (q.b : Nat)) (W' := W) rfl rfl (by generalize A.eval = ev at *; simp [go_sem, g1]) ⟨_, rfl, hG.pure 31 (by decide) (by decide) (by decide) (by decide) (by decide)⟩
    | 32, ho, hf =>
      obtain rfl := Option.some.inj ho
      have g1 : A.eval (.tmp 9) = .tuple #[.int .u32 (q.a : Nat), .int .u32 (q.b : Nat), .int .u32 (q.c : Nat), .int .u32 (q.d : Nat)] := hin 29 9 _ (get 29 (hpre ⟨29, .data⟩ (by simp) rfl)) (by kernel_rfl) (by simp)
      exact op_value (v := .int .u32 (q.c : Nat)) (W' := W) rfl rfl (by generalize A.eval = ev at *; simp [go_sem, g1]) ⟨_, rfl, hG.pure 32 (by decide) (by decide) (by decide) (by decide) (by decide)⟩
    | 33, ho, hf =>
      obtain rfl := Option.some.inj ho
      have g1 : A.eval (.tmp 9) = .tuple #[.int .u32 (q.a : Nat), .int .u32 (q.b : Nat), .int .u32 (q.c : Nat), .int .u32 (q.d : Nat)] := hin 29 9 _ (get 29 (hpre ⟨29, .data⟩ (by simp) rfl)) (by kernel_rfl) (by simp)
      exact op_value (v := .int .u32 (q.d : Nat)) (W' := W) rfl rfl (by generalize A.eval = ev at *; simp [go_sem, g1]) ⟨_, rfl, hG.pure 33 (by decide) (by decide) (by decide) (by decide) (by decide)⟩
    | 34, ho, hf =>
      obtain rfl := Option.some.inj ho
      have g1 : A.eval (.tmp 10) = .pointer (some ⟨sp, 0, none⟩) := hin 0 10 _ (get 0 (hpre ⟨0, .data⟩ (by simp) rfl)) (by kernel_rfl) (by simp)
      exact op_value (v := .pointer (some ⟨sp, 0, none⟩)) (W' := W) rfl rfl (by generalize A.eval = ev at *; simp [go_sem, g1]) ⟨_, rfl, hG.pure 34 (by decide) (by decide) (by decide) (by decide) (by decide)⟩
    | 35, ho, hf =>
      obtain rfl := Option.some.inj ho
      have g1 : A.eval (.tmp 43) = .pointer (some ⟨sp, 0, none⟩) := hin 34 43 _ (get 34 (hpre ⟨34, .data⟩ (by simp) rfl)) (by kernel_rfl) (by simp)
      have g2 : A.eval (.tmp 11) = .int .i64 (a : Nat) := hin 1 11 _ (get 1 (hpre ⟨1, .data⟩ (by simp) rfl)) (by kernel_rfl) (by simp)
      exact op_value (v := .pointer (some ⟨sp, a, none⟩)) (W' := W) rfl rfl (by generalize A.eval = ev at *; simp [go_sem, g1, g2, Tryd.underlying80, a0]) ⟨_, rfl, hG.pure 35 (by decide) (by decide) (by decide) (by decide) (by decide)⟩
    | 36, ho, hf =>
      obtain rfl := Option.some.inj ho
      have g1 : A.eval (.tmp 44) = .pointer (some ⟨sp, a, none⟩) := hin 35 44 _ (get 35 (hpre ⟨35, .data⟩ (by simp) rfl)) (by kernel_rfl) (by simp)
      have g2 : A.eval (.tmp 39) = .int .u32 (q.a : Nat) := hin 30 39 _ (get 30 (hpre ⟨30, .data⟩ (by simp) rfl)) (by kernel_rfl) (by simp)
      have hc := hG.blk.cell a _ (wd_get _ a (by rw [hLl]; omega))
      have hz := hG.blk.frozen a
      have h28 := hpre ⟨28, .chain⟩ (by simp) rfl
      have n36 : (f 36).isSome = false := by rw [hf]; rfl
      have n39 : (f 39).isSome = false := by
          cases hx : (f 39).isSome
          · rfl
          · rw [hG.s39 hx] at n36; cases n36
      have n42 : (f 42).isSome = false := by
          cases hx : (f 42).isSome
          · rfl
          · rw [hG.s42 hx] at n39; cases n39
      have n45 : (f 45).isSome = false := by
          cases hx : (f 45).isSome
          · rfl
          · rw [hG.s45 hx] at n42; cases n42
      have hL : Lf a b c d l q (upd f 36 undef) = (Lf a b c d l q f).set a q.a := by
          unfold Lf
          simp only [upd_other f undef (by decide : 39 ≠ 36), n39, upd_other f undef (by decide : 42 ≠ 36), n42, upd_other f undef (by decide : 45 ≠ 36), n45, n36, upd_same, Option.isSome_some, if_true, Bool.false_eq_true, if_false, put4]
      exact op_skip (W' := W.setCell ⟨sp, a, none⟩ (.int .u32 (q.a : Nat))) rfl rfl (by generalize A.eval = ev at *; simp [go_sem, g1, g2, hc, hz]) ⟨_, rfl, hG.store hne 36 a q.a (by omega) hf h28 (.inl rfl) hL⟩
    | 37, ho, hf =>
      obtain rfl := Option.some.inj ho
      have g1 : A.eval (.tmp 12) = .pointer (some ⟨sp, 0, none⟩) := hin 2 12 _ (get 2 (hpre ⟨2, .data⟩ (by simp) rfl)) (by kernel_rfl) (by simp)
      exact op_value (v := .pointer (some ⟨sp, 0, none⟩)) (W' := W) rfl rfl (by generalize A.eval = ev at *; simp [go_sem, g1]) ⟨_, rfl, hG.pure 37 (by decide) (by decide) (by decide) (by decide) (by decide)⟩
    | 38, ho, hf =>
      obtain rfl := Option.some.inj ho
      have g1 : A.eval (.tmp 45) = .pointer (some ⟨sp, 0, none⟩) := hin 37 45 _ (get 37 (hpre ⟨37, .data⟩ (by simp) rfl)) (by kernel_rfl) (by simp)
      have g2 : A.eval (.tmp 13) = .int .i64 (b : Nat) := hin 3 13 _ (get 3 (hpre ⟨3, .data⟩ (by simp) rfl)) (by kernel_rfl) (by simp)
      exact op_value (v := .pointer (some ⟨sp, b, none⟩)) (W' := W) rfl rfl (by generalize A.eval = ev at *; simp [go_sem, g1, g2, Tryd.underlying80, b0]) ⟨_, rfl, hG.pure 38 (by decide) (by decide) (by decide) (by decide) (by decide)⟩
    | 39, ho, hf =>
      obtain rfl := Option.some.inj ho
      have g1 : A.eval (.tmp 46) = .pointer (some ⟨sp, b, none⟩) := hin 38 46 _ (get 38 (hpre ⟨38, .data⟩ (by simp) rfl)) (by kernel_rfl) (by simp)
      have g2 : A.eval (.tmp 40) = .int .u32 (q.b : Nat) := hin 31 40 _ (get 31 (hpre ⟨31, .data⟩ (by simp) rfl)) (by kernel_rfl) (by simp)
      have hc := hG.blk.cell b _ (wd_get _ b (by rw [hLl]; omega))
      have hz := hG.blk.frozen b
      have h28 := hG.s36 (hpre ⟨36, .chain⟩ (by simp) rfl)
      have n39 : (f 39).isSome = false := by rw [hf]; rfl
      have n42 : (f 42).isSome = false := by
          cases hx : (f 42).isSome
          · rfl
          · rw [hG.s42 hx] at n39; cases n39
      have n45 : (f 45).isSome = false := by
          cases hx : (f 45).isSome
          · rfl
          · rw [hG.s45 hx] at n42; cases n42
      have y36 : (f 36).isSome = true := hpre ⟨36, .chain⟩ (by simp) rfl
      have hL : Lf a b c d l q (upd f 39 undef) = (Lf a b c d l q f).set b q.b := by
          unfold Lf
          simp only [upd_other f undef (by decide : 42 ≠ 39), n42, upd_other f undef (by decide : 45 ≠ 39), n45, n39, y36, upd_same, Option.isSome_some, if_true, Bool.false_eq_true, if_false, put4]
      exact op_skip (W' := W.setCell ⟨sp, b, none⟩ (.int .u32 (q.b : Nat))) rfl rfl (by generalize A.eval = ev at *; simp [go_sem, g1, g2, hc, hz]) ⟨_, rfl, hG.store hne 39 b q.b (by omega) hf h28 (.inr (hpre ⟨36, .chain⟩ (by simp) rfl)) hL⟩
    | 40, ho, hf =>
      obtain rfl := Option.some.inj ho
      have g1 : A.eval (.tmp 14) = .pointer (some ⟨sp, 0, none⟩) := hin 4 14 _ (get 4 (hpre ⟨4, .data⟩ (by simp) rfl)) (by kernel_rfl) (by simp)
      exact op_value (v := .pointer (some ⟨sp, 0, none⟩)) (W' := W) rfl rfl (by generalize A.eval = ev at *; simp [go_sem, g1]) ⟨_, rfl, hG.pure 40 (by decide) (by decide) (by decide) (by decide) (by decide)⟩
    | 41, ho, hf =>
      obtain rfl := Option.some.inj ho
      have g1 : A.eval (.tmp 47) = .pointer (some ⟨sp, 0, none⟩) := hin 40 47 _ (get 40 (hpre ⟨40, .data⟩ (by simp) rfl)) (by kernel_rfl) (by simp)
      have g2 : A.eval (.tmp 15) = .int .i64 (c : Nat) := hin 5 15 _ (get 5 (hpre ⟨5, .data⟩ (by simp) rfl)) (by kernel_rfl) (by simp)
      exact op_value (v := .pointer (some ⟨sp, c, none⟩)) (W' := W) rfl rfl (by generalize A.eval = ev at *; simp [go_sem, g1, g2, Tryd.underlying80, c0]) ⟨_, rfl, hG.pure 41 (by decide) (by decide) (by decide) (by decide) (by decide)⟩
    | 42, ho, hf =>
      obtain rfl := Option.some.inj ho
      have g1 : A.eval (.tmp 48) = .pointer (some ⟨sp, c, none⟩) := hin 41 48 _ (get 41 (hpre ⟨41, .data⟩ (by simp) rfl)) (by kernel_rfl) (by simp)
      have g2 : A.eval (.tmp 41) = .int .u32 (q.c : Nat) := hin 32 41 _ (get 32 (hpre ⟨32, .data⟩ (by simp) rfl)) (by kernel_rfl) (by simp)
      have hc := hG.blk.cell c _ (wd_get _ c (by rw [hLl]; omega))
      have hz := hG.blk.frozen c
      have h28 := hG.s36 (hG.s39 (hpre ⟨39, .chain⟩ (by simp) rfl))
      have n42 : (f 42).isSome = false := by rw [hf]; rfl
      have n45 : (f 45).isSome = false := by
          cases hx : (f 45).isSome
          · rfl
          · rw [hG.s45 hx] at n42; cases n42
      have y39 : (f 39).isSome = true := hpre ⟨39, .chain⟩ (by simp) rfl
      have hL : Lf a b c d l q (upd f 42 undef) = (Lf a b c d l q f).set c q.c := by
          unfold Lf
          simp only [upd_other f undef (by decide : 45 ≠ 42), n45, n42, y39, upd_same, Option.isSome_some, if_true, Bool.false_eq_true, if_false, put4]
      exact op_skip (W' := W.setCell ⟨sp, c, none⟩ (.int .u32 (q.c : Nat))) rfl rfl (by generalize A.eval = ev at *; simp [go_sem, g1, g2, hc, hz]) ⟨_, rfl, hG.store hne 42 c q.c (by omega) hf h28 (.inr (hpre ⟨39, .chain⟩ (by simp) rfl)) hL⟩
    | 43, ho, hf =>
      obtain rfl := Option.some.inj ho
      have g1 : A.eval (.tmp 16) = .pointer (some ⟨sp, 0, none⟩) := hin 6 16 _ (get 6 (hpre ⟨6, .data⟩ (by simp) rfl)) (by kernel_rfl) (by simp)
      exact op_value (v := .pointer (some ⟨sp, 0, none⟩)) (W' := W) rfl rfl (by generalize A.eval = ev at *; simp [go_sem, g1]) ⟨_, rfl, hG.pure 43 (by decide) (by decide) (by decide) (by decide) (by decide)⟩
    | 44, ho, hf =>
      obtain rfl := Option.some.inj ho
      have g1 : A.eval (.tmp 49) = .pointer (some ⟨sp, 0, none⟩) := hin 43 49 _ (get 43 (hpre ⟨43, .data⟩ (by simp) rfl)) (by kernel_rfl) (by simp)
      have g2 : A.eval (.tmp 17) = .int .i64 (d : Nat) := hin 7 17 _ (get 7 (hpre ⟨7, .data⟩ (by simp) rfl)) (by kernel_rfl) (by simp)
      exact op_value (v := .pointer (some ⟨sp, d, none⟩)) (W' := W) rfl rfl (by generalize A.eval = ev at *; simp [go_sem, g1, g2, Tryd.underlying80, d0]) ⟨_, rfl, hG.pure 44 (by decide) (by decide) (by decide) (by decide) (by decide)⟩
    | 45, ho, hf =>
      obtain rfl := Option.some.inj ho
      have g1 : A.eval (.tmp 50) = .pointer (some ⟨sp, d, none⟩) := hin 44 50 _ (get 44 (hpre ⟨44, .data⟩ (by simp) rfl)) (by kernel_rfl) (by simp)
      have g2 : A.eval (.tmp 42) = .int .u32 (q.d : Nat) := hin 33 42 _ (get 33 (hpre ⟨33, .data⟩ (by simp) rfl)) (by kernel_rfl) (by simp)
      have hc := hG.blk.cell d _ (wd_get _ d (by rw [hLl]; omega))
      have hz := hG.blk.frozen d
      have h28 := hG.s36 (hG.s39 (hG.s42 (hpre ⟨42, .chain⟩ (by simp) rfl)))
      have n45 : (f 45).isSome = false := by rw [hf]; rfl
      have y42 : (f 42).isSome = true := hpre ⟨42, .chain⟩ (by simp) rfl
      have hL : Lf a b c d l q (upd f 45 undef) = (Lf a b c d l q f).set d q.d := by
          unfold Lf
          simp only [n45, y42, upd_same, Option.isSome_some, if_true, Bool.false_eq_true, if_false, put4]
      exact op_skip (W' := W.setCell ⟨sp, d, none⟩ (.int .u32 (q.d : Nat))) rfl rfl (by generalize A.eval = ev at *; simp [go_sem, g1, g2, hc, hz]) ⟨_, rfl, hG.store hne 45 d q.d (by omega) hf h28 (.inr (hpre ⟨42, .chain⟩ (by simp) rfl)) hL⟩
    | (j + 46), ho, _ => exact absurd ho (by simp)
  · intro f W hall hG
    have hb := hG.blk
    unfold Lf at hb
    rw [hall 45 (by decide), if_pos rfl] at hb
    refine ⟨fr_defers _ _ _ _ rfl, .tuple #[], ?_, rfl, hb, hG.block, hG.below⟩
    exact results_none Tryd.results74 _ _
end Go.Proofs.YtmbckgfpkmnlnabDoor.cha
