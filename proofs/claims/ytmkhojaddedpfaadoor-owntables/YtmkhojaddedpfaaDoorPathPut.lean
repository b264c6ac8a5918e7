/-
  A TABLE IS WRITTEN: the way to a node is laid (reach), a path is put there (put).
-/
import Derived.Test.YtmkhojaddedpfaaDoorPathRead
namespace Go.Proofs.YtmkhojaddedpfaaDoor.pth
open Go.RowKit

/-- The blocks of a tree. -/
def OwnB (B : Nat → Nat → Option Nat) (k : Nat) : Prop := ∃ d v, B d v = some k
/-- What turns: blocks of X; what is owned behind it (X') was owned, or is new. -/
structure Turns (X X' : Nat → Prop) (w w' : World) : Prop where
  low : Below 0 w w'
  same : ∀ k, k < w.heap.size → ¬ X k → w'.heap[k]? = w.heap[k]?
  new : ∀ k, X' k → X k ∨ w.heap.size ≤ k
theorem Turns.refl (X : Nat → Prop) (w : World) : Turns X X w w := ⟨Below.refl _ _, fun _ _ _ => rfl, fun _ h => .inl h⟩
theorem Turns.trans {X Y Z : Nat → Prop} {a b c : World} (h : Turns X Y a b) (k : Turns Y Z b c) : Turns X Z a c :=
  ⟨h.low.trans k.low, (fun i hi hx => (k.same i (Nat.lt_of_lt_of_le hi h.low.size) (fun hy => (h.new i hy).elim hx (fun q => by omega))).trans (h.same i hi hx)),
    (fun i hz => (k.new i hz).elim (fun hy => h.new i hy) (fun q => .inr (Nat.le_trans h.low.size q)))⟩
theorem Turns.below {X : Nat → Prop} {w w' : World} (h : Below w.heap.size w w') : Turns X X w w' := ⟨h.mono (Nat.zero_le _), fun k hk _ => h.block k hk, fun _ h => .inl h⟩
theorem Turns.alloc (X : Nat → Prop) (w : World) (o : Obj) : Turns X X w (w.alloc o) := Turns.below ((Below.refl _ _).alloc (Nat.le_refl _) _)
theorem Turns.drew (X : Nat → Prop) (w : World) : Turns X X w w.drew := Turns.below (Below.refl _ w).drew
theorem Turns.set {X : Nat → Prop} (w : World) {b : Nat} (hb : X b) (o : Nat) (v : Value) : Turns X X w (w.setCell ⟨b, o, none⟩ v) :=
  ⟨(Below.refl 0 w).setCell (Nat.zero_le _) _, (fun k _ hk => Below.heap_setCell _ _ _ _ (fun e => by have e : k = b := e; subst e; exact hk hb)), fun _ h => .inl h⟩
theorem Turns.blk {X X' : Nat → Prop} {w w' : World} (h : Turns X X' w w') {b t : Nat} {l : List Value} (hB : Blk w b t l) (hx : ¬ X b) : Blk w' b t l := by
  have := hB.lt
  unfold Blk at hB ⊢
  rw [h.same b this hx]
  exact hB
/-- One node more. -/
def ext (B : Nat → Nat → Option Nat) (d u m : Nat) : Nat → Nat → Option Nat := fun d' u' => if d' = d ∧ u' = u then some m else B d' u'
theorem ext_same (B : Nat → Nat → Option Nat) (d u m : Nat) : ext B d u m d u = some m := by simp [ext]
theorem ext_other (B : Nat → Nat → Option Nat) {d u m d' u' : Nat} (h : ¬ (d' = d ∧ u' = u)) : ext B d u m d' u' = B d' u' := by simp [ext, h]
theorem tailN_succ (d n : Nat) : tailN (d + 1) n = [] := rfl
theorem tyN_succ (d : Nat) : tyN (d + 1) = 47 := rfl
set_option maxHeartbeats 1600000 in
theorem Tab.ext {w : World} {b : Nat} {L : List En} {B : Nat → Nat → Option Nat} (h : Tab w b L B) {k v i j : Nat} (hj : B k v = some j) (hk : k < 32) (hi : i < 2) (hn : B (k + 1) (2 * v + i) = none) :
    Tab ((w.alloc (.cells #[.bool false, .int .u32 0, .int .i64 0, .int .i64 0, .pointer none, .pointer none] 47)).setCell ⟨j, 4 + i, none⟩ (.pointer (some ⟨w.heap.size, 0, none⟩))) b L (pth.ext B (k + 1) (2 * v + i) w.heap.size) := by
  have hv := (h.shape.dom _ _ _ hj).2
  have hjl := h.lt hj
  obtain ⟨w1, hw1⟩ : ∃ w1, w.alloc (.cells #[.bool false, .int .u32 0, .int .i64 0, .int .i64 0, .pointer none, .pointer none] 47) = w1 := ⟨_, rfl⟩
  have hN : Blk w1 w.heap.size 47 [.bool false, .int .u32 0, .int .i64 0, .int .i64 0, .pointer none, .pointer none] := by rw [← hw1]; exact Blk.new w 47 _ _ rfl
  have hB1 : ∀ d u q, B d u = some q → Blk w1 q (tyN d) (cellsN (at' L d u) d u (B (d + 1) (2 * u)) (B (d + 1) (2 * u + 1)) ++ tailN d L.length) := fun d u q hq => by rw [← hw1]; exact (h.blk d u q hq).alloc _
  rw [hw1]
  refine ⟨h.ok, ⟨?_, ?_, ?_, ?_, ?_⟩, ?_⟩
  · rw [ext_other _ (by omega)]; exact h.shape.root
  · intro d u q hq
    by_cases c : d = k + 1 ∧ u = 2 * v + i
    · obtain ⟨rfl, rfl⟩ := c
      exact ⟨by omega, by rw [Nat.pow_succ]; omega⟩
    · rw [ext_other _ c] at hq
      exact h.shape.dom d u q hq
  · intro d u d' u' q hq hq'
    by_cases c : d = k + 1 ∧ u = 2 * v + i <;> by_cases c' : d' = k + 1 ∧ u' = 2 * v + i
    · omega
    · obtain ⟨rfl, rfl⟩ := c
      rw [ext_same] at hq
      rw [ext_other _ c'] at hq'
      have := h.lt hq'
      cases hq
      omega
    · obtain ⟨rfl, rfl⟩ := c'
      rw [ext_same] at hq'
      rw [ext_other _ c] at hq
      have := h.lt hq
      cases hq'
      omega
    · rw [ext_other _ c] at hq
      rw [ext_other _ c'] at hq'
      exact h.shape.inj d u d' u' q hq hq'
  · intro d u q hq
    by_cases c : d + 1 = k + 1 ∧ u = 2 * v + i
    · obtain ⟨c1, rfl⟩ := c
      obtain rfl : d = k := by omega
      rw [show (2 * v + i) / 2 = v from by omega, ext_other _ (by omega)]
      exact ⟨j, hj⟩
    · rw [ext_other _ c] at hq
      obtain ⟨r, hr⟩ := h.shape.up d u q hq
      by_cases c' : d = k + 1 ∧ u / 2 = 2 * v + i
      · obtain ⟨rfl, c2⟩ := c'
        rw [c2, ext_same]
        exact ⟨_, rfl⟩
      · rw [ext_other _ c']
        exact ⟨r, hr⟩
  · intro d u p hp
    obtain ⟨q, hq⟩ := h.shape.all d u p hp
    by_cases c : d = k + 1 ∧ u = 2 * v + i
    · obtain ⟨rfl, rfl⟩ := c
      rw [ext_same]
      exact ⟨_, rfl⟩
    · rw [ext_other _ c]
      exact ⟨q, hq⟩
  · intro d u q hq
    by_cases c : d = k + 1 ∧ u = 2 * v + i
    · obtain ⟨rfl, rfl⟩ := c
      rw [ext_same] at hq
      cases hq
      rw [h.shape.nobody hn, ext_other _ (by omega), ext_other _ (by omega), h.shape.kid (by rw [show 2 * (2 * v + i) / 2 = 2 * v + i from by omega]; exact hn), h.shape.kid (by rw [show (2 * (2 * v + i) + 1) / 2 = 2 * v + i from by omega]; exact hn)]
      exact hN.other (by show w.heap.size ≠ j; omega) _
    · rw [ext_other _ c] at hq
      have hb := hB1 d u q hq
      by_cases c2 : d = k ∧ u = v
      · obtain ⟨rfl, rfl⟩ := c2
        rw [hj] at hq
        cases hq
        have hs := hb.set (4 + i) (.pointer (some ⟨w.heap.size, 0, none⟩))
        obtain rfl | rfl : i = 0 ∨ i = 1 := by omega
        · rw [Nat.add_zero (2 * u), ext_same, ext_other _ (by omega)]
          exact hs
        · rw [ext_same, ext_other _ (by omega)]
          exact hs
      · rw [ext_other _ (by omega), ext_other _ (by omega)]
        refine hb.other ?_ _
        show q ≠ j
        rintro rfl
        have := h.shape.inj _ _ _ _ _ hq hj
        omega
theorem ext_own {B : Nat → Nat → Option Nat} {d u m k : Nat} (h : OwnB (ext B d u m) k) : OwnB B k ∨ m ≤ k := by
  obtain ⟨d', u', hk⟩ := h
  by_cases c : d' = d ∧ u' = u
  · obtain ⟨rfl, rfl⟩ := c
    rw [ext_same] at hk
    cases hk
    exact .inr (Nat.le_refl _)
  · rw [ext_other _ c] at hk
    exact .inl ⟨d', u', hk⟩
theorem Tab.ext_turns {w : World} {b : Nat} {L : List En} {B : Nat → Nat → Option Nat} {k v d u o : Nat} {x : Value} {c : Array Value} {t j : Nat} (_h : Tab w b L B) (hj : B k v = some j) :
    Turns (OwnB B) (OwnB (pth.ext B d u w.heap.size)) w ((w.alloc (.cells c t)).setCell ⟨j, o, none⟩ x) :=
  have h1 := (Turns.alloc (OwnB B) w (.cells c t)).trans (Turns.set (X := OwnB B) _ ⟨k, v, hj⟩ o x)
  ⟨h1.low, h1.same, fun _ hk => ext_own hk⟩
set_option maxHeartbeats 1600000 in
theorem reach_any (b : Nat) (L : List En) (B : Nat → Nat → Option Nat) (a n : Nat) (ha : a < 4294967296) (hn : n ≤ 32) (w : World) (hT : Tab w b L B) :
    Calls Tryd.prog 26 #[.pointer (some ⟨b, 0, none⟩), .agg #[.int .u32 (a : Int), .int .i64 (n : Int)]] w fun e w' => ∃ j B', e = .returned (.pointer (some ⟨j, 0, none⟩)) ∧ B' n (a / 2 ^ (32 - n)) = some j ∧ Tab w' b L B' ∧ Turns (OwnB B) (OwnB B') w w' := by
  have hr := hT.shape.root
  obtain ⟨D, hD⟩ : ∃ D, w.heap.size = D := ⟨_, rfl⟩
  have hDB : ¬ OwnB B D := fun ⟨d, v, h⟩ => by have := hT.lt h; omega
  have hP : Blk (w.alloc (.cells #[.int .u32 (a : Int), .int .i64 (n : Int)] 29)) D 29 [.int .u32 (a : Int), .int .i64 (n : Int)] := by rw [← hD]; exact Blk.new w 29 _ _ rfl
  have hT1 : Tab (w.alloc (.cells #[.int .u32 (a : Int), .int .i64 (n : Int)] 29)) b L B := hT.below ((Below.refl _ _).alloc (Nat.le_refl _) _)
  have HX : Hid (Turns (OwnB B) (OwnB B) w (w.alloc (.cells #[.int .u32 (a : Int), .int .i64 (n : Int)] 29))) := Turns.alloc _ _ _
  have c0 := hP.cell 0 _ rfl
  have c1 := hP.cell 1 _ rfl
  go_enter Tryd.func26, Tryd.ntmps26
  go_wp2
  try rw [hD]
  obtain ⟨w1, hw1⟩ : ∃ w1, w.alloc (.cells #[.int .u32 (a : Int), .int .i64 (n : Int)] 29) = w1 := ⟨_, rfl⟩
  have hs1 : w1.heap.size = D + 1 := by rw [← hw1]; simp [hD]
  rw [hw1] at hP hT1 HX c0 c1 ⊢
  go_loopw [0, 9] (fun p i wr => ∃ k j B', k ≤ n ∧ p = .pointer (some ⟨j, 0, none⟩) ∧ B' k (a / 2 ^ (32 - k)) = some j ∧ i = .int .i64 (k : Int) ∧ Tab wr b L B' ∧ Blk wr D 29 [.int .u32 (a : Int), .int .i64 (n : Int)] ∧ Turns (OwnB B) (OwnB B') w1 wr) (fun _ i _ => n - (intOf i).toNat)
  case atStart => exact ⟨0, b, B, Nat.zero_le _, rfl, by rw [show a / 2 ^ (32 - 0) = 0 from Nat.div_eq_of_lt ha, hr], rfl, hT1, hP, Turns.refl _ _⟩
  case round =>
    clear hT1 hP c0 c1 hT hr hw1
    obtain ⟨k, j, B', hk, rfl, hj, rfl, hT, hP, hX⟩ := hrel
    have c0 := hP.cell 0 _ rfl
    have c1 := hP.cell 1 _ rfl
    have k0 : (0 : Int) ≤ (k : Int) := by omega
    have k1 : (k : Int) ≤ 32 := by omega
    have hB := hT.blk _ _ _ hj
    by_cases hlt : k < n
    · have d0 : decide ((k : Int) < (n : Int)) = true := decide_eq_true (by omega)
      have f1 := bit_any a k (by omega)
      have hb := bt_lt a k
      have hw := hT.shape.way (a := a) (k := k) (by omega)
      obtain h0 | h0 : bt a k = 0 ∨ bt a k = 1 := by omega
      · rw [h0] at f1 hw
        replace hw : B' (k + 1) (2 * (a / 2 ^ (32 - k))) = B' (k + 1) (a / 2 ^ (32 - (k + 1))) := hw
        have c4 := hB.cell 4 _ rfl
        have z4 := hB.frozen 4
        rw [hw] at c4
        have f1' : ∀ W, Calls Tryd.prog 25 #[.int .u32 (a : Int), .int .i64 (k : Int)] W fun e w' => e = .returned (.int .u32 0) ∧ w' = W := f1
        have hjl := hT.lt hj
        clear f1 hB
        cases hq : B' (k + 1) (a / 2 ^ (32 - (k + 1))) with
        | some q =>
          rw [hq, ptr_some] at c4
          have HQ : Hid (B' (k + 1) (a / 2 ^ (32 - (k + 1))) = some q) := hq
          clear hq hw h0
          go_wp2_with (go_at_call 25; (with_reducible refine (f1' _).mono ?_); rintro e w3 ⟨rfl, hq⟩; have hq := hq.symm; subst hq)
          go_roundw
          case rel => exact ⟨k + 1, q, B', by omega, rfl, HQ.out, by go_num, hT, hP, hX⟩
          case measure => simp [intOf]; omega
        | none =>
          rw [hq, ptr_none] at c4
          have HE : Hid (Tab ((wr.alloc (.cells #[.bool false, .int .u32 0, .int .i64 0, .int .i64 0, .pointer none, .pointer none] 47)).setCell ⟨j, 4, none⟩ (.pointer (some ⟨wr.heap.size, 0, none⟩))) b L (pth.ext B' (k + 1) (a / 2 ^ (32 - (k + 1))) wr.heap.size)) := by
            have := hT.ext hj (i := 0) (by omega) (by omega) (by rw [← hq, ← hw]; rfl)
            rw [← h0, pth.way (by omega)] at this
            rw [h0] at this
            exact this
          have HR : Hid (pth.ext B' (k + 1) (a / 2 ^ (32 - (k + 1))) wr.heap.size (k + 1) (a / 2 ^ (32 - (k + 1))) = some wr.heap.size) := ext_same _ _ _ _
          have HS : Hid (Turns (OwnB B) (OwnB (pth.ext B' (k + 1) (a / 2 ^ (32 - (k + 1))) wr.heap.size)) w1 ((wr.alloc (.cells #[.bool false, .int .u32 0, .int .i64 0, .int .i64 0, .pointer none, .pointer none] 47)).setCell ⟨j, 4, none⟩ (.pointer (some ⟨wr.heap.size, 0, none⟩)))) := hX.trans (hT.ext_turns hj)
          have hDj : D ≠ j := fun e => by
            subst e
            rcases hX.new D ⟨_, _, hj⟩ with h | h
            · exact hDB h
            · omega
          have HP : Hid (Blk ((wr.alloc (.cells #[.bool false, .int .u32 0, .int .i64 0, .int .i64 0, .pointer none, .pointer none] 47)).setCell ⟨j, 4, none⟩ (.pointer (some ⟨wr.heap.size, 0, none⟩))) D 29 [.int .u32 (a : Int), .int .i64 (n : Int)]) := (hP.alloc _).other hDj _
          rw [World.setCell_alloc_past _ _ _ _ hjl] at HE HS HP
          clear hq hw h0 hT hX hP hDj
          go_wp2_with (go_at_call 25; (with_reducible refine (f1' _).mono ?_); rintro e w3 ⟨rfl, hq⟩; have hq := hq.symm; subst hq)
          go_roundw
          case rel => exact ⟨k + 1, wr.heap.size, _, by omega, rfl, HR.out, by go_num, HE.out, HP.out, HS.out⟩
          case measure => simp [intOf]; omega
      · rw [h0] at f1 hw
        skip
        have c4 := hB.cell 5 _ rfl
        have z4 := hB.frozen 5
        rw [hw] at c4
        have f1' : ∀ W, Calls Tryd.prog 25 #[.int .u32 (a : Int), .int .i64 (k : Int)] W fun e w' => e = .returned (.int .u32 1) ∧ w' = W := f1
        have hjl := hT.lt hj
        clear f1 hB
        cases hq : B' (k + 1) (a / 2 ^ (32 - (k + 1))) with
        | some q =>
          rw [hq, ptr_some] at c4
          have HQ : Hid (B' (k + 1) (a / 2 ^ (32 - (k + 1))) = some q) := hq
          clear hq hw h0
          go_wp2_with (go_at_call 25; (with_reducible refine (f1' _).mono ?_); rintro e w3 ⟨rfl, hq⟩; have hq := hq.symm; subst hq)
          go_roundw
          case rel => exact ⟨k + 1, q, B', by omega, rfl, HQ.out, by go_num, hT, hP, hX⟩
          case measure => simp [intOf]; omega
        | none =>
          rw [hq, ptr_none] at c4
          have HE : Hid (Tab ((wr.alloc (.cells #[.bool false, .int .u32 0, .int .i64 0, .int .i64 0, .pointer none, .pointer none] 47)).setCell ⟨j, 5, none⟩ (.pointer (some ⟨wr.heap.size, 0, none⟩))) b L (pth.ext B' (k + 1) (a / 2 ^ (32 - (k + 1))) wr.heap.size)) := by
            have := hT.ext hj (i := 1) (by omega) (by omega) (by rw [← hq, ← hw])
            rw [← h0, pth.way (by omega)] at this
            rw [h0] at this
            exact this
          have HR : Hid (pth.ext B' (k + 1) (a / 2 ^ (32 - (k + 1))) wr.heap.size (k + 1) (a / 2 ^ (32 - (k + 1))) = some wr.heap.size) := ext_same _ _ _ _
          have HS : Hid (Turns (OwnB B) (OwnB (pth.ext B' (k + 1) (a / 2 ^ (32 - (k + 1))) wr.heap.size)) w1 ((wr.alloc (.cells #[.bool false, .int .u32 0, .int .i64 0, .int .i64 0, .pointer none, .pointer none] 47)).setCell ⟨j, 5, none⟩ (.pointer (some ⟨wr.heap.size, 0, none⟩)))) := hX.trans (hT.ext_turns hj)
          have hDj : D ≠ j := fun e => by
            subst e
            rcases hX.new D ⟨_, _, hj⟩ with h | h
            · exact hDB h
            · omega
          have HP : Hid (Blk ((wr.alloc (.cells #[.bool false, .int .u32 0, .int .i64 0, .int .i64 0, .pointer none, .pointer none] 47)).setCell ⟨j, 5, none⟩ (.pointer (some ⟨wr.heap.size, 0, none⟩))) D 29 [.int .u32 (a : Int), .int .i64 (n : Int)]) := (hP.alloc _).other hDj _
          rw [World.setCell_alloc_past _ _ _ _ hjl] at HE HS HP
          clear hq hw h0 hT hX hP hDj
          go_wp2_with (go_at_call 25; (with_reducible refine (f1' _).mono ?_); rintro e w3 ⟨rfl, hq⟩; have hq := hq.symm; subst hq)
          go_roundw
          case rel => exact ⟨k + 1, wr.heap.size, _, by omega, rfl, HR.out, by go_num, HE.out, HP.out, HS.out⟩
          case measure => simp [intOf]; omega
    · obtain rfl : k = n := by omega
      have d0 : decide ((k : Int) < (k : Int)) = false := decide_eq_false (by omega)
      clear hB c0 c1
      go_wp2
      go_ret
      exact ⟨j, B', rfl, hj, hT, HX.out.trans hX⟩
theorem Tab.put {w w' : World} {b : Nat} {L : List En} {B : Nat → Nat → Option Nat} (h : Tab w b L B) {n v p j : Nat} (hj : B n v = some j) (hp : p < 8)
    (hw : ∀ k, k ≠ j → k ≠ b → w'.heap[k]? = w.heap[k]?)
    (h1 : Blk w' j (tyN n) (cellsN (some p) n v (B (n + 1) (2 * v)) (B (n + 1) (2 * v + 1)) ++ tailN n (ins (v * 2 ^ (32 - n), n, p) L).length))
    (h2 : j ≠ b → Blk w' b (tyN 0) (cellsN (at' L 0 0) 0 0 (B 1 0) (B 1 1) ++ tailN 0 (ins (v * 2 ^ (32 - n), n, p) L).length)) : Tab w' b (ins (v * 2 ^ (32 - n), n, p) L) B := by
  obtain ⟨d1, d2⟩ := h.shape.dom _ _ _ hj
  have hok : Ok (ins (v * 2 ^ (32 - n), n, p) L) := h.ok.ins ⟨d1, by
    have := (Nat.mul_lt_mul_right (two_pos (32 - n))).2 d2
    rw [two_up d1] at this
    exact this, Nat.mul_mod_left _ _, hp⟩
  refine ⟨hok, ⟨h.shape.root, h.shape.dom, h.shape.inj, h.shape.up, fun d u q hq => ?_⟩, fun d u q hq => ?_⟩
  · rw [at_ins h.ok.rising] at hq
    split at hq
    · rename_i c
      obtain ⟨rfl, rfl⟩ := c
      exact ⟨j, hj⟩
    · exact h.shape.all d u q hq
  · rw [at_ins h.ok.rising]
    by_cases c : d = n ∧ u = v
    · rw [if_pos c]
      obtain ⟨rfl, rfl⟩ := c
      rw [hj] at hq
      cases hq
      exact h1
    · rw [if_neg c]
      have hqj : q ≠ j := fun e => by subst e; exact c (h.shape.inj _ _ _ _ _ hq hj)
      by_cases e : q = b
      · subst e
        obtain ⟨rfl, rfl⟩ := h.shape.inj _ _ _ _ _ hq h.shape.root
        exact h2 (fun e => hqj e.symm)
      · have hd : d ≠ 0 := fun e0 => by
          subst e0
          have := (h.shape.dom _ _ _ hq).2
          obtain rfl : u = 0 := by simp at this; omega
          rw [h.shape.root] at hq
          cases hq
          exact e rfl
        have hb := h.blk d u q hq
        have ht : ∀ m, tailN d m = [] := fun m => by unfold tailN; rw [if_neg hd]
        rw [ht] at hb ⊢
        unfold Blk at hb ⊢
        rw [hw q hqj e]
        exact hb
theorem len_new {L : List En} (h : Ok L) {n v p : Nat} (hn : at' L n v = none) : (ins (v * 2 ^ (32 - n), n, p) L).length = L.length + 1 :=
  len_ins_new _ L fun f hf hs => by
    obtain ⟨f1, f2, f3⟩ := f
    obtain ⟨s1, s2⟩ := hs
    simp only at s1 s2
    subst s1 s2
    exact (at_none h.rising).1 hn f3 hf
theorem len_old {L : List En} (h : Ok L) {n v p q : Nat} (hn : at' L n v = some q) : (ins (v * 2 ^ (32 - n), n, p) L).length = L.length :=
  len_ins_old _ L h.rising ⟨_, (at_some h.rising).1 hn, rfl, rfl⟩
theorem node_num {a n : Nat} (ha : a % 2 ^ (32 - n) = 0) : a / 2 ^ (32 - n) * 2 ^ (32 - n) = a := by
  have := Nat.div_add_mod a (2 ^ (32 - n))
  rw [ha, Nat.mul_comm] at this
  omega
set_option maxHeartbeats 3200000 in
theorem put_any (b : Nat) (L : List En) (B : Nat → Nat → Option Nat) (a n p : Nat) (ha : a < 4294967296) (hn : n ≤ 32) (hm : a % 2 ^ (32 - n) = 0) (hp : p < 8) (hL : L.length ≤ 64) (w : World) (hT : Tab w b L B) :
    Calls Tryd.prog 18 #[.pointer (some ⟨b, 0, none⟩), .agg #[.int .u32 (a : Int), .int .i64 (n : Int), .int .i64 (p : Int)]] w fun e w' => ∃ B', e = .returned (.tuple #[]) ∧ Tab w' b (ins (a, n, p) L) B' ∧ Turns (OwnB B) (OwnB B') w w' := by
  obtain ⟨D, hD⟩ : ∃ D, w.heap.size = D := ⟨_, rfl⟩
  have hDB : ¬ OwnB B D := fun ⟨d, v, h⟩ => by have := hT.lt h; omega
  have hP : Blk (w.alloc (.cells #[.int .u32 (a : Int), .int .i64 (n : Int), .int .i64 (p : Int)] 31)) D 31 [.int .u32 (a : Int), .int .i64 (n : Int), .int .i64 (p : Int)] := by rw [← hD]; exact Blk.new w 31 _ _ rfl
  have hT1 : Tab (w.alloc (.cells #[.int .u32 (a : Int), .int .i64 (n : Int), .int .i64 (p : Int)] 31)) b L B := hT.below ((Below.refl _ _).alloc (Nat.le_refl _) _)
  have HX : Hid (Turns (OwnB B) (OwnB B) w (w.alloc (.cells #[.int .u32 (a : Int), .int .i64 (n : Int), .int .i64 (p : Int)] 31))) := Turns.alloc _ _ _
  obtain ⟨w1, hw1⟩ : ∃ w1, w.alloc (.cells #[.int .u32 (a : Int), .int .i64 (n : Int), .int .i64 (p : Int)] 31) = w1 := ⟨_, rfl⟩
  have hs1 : w1.heap.size = D + 1 := by rw [← hw1]; simp [hD]
  rw [hw1] at hP hT1 HX
  have c0 := hP.cell 0 _ rfl
  have c1 := hP.cell 1 _ rfl
  have c2 := hP.cell 2 _ rfl
  go_enter Tryd.func18, Tryd.ntmps18
  go_wp2
  try rw [hw1]
  have f1' := fun W (hW : Tab W b L B) => reach_any b L B a n ha hn W hW
  go_region_with (go_at_call 26; (with_reducible refine (f1' _ (by exact hT1.drew)).mono ?_); rintro e w3 ⟨j, B', rfl, hj, hT3, hX3⟩)
  have hP3 : Blk w3 D 31 [.int .u32 (a : Int), .int .i64 (n : Int), .int .i64 (p : Int)] := hX3.blk hP.drew hDB
  have hX4 : Turns (OwnB B) (OwnB B') w w3 := HX.out.trans ((Turns.drew _ _).trans hX3)
  have hDj : D ≠ j := fun e => by
    subst e
    rcases hX3.new D ⟨_, _, hj⟩ with h | h
    · exact hDB h
    · rw [show w1.drew.heap.size = w1.heap.size from rfl] at h; omega
  have hDb : D ≠ b := fun e => by
    subst e
    exact hDB ⟨_, _, hT.shape.root⟩
  clear hT1 hX3 HX hP f1' c0 c1 c2
  obtain ⟨v, hv⟩ : ∃ v, a / 2 ^ (32 - n) = v := ⟨_, rfl⟩
  have hav : v * 2 ^ (32 - n) = a := by rw [← hv]; exact node_num hm
  rw [hv] at hj
  have HJ : Hid (B' n v = some j) := hj
  have HW : Hid (∀ w', (∀ k, k ≠ j → k ≠ b → w'.heap[k]? = w3.heap[k]?) → Blk w' j (tyN n) (cellsN (some p) n v (B' (n + 1) (2 * v)) (B' (n + 1) (2 * v + 1)) ++ tailN n (ins (a, n, p) L).length) →
      (j ≠ b → Blk w' b (tyN 0) (cellsN (at' L 0 0) 0 0 (B' 1 0) (B' 1 1) ++ tailN 0 (ins (a, n, p) L).length)) → Tab w' b (ins (a, n, p) L) B') := fun w' h0 h1 h2 => by
    rw [← hav] at h1 h2 ⊢
    exact hT3.put hj hp h0 h1 h2
  have hBj := hT3.blk _ _ _ hj
  have hBb := hT3.blk _ _ _ hT3.shape.root
  have hnew : at' L n v = none → (ins (a, n, p) L).length = L.length + 1 := fun h => by rw [← hav]; exact len_new hT.ok h
  have hold : ∀ q, at' L n v = some q → (ins (a, n, p) L).length = L.length := fun q h => by rw [← hav]; exact len_old hT.ok h
  have hroot := hT3.shape.root
  have hT3i := hT3.shape.inj
  have l0 : (0 : Int) ≤ (L.length : Int) := by omega
  have l1 : (L.length : Int) ≤ 64 := by omega
  have p0 := hP3.cell 0 _ rfl
  have p1 := hP3.cell 1 _ rfl
  have p2 := hP3.cell 2 _ rfl
  clear hT hT3 hv hm
  have ha' : (adC (some p) n v : Int) = (a : Int) := by simp [adC, hav]
  have hown : OwnB B' j := ⟨_, _, hj⟩
  have hownb : OwnB B' b := ⟨_, _, hroot⟩
  cases n with
  | zero =>
    obtain rfl : v = 0 := by simp at hav; omega
    have hjb : b = j := by rw [hroot] at hj; cases hj; rfl
    subst hjb
    clear hj hroot hBb hownb
    cases ho : at' L 0 0 with
    | none =>
      rw [ho] at hBj
      have hnw := hnew ho
      have c0 := hBj.cell 0 _ rfl
      have z0 := hBj.frozen 0
      have c1 := hBj.cell 1 _ rfl
      have z1 := hBj.frozen 1
      have c2 := hBj.cell 2 _ rfl
      have z2 := hBj.frozen 2
      have c3 := hBj.cell 3 _ rfl
      have z3 := hBj.frozen 3
      have c6 := hBj.cell 6 _ rfl
      have z6 := hBj.frozen 6
      clear hnew hold ho
      go_wp2
      go_region
      refine ⟨rfl, .tuple #[], results_none Tryd.results18 _ _ _, B', rfl, HW.out _ (fun k k1 _ => ?_) ?_ (fun h => absurd rfl h), ?_⟩
      · rw [show ∀ W : World, W.drew.heap = W.heap from fun _ => rfl]
        repeat rw [show ∀ (W : World) i v, (W.setCell ⟨b, i, none⟩ v).heap[k]? = W.heap[k]? from fun W i v => Below.heap_setCell _ _ _ _ k1]
      · have := (((((hBj.set 6 (.int .i64 ((L.length : Int) + 1))).set 0 (.bool true)).set 1 (.int .u32 (a : Int))).set 2 (.int .i64 0)).set 3 (.int .i64 (p : Int)))
        rw [hnw]
        unfold cellsN
        rw [ha']
        exact this
      · exact (((((hX4.trans (Turns.set _ hown 6 _)).trans (Turns.set _ hown 0 _)).trans (Turns.set _ hown 1 _)).trans (Turns.set _ hown 2 _)).trans (Turns.set _ hown 3 _)).trans (Turns.drew _ _)
    | some q =>
      rw [ho] at hBj
      have hnw := hold q ho
      have c0 := hBj.cell 0 _ rfl
      have z0 := hBj.frozen 0
      have c1 := hBj.cell 1 _ rfl
      have z1 := hBj.frozen 1
      have c2 := hBj.cell 2 _ rfl
      have z2 := hBj.frozen 2
      have c3 := hBj.cell 3 _ rfl
      have z3 := hBj.frozen 3
      have c6 := hBj.cell 6 _ rfl
      have z6 := hBj.frozen 6
      clear hnew hold ho
      go_wp2
      go_region
      refine ⟨rfl, .tuple #[], results_none Tryd.results18 _ _ _, B', rfl, HW.out _ (fun k k1 _ => ?_) ?_ (fun h => absurd rfl h), ?_⟩
      · rw [show ∀ W : World, W.drew.heap = W.heap from fun _ => rfl]
        repeat rw [show ∀ (W : World) i v, (W.setCell ⟨b, i, none⟩ v).heap[k]? = W.heap[k]? from fun W i v => Below.heap_setCell _ _ _ _ k1]
      · have := ((((hBj.set 0 (.bool true)).set 1 (.int .u32 (a : Int))).set 2 (.int .i64 0)).set 3 (.int .i64 (p : Int)))
        rw [hnw]
        unfold cellsN
        rw [ha']
        exact this
      · exact ((((hX4.trans (Turns.set _ hown 0 _)).trans (Turns.set _ hown 1 _)).trans (Turns.set _ hown 2 _)).trans (Turns.set _ hown 3 _)).trans (Turns.drew _ _)
  | succ n =>
    have hjb : j ≠ b := fun e => by
      subst e
      have := hT3i _ _ _ _ _ hj hroot
      omega
    have hbj : b ≠ j := fun e => hjb e.symm
    clear hroot
    cases ho : at' L (n + 1) v with
    | none =>
      rw [ho] at hBj
      have hnw := hnew ho
      have c0 := hBj.cell 0 _ rfl
      have z0 := hBj.frozen 0
      have c1 := hBj.cell 1 _ rfl
      have z1 := hBj.frozen 1
      have c2 := hBj.cell 2 _ rfl
      have z2 := hBj.frozen 2
      have c3 := hBj.cell 3 _ rfl
      have z3 := hBj.frozen 3
      have cb6 := hBb.cell 6 _ rfl
      have zb6 := hBb.frozen 6
      clear hnew hold ho
      go_wp2
      go_region
      refine ⟨rfl, .tuple #[], results_none Tryd.results18 _ _ _, B', rfl, HW.out _ (fun k k1 k2 => ?_) ?_ (fun _ => ?_), ?_⟩
      · rw [show ∀ W : World, W.drew.heap = W.heap from fun _ => rfl]
        repeat rw [show ∀ (W : World) i v, (W.setCell ⟨j, i, none⟩ v).heap[k]? = W.heap[k]? from fun W i v => Below.heap_setCell _ _ _ _ k1]
        rw [show ∀ (W : World) i v, (W.setCell ⟨b, i, none⟩ v).heap[k]? = W.heap[k]? from fun W i v => Below.heap_setCell _ _ _ _ k2]
      · have := (((((hBj.other hjb (.int .i64 ((L.length : Int) + 1)) (a := ⟨b, 6, none⟩)).set 0 (.bool true)).set 1 (.int .u32 (a : Int))).set 2 (.int .i64 ((n + 1 : Nat) : Int))).set 3 (.int .i64 (p : Int)))
        unfold cellsN
        rw [ha']
        exact this
      · have := (((((hBb.set 6 (.int .i64 ((L.length : Int) + 1))).other hbj (.bool true) (a := ⟨j, 0, none⟩)).other hbj (.int .u32 (a : Int)) (a := ⟨j, 1, none⟩)).other hbj (.int .i64 ((n + 1 : Nat) : Int)) (a := ⟨j, 2, none⟩)).other hbj (.int .i64 (p : Int)) (a := ⟨j, 3, none⟩))
        rw [hnw]
        exact this
      · exact (((((hX4.trans (Turns.set _ hownb 6 _)).trans (Turns.set _ hown 0 _)).trans (Turns.set _ hown 1 _)).trans (Turns.set _ hown 2 _)).trans (Turns.set _ hown 3 _)).trans (Turns.drew _ _)
    | some q =>
      rw [ho] at hBj
      have hnw := hold q ho
      have c0 := hBj.cell 0 _ rfl
      have z0 := hBj.frozen 0
      have c1 := hBj.cell 1 _ rfl
      have z1 := hBj.frozen 1
      have c2 := hBj.cell 2 _ rfl
      have z2 := hBj.frozen 2
      have c3 := hBj.cell 3 _ rfl
      have z3 := hBj.frozen 3
      have cb6 := hBb.cell 6 _ rfl
      have zb6 := hBb.frozen 6
      clear hnew hold ho
      go_wp2
      go_region
      refine ⟨rfl, .tuple #[], results_none Tryd.results18 _ _ _, B', rfl, HW.out _ (fun k k1 k2 => ?_) ?_ (fun _ => ?_), ?_⟩
      · rw [show ∀ W : World, W.drew.heap = W.heap from fun _ => rfl]
        repeat rw [show ∀ (W : World) i v, (W.setCell ⟨j, i, none⟩ v).heap[k]? = W.heap[k]? from fun W i v => Below.heap_setCell _ _ _ _ k1]
        skip
      · have := ((((hBj.set 0 (.bool true)).set 1 (.int .u32 (a : Int))).set 2 (.int .i64 ((n + 1 : Nat) : Int))).set 3 (.int .i64 (p : Int)))
        unfold cellsN
        rw [ha']
        exact this
      · have := ((((hBb.other hbj (.bool true) (a := ⟨j, 0, none⟩)).other hbj (.int .u32 (a : Int)) (a := ⟨j, 1, none⟩)).other hbj (.int .i64 ((n + 1 : Nat) : Int)) (a := ⟨j, 2, none⟩)).other hbj (.int .i64 (p : Int)) (a := ⟨j, 3, none⟩))
        rw [hnw]
        exact this
      · exact ((((hX4.trans (Turns.set _ hown 0 _)).trans (Turns.set _ hown 1 _)).trans (Turns.set _ hown 2 _)).trans (Turns.set _ hown 3 _)).trans (Turns.drew _ _)
end Go.Proofs.YtmkhojaddedpfaaDoor.pth
