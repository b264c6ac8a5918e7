/-
  OwnTables: whatever steps, whatever key and text: what a table tells (All) and what Derive tells is new memory: written over, it turns nothing. (The tied card: package blake's three tables and package sha's roots as start-up lays them.)
-/
import Derived.Test.YtmkhojaddedpfaaDoorKeepTable
import Derived.Test.YtmkhojaddedpfaaDoorKdfFace
import Derived.Test.YtmkhojaddedpfaaDoorBundle3
import Derived.Test.YtmkhojaddedpfaaDoorCards
import Derived.Test.YtmkhojaddedpfaaDoorTie
import Derived.SevenTiedAt
import Derived.SizedLaws
namespace Go.Proofs.YtmkhojaddedpfaaDoor.ownTables
open Go.ChangeShapes Go.WideShapes Go.ChangeAt Go.RowKit
open Go.ChangeMaps (open_string shut_string)
open pth
open kdf (Keys dg macT laidK tabs tabs_met)

set_option maxHeartbeats 400000 in
/-- Two lists of the same texts. -/
theorem eq_strs (ba bb n ca cb : Nat) (f : Nat → ByteArray) (hn : n ≤ 1073741824) (w : World)
    (ha : ∀ j, j < n → w.cell? ⟨ba, j, none⟩ = some (.string (f j))) (hb : ∀ j, j < n → w.cell? ⟨bb, j, none⟩ = some (.string (f j))) :
    Calls Tryd.prog 8 #[.slice (some ⟨ba, 0, none⟩) n ca, .slice (some ⟨bb, 0, none⟩) n cb] w fun e w' => e = .returned (.bool true) ∧ w' = w := by
  go_enter Tryd.func8, Tryd.ntmps8
  go_wp2
  go_loop [14] (fun i => ∃ k : Nat, k ≤ n ∧ i = .int .i64 k) (fun i => n - (intOf i).toNat)
  case atStart => exact ⟨0, Nat.zero_le _, rfl⟩
  case round =>
    obtain ⟨k, hk, rfl⟩ := hrel
    by_cases hlt : k < n
    · have h1 := ha k hlt
      have h2 := hb k hlt
      clear ha hb
      go_wp2
      go_round
      case rel => exact ⟨k + 1, by omega, by go_num⟩
      case measure => simp [intOf]; omega
    · clear ha hb
      go_wp2
      go_ret
      exact ⟨rfl, rfl⟩
theorem grown_trans {a b c : World} {row : Option Nat} (h : a.grownBy b row) (k : b.grownBy c row) : a.grownBy c row :=
  ⟨k.os.trans h.os, k.tape.trans h.tape, k.output.trans h.output, Nat.le_trans h.size k.size, fun i hi hne => (k.block i (Nat.lt_of_lt_of_le hi h.size) hne).trans (h.block i hi hne)⟩
theorem grown_set {a w : World} {g : Nat} (h : a.grownBy w (some g)) (o : Nat) (v : Value) : a.grownBy (w.setCell ⟨g, o, none⟩ v) (some g) :=
  grown_trans h ⟨((Below.refl 0 w).setCell (p := ⟨g, o, none⟩) (Nat.zero_le _) v).os, ((Below.refl 0 w).setCell (p := ⟨g, o, none⟩) (Nat.zero_le _) v).tape, ((Below.refl 0 w).setCell (p := ⟨g, o, none⟩) (Nat.zero_le _) v).output, ((Below.refl 0 w).setCell (p := ⟨g, o, none⟩) (Nat.zero_le _) v).size,
    fun k _ hk => Below.heap_setCell _ _ _ _ (fun e => hk (by have e : k = g := e; rw [e]))⟩
theorem form_any {w : World} {C n cap : Nat} {a : Option Addr} {xs : List Value} {e sz : Nat} (h : w.ownsRow C e sz (.slice a n cap) n xs) {g : Nat} (hg : (Value.slice a n cap).ownBlock = some g) : a = some ⟨g, 0, none⟩ := by
  rcases h.2 with ⟨e1, _⟩ | ⟨g', cp, cur, e1, _⟩
  · rw [e1] at hg; cases hg
  · rw [e1] at hg
    have : g' = g := by simpa [Value.ownBlock] using hg
    subst this
    injection e1
set_option maxRecDepth 100000 in
/-- Where path k lies. -/
theorem at_any {w : World} {C n cap : Nat} {a : Option Addr} {xs : List Value} (h : w.ownsRow C 31 3 (.slice a n cap) n xs) (k : Nat) (hk : k < n) :
    ∃ g o, (Value.slice a n cap).ownBlock = some g ∧ (∀ W : World, (Instr.indexAt 25 (.slice a n cap) (.int .i64 (k : Int))).run Tryd.prog W = .ok (.pointer (some ⟨g, o, none⟩)) W) ∧
      (∃ v, w.cell? ⟨g, o, none⟩ = some v) ∧ (∃ v, w.cell? ⟨g, o + 1, none⟩ = some v) ∧ (∃ v, w.cell? ⟨g, o + 2, none⟩ = some v) ∧ ∀ j, w.frozen? ⟨g, j, none⟩ = false := by
  obtain ⟨g, cap', e, _⟩ := h.form (by omega)
  obtain rfl : a = some ⟨g, 0, none⟩ := by injection e
  obtain rfl : cap' = cap := by injection e with _ _ e3; exact e3.symm
  have hl := h.1
  have hc : ∀ j, j < 3 → ∃ v, w.cell? ⟨g, k * 3 + j, none⟩ = some v := fun j hj => ⟨xs[k * 3 + j]'(by omega), by rw [h.cellAt (k * 3 + j) (by omega)]; exact List.getElem?_eq_getElem _⟩
  refine ⟨g, k * 3, rfl, fun W => ?_, hc 0 (by omega), hc 1 (by omega), hc 2 (by omega), fun j => h.frozenAt j⟩
  rw [run_indexAt_slice (h := Tryd.underlying25), if_pos ⟨by omega, by omega⟩]
  have hi : (Tryd.prog.info? 31).map (fun i => i.size) = some 3 := by kernel_rfl
  obtain ⟨i0, hi0, hs⟩ := Option.map_eq_some_iff.1 hi
  have hz : (sizeOf 31).run Tryd.prog W = .ok 3 W := by simp [sizeOf, typeInfo, hi0, hs]
  rw [show Tryd.prog.elem 25 = 31 from by kernel_rfl, hz]
  by_cases h0 : k = 0
  · subst h0; simp [Addr.add]
  · have h8 : ¬ k * 3 = 0 := by omega
    simp [Addr.add, h8]
theorem stored_any {w : World} {C n cap : Nat} {a : Option Addr} {xs : List Value} {e sz : Nat} (h : w.ownsRow C e sz (.slice a n cap) n xs) {g : Nat} (hg : (Value.slice a n cap).ownBlock = some g) (j : Nat) (u : Value) : (w.setCell ⟨g, j, none⟩ u).ownsRow C e sz (.slice a n cap) n (xs.set j u) := by
  have := form_any h hg
  subst this
  exact (h.stored j u).1
set_option maxRecDepth 100000 in
set_option maxHeartbeats 6400000 in
theorem walk (w : World) (av : Option Addr) (n c : Nat) (zs : List StepV) (hi : Steps w w.heap.size av n zs) (hr : n * 64 ≤ reachBytes) (hz : ∀ z ∈ zs, z.Fits)
    (key : ByteArray) (hk : key.size ≤ reachBytes) (s : ByteArray) (hs : s.size ≤ reachBytes) (hT : kdf.Tab w) :
    Calls Tryd.prog 3 #[.slice av n c, .string key, .string s] w fun e w' => e = .returned (.bool true) ∧ Below w.heap.size w w' := by
  have hrb : reachBytes < 140737488355328 := by decide
  have f0 := table_any w av n c zs hi (by omega) hz
  obtain ⟨hok, hle⟩ := allL_fits zs hz
  generalize allL zs = L at *
  have f2 : ∀ W, Below w.heap.size w W → Calls Tryd.prog 6 #[.int .i64 2, .string key, .string s, .int .i64 3] W fun e w' =>
      (∃ b, e = .returned (.tuple #[.slice (some ⟨b, 0, none⟩) 3 3, .int .i64 0]) ∧ W.heap.size ≤ b ∧ Keys (dg 1) (macT (dg 1) key s) 3 b w') ∧ Below W.heap.size W w' := fun W h =>
    kdf.Derive_any 1 (by decide) key s (by omega) (by omega) 3 (by decide) (by decide) W (hT.grown h)
  generalize macT (dg 1) key s = P at *
  generalize dg 1 = DG at *
  obtain ⟨D, hD⟩ : ∃ D, w.heap.size = D := ⟨_, rfl⟩
  rw [hD] at f0 f2 ⊢
  have f1 := fun W B hW => All_any D L B hle W hW
  have f3 := fun va vb W h1 h2 => Eq_any (C := 0) va vb L L rfl rfl (by omega) W h1 h2
  have hLL : decide (L = L) = true := decide_eq_true rfl
  rw [hLL] at f3
  obtain ⟨q, hq⟩ : ∃ q, L.length = q := ⟨_, rfl⟩
  rw [hq] at f1 hle
  have HQ : Hid (L.length = q) := hq
  clear hi hr hk hs hrb hok hT hLL hq hz
  go_enter Tryd.func3, Tryd.ntmps3
  go_wp2_with (first
    | (go_at_call 4; (with_reducible refine f0.mono ?_); rintro e w1 ⟨rfl, hX1, B, hT1, hO1⟩
       have hs1 : D < w1.heap.size := hT1.lt hT1.shape.root)
    | (go_at_call 5; (with_reducible refine (f1 _ _ hT1).mono ?_); rintro e w2 ⟨v2, rfl, hr2, hb2⟩; obtain ⟨a2, k2, rfl⟩ := row_slice hr2
       have hT2 := hT1.below hb2
       have hX2 := hX1.trans (hb2.mono (Nat.le_of_lt hs1))
       have hs2 := Nat.lt_of_lt_of_le hs1 hb2.size)
    | (go_at_call 5; (with_reducible refine (f1 _ _ hT2).mono ?_); rintro e w3 ⟨v3, rfl, hr3, hb3⟩; obtain ⟨a3, k3, rfl⟩ := row_slice hr3
       have hT3 := hT2.below hb3
       have hr23 := row_below hr2 hb3 (fun j hj => (hr2.lt j hj).2)
       have hX3 := hX2.trans (hb3.mono (Nat.le_of_lt hs2))
       have hs3 := Nat.lt_of_lt_of_le hs2 hb3.size))
  have HT : Hid (∀ W, w3.grownBy W (Value.slice a2 q k2).ownBlock → Tab W D L B ∧ W.ownsRow w2.heap.size 31 3 (.slice a3 q k3) q (rows L) ∧ Below D w W) := fun W hg => by
    refine ⟨hT3.mono fun d v k hk => hg.block k (hT3.lt hk) (fun e => ?_), hr3.kept hg ?_, hX3.grown hg (Nat.le_of_lt hs3) (fun k hk => by have := (hr2.lt k hk).1; omega)⟩
    · have h1 := (hr2.lt k e.symm).1
      have h2 := hT1.lt hk
      omega
    · cases h : (Value.slice a3 q k3).ownBlock with
      | none => exact .inl rfl
      | some g => exact .inr (fun e => by have h1 := (hr3.lt g h).1; have h2 := (hr2.lt g e.symm).2; omega)
  have hR0 : w3.ownsRow w1.heap.size 31 3 (.slice a2 q k2) q (rows L) := hr23
  obtain ⟨C, hC⟩ : ∃ C, w1.heap.size = C := ⟨_, rfl⟩
  rw [hC] at hR0
  have HDw : Hid (D ≤ w3.heap.size) := Nat.le_of_lt hs3
  clear hr2 hr23 hr3 hT1 hT2 hT3 hX1 hX2 hX3 hb2 hb3 hs1 hs2 hs3 f0 hO1 hC
  go_loopw [28] (fun i wr => ∃ j xs, j ≤ q ∧ i = .int .i64 (j : Int) ∧ wr.ownsRow C 31 3 (.slice a2 q k2) q xs ∧ w3.grownBy wr (Value.slice a2 q k2).ownBlock) (fun i _ => q - (intOf i).toNat)
  case atStart => exact ⟨0, _, Nat.zero_le _, rfl, hR0, World.grownBy.refl _ _⟩
  case round =>
    clear hR0
    obtain ⟨j, xs, hj, rfl, hown, hgr⟩ := hrel
    have j0 : (0 : Int) ≤ (j : Int) := by omega
    have j1 : (j : Int) ≤ 64 := by omega
    by_cases hlt : j < q
    · have d0 : decide ((j : Int) < (q : Int)) = true := decide_eq_true (by omega)
      obtain ⟨g, o, hob, hix, ⟨v0, c0⟩, ⟨v1, c1⟩, ⟨v2, c2⟩, hz⟩ := at_any hown j hlt
      have z0 := hz o
      have z1 := hz (o + 1)
      have z2 := hz (o + 2)
      have HN : Hid ((∃ ys, (((wr.setCell ⟨g, o, none⟩ (.int .u32 0)).setCell ⟨g, o + 1, none⟩ (.int .i64 0)).setCell ⟨g, o + 2, none⟩ (.int .i64 99)).ownsRow C 31 3 (.slice a2 q k2) q ys) ∧
          w3.grownBy (((wr.setCell ⟨g, o, none⟩ (.int .u32 0)).setCell ⟨g, o + 1, none⟩ (.int .i64 0)).setCell ⟨g, o + 2, none⟩ (.int .i64 99)) (Value.slice a2 q k2).ownBlock) := by
        refine ⟨⟨_, stored_any (stored_any (stored_any hown hob _ _) hob _ _) hob _ _⟩, ?_⟩
        rw [hob] at hgr ⊢
        exact grown_set (grown_set (grown_set hgr _ _) _ _) _ _
      clear hown hgr hz hob
      go_wp2
      go_roundw
      case rel => obtain ⟨⟨ys, h1⟩, h2⟩ := HN.out; exact ⟨j + 1, ys, by omega, by go_num, h1, h2⟩
      case measure => simp [intOf]; omega
    · obtain rfl : j = q := by omega
      have d0 : decide ((j : Int) < (j : Int)) = false := decide_eq_false (by omega)
      obtain ⟨hTw, hrw, hXw⟩ := HT.out wr hgr
      have hDw : D ≤ wr.heap.size := Nat.le_trans HDw.out hgr.size
      generalize wr = W1 at *
      clear hown hgr HT HDw
      go_wp2_with (first
        | (go_at_call 6; (with_reducible refine (f2 _ hXw).mono ?_); rintro e w4 ⟨⟨bk, rfl, hbk, hK4⟩, hb4⟩
           have hX4 := hXw.trans (hb4.mono hDw)
           have hD4 := Nat.le_trans hDw hb4.size)
        | (go_at_call 6; (with_reducible refine (f2 _ hX4).mono ?_); rintro e w5 ⟨⟨bm, rfl, hbm, hM5⟩, hb5⟩
           have hX5 := hX4.trans (hb5.mono hD4)))
      have hlk := hK4.lt
      have HT2 : Hid (∀ W, w5.grownBy W (some bk) → Tab W D L B ∧ W.ownsRow w2.heap.size 31 3 (.slice a3 j k3) j (rows L) ∧ Below D w W ∧ (∀ x, x < 3 → W.cell? ⟨bm, x, none⟩ = some (.string (kdf.ky DG P (x + 1)))) ∧ bm < W.heap.size) := fun W hg => by
        have hT5 := (hTw.below hb4).below hb5
        have hr4 := row_below hrw hb4 (fun x hx => (hrw.lt x hx).2)
        have hr5 := row_below hr4 hb5 (fun x hx => (hr4.lt x hx).2)
        refine ⟨hT5.mono fun d v k hk => hg.block k (hT5.lt hk) (fun e => ?_), hr5.kept hg ?_, hX5.grown hg (Nat.le_trans hD4 hb5.size) (fun k hk => ?_), fun x hx => ?_, Nat.lt_of_lt_of_le hM5.lt hg.size⟩
        · injection e with e
          have := hTw.lt hk
          omega
        · cases h : (Value.slice a3 j k3).ownBlock with
          | none => exact .inl rfl
          | some g => exact .inr (fun e => by injection e with e; have := (hrw.lt g h).2; omega)
        · injection hk with hk
          omega
        · exact (World.cell?_of_block (hg.block bm hM5.lt (fun e => by injection e with e; omega))).trans (hM5.cell x hx)
      obtain ⟨l0, hl0, hB4⟩ := hK4.blk
      have hB5 := hB4.below hb5 hK4.lt
      have HD5 : Hid (D ≤ w5.heap.size) := Nat.le_trans hD4 hb5.size
      clear hTw hrw hXw hDw hK4 hM5 hX4 hX5 hb4 hb5 hbk hbm hlk hD4 hB4
      go_loopw [50] (fun i wr => ∃ x l, x ≤ 3 ∧ i = .int .i64 ((x : Nat) : Int) ∧ l.length = 3 ∧ Blk wr bk 9 l ∧ w5.grownBy wr (some bk)) (fun i _ => 3 - (intOf i).toNat)
      case atStart => exact ⟨0, l0, by omega, rfl, hl0, hB5, World.grownBy.refl _ _⟩
      case round =>
        clear hB5 hl0
        obtain ⟨x, l, hx, rfl, hl, hB, hgr⟩ := hrel
        have x0 : (0 : Int) ≤ (x : Int) := by omega
        by_cases hlt : x < 3
        · have d1 : decide ((x : Int) < 3) = true := decide_eq_true (by omega)
          have x1 : (x : Int) < 3 := by omega
          have c1 := hB.cell x (l[x]'(by omega)) (List.getElem?_eq_getElem _)
          have z1 := hB.frozen x
          have HN : Hid ((∃ l', l'.length = 3 ∧ Blk (wr.setCell ⟨bk, x, none⟩ (.string ⟨#[115, 112, 111, 105, 108, 116]⟩)) bk 9 l') ∧ w5.grownBy (wr.setCell ⟨bk, x, none⟩ (.string ⟨#[115, 112, 111, 105, 108, 116]⟩)) (some bk)) :=
            ⟨⟨l.set x _, by rw [List.length_set]; exact hl, hB.set x _⟩, grown_set hgr _ _⟩
          generalize l[x]'(by omega) = y at *
          clear hB hgr hl
          go_wp2
          go_roundw
          case rel => obtain ⟨⟨l', h1, h2⟩, h3⟩ := HN.out; exact ⟨x + 1, l', by omega, by go_num, h1, h2, h3⟩
          case measure => simp [intOf]; omega
        · obtain rfl : x = 3 := by omega
          have d1 : decide (((3 : Nat) : Int) < 3) = false := by decide
          rw [show ((3 : Nat) : Int) = 3 from rfl] at d1 ⊢
          obtain ⟨hTv, hrv, hXv, hcm, hbm⟩ := HT2.out wr hgr
          have hDv : D ≤ wr.heap.size := Nat.le_trans HD5.out hgr.size
          clear hB hgr hl HT2 x0
          go_wp2_with (first
            | (go_at_call 6; (with_reducible refine (f2 _ hXv).mono ?_); rintro e w6 ⟨⟨bn, rfl, hbn, hN6⟩, hb6⟩
               have hX6 := hXv.trans (hb6.mono hDv)
               have hT6 := hTv.below hb6
               have hr6 := row_below hrv hb6 (fun x hx => (hrv.lt x hx).2)
               have hD6 := Nat.le_trans hDv hb6.size
               have hm6 := Nat.lt_of_lt_of_le hbm hb6.size
               have hcm6 : ∀ x, x < 3 → w6.cell? ⟨bm, x, none⟩ = some (.string (kdf.ky DG P (x + 1))) := fun x hx => (hb6.cell (p := ⟨bm, x, none⟩) hbm).trans (hcm x hx))
            | (go_at_call 5; (with_reducible refine (f1 _ _ hT6).mono ?_); rintro e w7 ⟨v7, rfl, hr7, hb7⟩; obtain ⟨a7, k7, rfl⟩ := row_slice hr7
               have hX7 := hX6.trans (hb7.mono hD6)
               have hr67 := row_below hr6 hb7 (fun x hx => (hr6.lt x hx).2)
               have hD7 := Nat.le_trans hD6 hb7.size
               have hN7 := hN6.below hb7
               have hm7 := Nat.lt_of_lt_of_le hm6 hb7.size
               have hcm7 : ∀ x, x < 3 → w7.cell? ⟨bm, x, none⟩ = some (.string (kdf.ky DG P (x + 1))) := fun x hx => (hb7.cell (p := ⟨bm, x, none⟩) hm6).trans (hcm6 x hx)
               have f3' := f3 (.slice a7 j k7) (.slice a3 j k3) w7 (row_mono (by rw [HQ.out]; exact hr7) (Nat.zero_le _)) (row_mono (by rw [HQ.out]; exact hr67) (Nat.zero_le _)))
            | (go_at_call 7; (with_reducible refine f3'.mono ?_); rintro e w8 ⟨rfl, hb8⟩
               have hX8 := hX7.trans (hb8.mono hD7)
               have hN8 := hN7.below hb8
               have hcm8 : ∀ x, x < 3 → w8.cell? ⟨bm, x, none⟩ = some (.string (kdf.ky DG P (x + 1))) := fun x hx => (hb8.cell (p := ⟨bm, x, none⟩) hm7).trans (hcm7 x hx)
               have f4 := eq_strs bm bn 3 3 3 (fun x => kdf.ky DG P (x + 1)) (by omega) w8 hcm8 hN8.cell)
            | (go_at_call 8; (with_reducible refine f4.mono ?_); rintro e w9 ⟨rfl, hq⟩; have hq := hq.symm; subst hq))
          go_ret
          exact ⟨rfl, hX8⟩
/-! ### The row's step -/
set_option maxRecDepth 100000 in
theorem lifted (os : Os) (started : os.Started) (H : Type) (enc : TypeId × Value → H) :
    ReturnsInHanded {} Tryd.checked os 3 .any (fun w args => (Rows.ownTablesSpec.pre enc Tryd.prog Tryd.f3 [] false w args ∧ laidMetH Tryd.prog laidK w) ∧ sizedMet enc Tryd.prog Tryd.f3 (OpenSpec.ofChange Rows.ownTablesSpec) false w args)
      (Rows.ownTablesSpec.post enc Tryd.prog Tryd.f3 false true false false) := by
  refine returnsInHanded_of_change_and (C := Tryd.checked) (X := fun w _ => laidMetH Tryd.prog laidK w) (fun _ _ _ hh h => h.of_heap hh) own started (by kernel_rfl) Tryd.func3
    (ChangeSpec.witness_shaped (enc := enc) (C := Tryd.checked) (os := os) (X := fun w _ => laidMetH Tryd.prog laidK w) false (World.doorLaid Tryd.prog 400 os) #[.slice none 0 0, .string .empty, .string .empty] 8 rfl (World.shaped_of_RefB (by kernel_rfl) (by kernel_rfl)) (by kernel_rfl) (by kernel_rfl) (by kernel_rfl) (tabs_met os _)) ?_
  intro W base args ds gs before hval0 hW _ hz0 hL _
  have hz : (DataW.weightsEach Tryd.prog (Tryd.f3.params.toList ++ Rows.ownTablesSpec.plain.varTypes Tryd.prog) (ds ++ gs)).all (· ≤ reachBytes) = true := hz0
  clear hz0
  have hval : ∀ (j : Nat) t v, Tryd.f3.params[j]? = some t → args[j]? = some v → Value.okWide Tryd.prog W .any base t v := hval0
  have hW' := hW
  obtain ⟨p, q, hA0, hV, rfl, hfz, hnd⟩ := hW
  have hA : DataW.TrodAll enc Tryd.prog W 0 (fun _ => true) true Tryd.f3.params.toList args.toList ds p := hA0
  rw [Tryd.params3] at hA hval hz
  obtain ⟨v0, vs0, d0, ds0, p0, q0, hargs, rfl, rfl, h0, r0⟩ := trodAll_cons hA
  obtain ⟨v1, vs1, d1, ds1, p1, q1, rfl, rfl, rfl, h1, r1⟩ := trodAll_cons r0
  obtain ⟨v2, vs2, d2, ds2, p2, q2, rfl, rfl, rfl, h2, r2⟩ := trodAll_cons r1
  obtain ⟨rfl, rfl, rfl⟩ := trodAll_nil r2
  obtain rfl : args = #[v0, v1, v2] := by cases args; simp_all
  obtain ⟨rfl, rfl⟩ := trodVars_none hV
  obtain ⟨a0, n0, c0, rfl⟩ := okWide_slice Tryd.underlying22 (hval 0 22 v0 rfl rfl)
  have l0 : ∀ x ∈ p0, x.block < W.heap.size := fun x hx => by
    have := hW'.lt x (by simp [hx])
    simpa using this
  obtain ⟨z0, i0, b0, e0⟩ := step_open h0 l0
  have y0 : n0 * 64 ≤ reachBytes := by
    rcases e0 with ⟨_, e0⟩ | ⟨es, sp, e0, g0⟩
    · rw [e0]; decide
    · have h := sized_slice hz (j := 0) (t := 22) (e := 42) (by rfl) (by rw [e0]; rfl) Tryd.underlying22
      rw [bytesSTEP] at h
      try simp only [List.length_append] at h
      omega
  obtain ⟨s1, rfl, rfl, rfl, m1⟩ := open_string Tryd.underlying9 (hval 1 9 v1 rfl rfl) h1
  have z1 : s1.size ≤ reachBytes := by
    have h := sized_string hz (j := 1) (t := 9) (by rfl) rfl
    rwa [Array.length_toList] at h
  obtain ⟨s2, rfl, rfl, rfl, m2⟩ := open_string Tryd.underlying9 (hval 2 9 v2 rfl rfl) h2
  have z2 : s2.size ≤ reachBytes := by
    have h := sized_string hz (j := 2) (t := 9) (by rfl) rfl
    rwa [Array.length_toList] at h
  clear hA0 hval0 hz
  simp only [List.append_nil] at hW'
  refine (walk W a0 n0 c0 z0 i0 y0 b0 s1 z1 s2 z2 (tabs hL)).mono fun e W' ⟨he, hg⟩ => ?_
  subst he
  exact ⟨_, rfl, _, _, _, [], (p0 ++ ([] ++ ([] ++ []))), [], hW', trodAll_cons_mk (shut_bool Tryd.underlying4 _) trodAll_mk0, (trodAll_cons_mk (step_shut h0 l0 hg) (trodAll_cons_mk (shut_string Tryd.underlying9 m1) (trodAll_cons_mk (shut_string Tryd.underlying9 m2) trodAll_mk0))), rfl, hg.frame _, fun h => by cases h⟩

/-- THE ROW. -/
theorem row : Rows.OwnTablesSaid :=
  OpenClaim.holds_of_wide 3 Tryd.f3 rfl rfl rfl rfl rfl rfl rfl ⟨rfl, rfl, rfl, rfl, rfl⟩ rfl rfl rfl rfl rfl (by kernel_rfl) Tryd.func3 (by kernel_rfl)
    (of_decide_eq_true (by kernel_rfl)) (by unfold Func.isWrapper; first | (rw [if_pos (by decide +kernel)]; kernel_rfl) | (rw [if_neg (by decide +kernel)]; exact ⟨rfl, rfl⟩))
    (fun os started H enc _ => lifted os started H enc)

/-- THE STATEMENT: the tied card. -/
theorem proved : Rows.OwnTablesCardSaid :=
  Claim7.holds_tied_plain_at .later [] [.data, .data, .data, .data] true (true, "05dedb810b304c11dde9825ffa5be9d876e82906217192cf6ba02776fb34d3d2") false
    row (fun _ h => by cases h) (by kernel_rfl) (fun _ h => by cases h) ownTables_row_tie rfl ⟨rfl, rfl⟩ (by kernel_rfl) rfl
    (fun f fn hf hfn => by
      obtain rfl : f = 3 := Option.some.inj ((show Tryd.prog.funcNamed "souterrain/souterrainkeep.OwnTables" = some 3 by kernel_rfl).symm.trans hf) |>.symm
      obtain rfl : fn = Tryd.f3 := (Option.some.inj (Tryd.func3.symm.trans hfn)).symm
      exact ⟨by kernel_rfl, fun j t ht => by
        rw [Tryd.params3] at ht
        have hm : t ∈ [22, 9] := by simpa using Array.mem_of_getElem? ht
        have hall : ([22, 9].all fun u => !Tryd.prog.wantsStandIn u) = true := by kernel_rfl
        exact (show Tryd.prog.wantsStandIn t = false by simpa using List.all_eq_true.1 hall t hm)⟩)
    (by kernel_rfl)
end Go.Proofs.YtmkhojaddedpfaaDoor.ownTables
