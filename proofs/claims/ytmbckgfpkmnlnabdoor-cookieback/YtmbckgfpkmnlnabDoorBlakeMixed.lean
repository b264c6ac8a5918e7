/-
  THE WALK OF package blake's mixed (written by tools/mkmixed.py).
-/
import Derived.Test.YtmbckgfpkmnlnabDoorBlakeTab
namespace Go.Proofs.YtmbckgfpkmnlnabDoor.bla
open Go.RowKit
open Go.Proofs.YtmbckgfpkmnlnabDoor.soft
open Go.Proofs.YtmbckgfpkmnlnabDoor.cha (ad ad_lt rl Ws xor_lt Q at4 at4_ok put4)
open Go.Proofs.YtmbckgfpkmnlnabDoor.ghs (mkl mkl_length mkl_get)

/-- What a MIX has: its places, its line's numbers, blocks, the state and what is made of four. -/
structure Pm where
  a : Nat
  b : Nat
  c : Nat
  d : Nat
  i : Nat
  q : Nat
  q1 : Nat
  x : Nat
  y : Nat
  X : Nat
  Y : Nat
  sp : Nat
  pb : Nat
  lb : Nat
  mb : Nat
  l : List Nat
  r : Q
/-- What each operation yields. -/
def SV (P : Pm) : Nat → Value
  | 0 => .pointer (some ⟨P.pb, 0, none⟩)
  | 1 => .int .u8 (P.a : Nat)
  | 2 => .pointer (some ⟨P.pb, 1, none⟩)
  | 3 => .int .u8 (P.b : Nat)
  | 4 => .pointer (some ⟨P.pb, 2, none⟩)
  | 5 => .int .u8 (P.c : Nat)
  | 6 => .pointer (some ⟨P.pb, 3, none⟩)
  | 7 => .int .u8 (P.d : Nat)
  | 8 => .pointer (some ⟨P.pb, 0, none⟩)
  | 9 => .int .u8 (P.a : Nat)
  | 10 => .pointer (some ⟨P.sp, P.a, none⟩)
  | 11 => .int .u32 (P.l.getD P.a 0 : Nat)
  | 12 => .pointer (some ⟨P.pb, 1, none⟩)
  | 13 => .int .u8 (P.b : Nat)
  | 14 => .pointer (some ⟨P.sp, P.b, none⟩)
  | 15 => .int .u32 (P.l.getD P.b 0 : Nat)
  | 16 => .pointer (some ⟨P.pb, 2, none⟩)
  | 17 => .int .u8 (P.c : Nat)
  | 18 => .pointer (some ⟨P.sp, P.c, none⟩)
  | 19 => .int .u32 (P.l.getD P.c 0 : Nat)
  | 20 => .pointer (some ⟨P.pb, 3, none⟩)
  | 21 => .int .u8 (P.d : Nat)
  | 22 => .pointer (some ⟨P.sp, P.d, none⟩)
  | 23 => .int .u32 (P.l.getD P.d 0 : Nat)
  | 24 => .int .i64 (P.i : Nat)
  | 25 => .int .i64 (P.q : Nat)
  | 26 => .pointer (some ⟨P.lb, P.q, none⟩)
  | 27 => .int .u8 (P.x : Nat)
  | 28 => .pointer (some ⟨P.mb, P.x, none⟩)
  | 29 => .int .u32 (P.X : Nat)
  | 30 => .int .i64 (P.i : Nat)
  | 31 => .int .i64 (P.q : Nat)
  | 32 => .int .i64 (P.q1 : Nat)
  | 33 => .pointer (some ⟨P.lb, P.q1, none⟩)
  | 34 => .int .u8 (P.y : Nat)
  | 35 => .pointer (some ⟨P.mb, P.y, none⟩)
  | 36 => .int .u32 (P.Y : Nat)
  | 37 => .tuple #[.int .u32 (P.r.a : Nat), .int .u32 (P.r.b : Nat), .int .u32 (P.r.c : Nat), .int .u32 (P.r.d : Nat)]
  | 38 => .tuple #[.int .u32 (P.r.a : Nat), .int .u32 (P.r.b : Nat), .int .u32 (P.r.c : Nat), .int .u32 (P.r.d : Nat)]
  | 39 => .int .u32 (P.r.a : Nat)
  | 40 => .int .u32 (P.r.b : Nat)
  | 41 => .int .u32 (P.r.c : Nat)
  | 42 => .int .u32 (P.r.d : Nat)
  | 43 => .pointer (some ⟨P.sp, P.a, none⟩)
  | 44 => undef
  | 45 => .pointer (some ⟨P.sp, P.b, none⟩)
  | 46 => undef
  | 47 => .pointer (some ⟨P.sp, P.c, none⟩)
  | 48 => undef
  | 49 => .pointer (some ⟨P.sp, P.d, none⟩)
  | 50 => undef
  | _ => undef
/-- The state, as many numbers stored as are. -/
def Lf (P : Pm) (f : Nat → Option Value) : List Nat :=
  if (f 50).isSome then put4 P.l P.a P.b P.c P.d P.r else if (f 48).isSome then ((P.l.set P.a P.r.a).set P.b P.r.b).set P.c P.r.c else if (f 46).isSome then (P.l.set P.a P.r.a).set P.b P.r.b else if (f 44).isSome then P.l.set P.a P.r.a else P.l
structure SG (P : Pm) (w : World) (f : Nat → Option Value) (W : World) : Prop where
  val : ∀ i v, f i = some v → v = SV P i
  s46 : (f 46).isSome = true → (f 44).isSome = true
  s48 : (f 48).isSome = true → (f 46).isSome = true
  s50 : (f 50).isSome = true → (f 48).isSome = true
  s44 : (f 44).isSome = true → (f 37).isSome = true
  s37 : (f 37).isSome = true → (f 11).isSome = true ∧ (f 15).isSome = true ∧ (f 19).isSome = true ∧ (f 23).isSome = true
  blk : Blk W P.sp 87 (wd (Lf P f))
  block : ∀ k, k ≠ P.sp → W.heap[k]? = w.heap[k]?
  size : w.heap.size ≤ W.heap.size
  below : ∀ (B : Nat) (z : World), B ≤ P.sp → Below B z w → Below B z W
theorem SG.pure {P : Pm} {w W : World} {f : Nat → Option Value} (h : SG P w f W) (i : Nat) (h1 : i ≠ 44) (h2 : i ≠ 46) (h3 : i ≠ 48) (h4 : i ≠ 50) (h5 : i ≠ 37) : SG P w (upd f i (SV P i)) W := by
  have e : ∀ j, j ≠ i → upd f i (SV P i) j = f j := fun j hj => upd_other f _ hj
  have m : ∀ j, (f j).isSome = true → (upd f i (SV P i) j).isSome = true := fun j hj => by
    by_cases c : j = i
    · rw [c, upd_same]; rfl
    · rw [e j c]; exact hj
  refine ⟨fun j v hj => ?_, ?_, ?_, ?_, ?_, ?_, ?_, h.block, h.size, h.below⟩
  · by_cases c : j = i
    · subst c; rw [upd_same] at hj; cases hj; rfl
    · rw [e j c] at hj; exact h.val j v hj
  · rw [e 46 (Ne.symm h2), e 44 (Ne.symm h1)]; exact h.s46
  · rw [e 48 (Ne.symm h3), e 46 (Ne.symm h2)]; exact h.s48
  · rw [e 50 (Ne.symm h4), e 48 (Ne.symm h3)]; exact h.s50
  · rw [e 44 (Ne.symm h1), e 37 (Ne.symm h5)]; exact h.s44
  · rw [e 37 (Ne.symm h5)]
    exact fun x => ⟨m _ (h.s37 x).1, m _ (h.s37 x).2.1, m _ (h.s37 x).2.2.1, m _ (h.s37 x).2.2.2⟩
  · have : Lf P (upd f i (SV P i)) = Lf P f := by
      unfold Lf
      rw [e 50 (Ne.symm h4), e 48 (Ne.symm h3), e 46 (Ne.symm h2), e 44 (Ne.symm h1)]
    rw [this]
    exact h.blk
theorem SG.call {P : Pm} {w W : World} {f : Nat → Option Value} (h : SG P w f W) (hl : (f 11).isSome = true ∧ (f 15).isSome = true ∧ (f 19).isSome = true ∧ (f 23).isSome = true) : SG P w (upd f 37 (SV P 37)) W := by
  have e : ∀ j, j ≠ 37 → upd f 37 (SV P 37) j = f j := fun j hj => upd_other f _ hj
  refine ⟨fun j v hj => ?_, ?_, ?_, ?_, ?_, ?_, ?_, h.block, h.size, h.below⟩
  · by_cases c : j = 37
    · subst c; rw [upd_same] at hj; cases hj; rfl
    · rw [e j c] at hj; exact h.val j v hj
  · rw [e 46 (by decide), e 44 (by decide)]; exact h.s46
  · rw [e 48 (by decide), e 46 (by decide)]; exact h.s48
  · rw [e 50 (by decide), e 48 (by decide)]; exact h.s50
  · intro _; rw [upd_same]; rfl
  · intro _; rw [e 11 (by decide), e 15 (by decide), e 19 (by decide), e 23 (by decide)]; exact hl
  · have : Lf P (upd f 37 (SV P 37)) = Lf P f := by
      unfold Lf
      rw [e 50 (by decide), e 48 (by decide), e 46 (by decide), e 44 (by decide)]
    rw [this]
    exact h.blk
/-- What was loaded ahead of all stores. -/
theorem SG.first {P : Pm} {w W : World} {f : Nat → Option Value} (h : SG P w f W) {i : Nat} (hi : i = 11 ∨ i = 15 ∨ i = 19 ∨ i = 23) (hf : f i = none) : Blk W P.sp 87 (wd P.l) := by
  have n37 : (f 37).isSome = false := by
    cases hx : (f 37).isSome
    · rfl
    · have := h.s37 hx
      rcases hi with rfl | rfl | rfl | rfl
      · rw [hf] at this; cases this.1
      · rw [hf] at this; cases this.2.1
      · rw [hf] at this; cases this.2.2.1
      · rw [hf] at this; cases this.2.2.2
  have n44 : (f 44).isSome = false := by
    cases hx : (f 44).isSome
    · rfl
    · rw [h.s44 hx] at n37; cases n37
  have n46 : (f 46).isSome = false := by
    cases hx : (f 46).isSome
    · rfl
    · rw [h.s46 hx] at n44; cases n44
  have n48 : (f 48).isSome = false := by
    cases hx : (f 48).isSome
    · rfl
    · rw [h.s48 hx] at n46; cases n46
  have n50 : (f 50).isSome = false := by
    cases hx : (f 50).isSome
    · rfl
    · rw [h.s50 hx] at n48; cases n48
  have hb := h.blk
  unfold Lf at hb
  rw [n50, n48, n46, n44] at hb
  exact hb
/-- A number is stored. -/
theorem SG.store {P : Pm} {w W : World} {f : Nat → Option Value} (h : SG P w f W) (i at' x : Nat) (hi : i = 44 ∨ i = 46 ∨ i = 48 ∨ i = 50) (hf : f i = none)
    (h37 : (f 37).isSome = true) (hb : (i = 44 ∨ (f (i - 2)).isSome = true)) (hx : Lf P (upd f i undef) = (Lf P f).set at' x) : SG P w (upd f i undef) (W.setCell ⟨P.sp, at', none⟩ (.int .u32 (x : Nat))) := by
  have e : ∀ j, j ≠ i → upd f i undef j = f j := fun j hj => upd_other f _ hj
  have s : (upd f i undef i).isSome = true := by rw [upd_same]; rfl
  have m : ∀ j, (f j).isSome = true → (upd f i undef j).isSome = true := fun j hj => by
    by_cases c : j = i
    · rw [c]; exact s
    · rw [e j c]; exact hj
  refine ⟨fun j v hj => ?_, ?_, ?_, ?_, ?_, ?_, ?_, fun k hk => ?_, ?_, fun B z hB hz => (h.below B z hB hz).setCell hB _⟩
  · by_cases c : j = i
    · subst c; rw [upd_same] at hj; cases hj
      rcases hi with rfl | rfl | rfl | rfl <;> rfl
    · rw [e j c] at hj; exact h.val j v hj
  · intro hs
    by_cases c : 46 = i
    · rcases hb with hb | hb
      · omega
      · rw [← c] at hb; exact m 44 hb
    · rw [e 46 c] at hs; exact m 44 (h.s46 hs)
  · intro hs
    by_cases c : 48 = i
    · rcases hb with hb | hb
      · omega
      · rw [← c] at hb; exact m 46 hb
    · rw [e 48 c] at hs; exact m 46 (h.s48 hs)
  · intro hs
    by_cases c : 50 = i
    · rcases hb with hb | hb
      · omega
      · rw [← c] at hb; exact m 48 hb
    · rw [e 50 c] at hs; exact m 48 (h.s50 hs)
  · exact fun _ => m 37 h37
  · exact fun _ => ⟨m _ (h.s37 h37).1, m _ (h.s37 h37).2.1, m _ (h.s37 h37).2.2.1, m _ (h.s37 h37).2.2.2⟩
  · rw [hx, ← wd_set]
    exact h.blk.set at' _
  · rw [Below.heap_setCell _ _ _ _ hk]
    exact h.block k hk
  · have := h.size
    simpa [World.setCell] using this
theorem fr_congr {f g : Nat → Option Value} : ∀ (l : List Oper) (k : Nat) (a : Act), (∀ i, k ≤ i → i < k + l.length → f i = g i) → fr a f l k = fr a g l k
  | [], _, _, _ => rfl
  | o :: l, k, a, h => by
    rw [fr, fr, h k (Nat.le_refl _) (by simp)]
    exact fr_congr l (k + 1) _ fun i h1 h2 => h i (by omega) (by simp only [List.length_cons]; omega)
theorem op_skip {P : Program} {Q : Exit → Act → World → Prop} {l : List Oper} {i : Nat} {o : Oper} {K : Act → World → Prop} {a : Act} {W W' : World} (ho : l[i]? = some o) (hg : o.guard = none)
    (hrun : (execOp a.eval o).run P W = .ok .skip W') (h : K (a.put o.dst undef) W') : wpOp P l.toArray Q i K a W := by
  unfold wpOp
  simp only [List.getElem?_toArray, ho]
  have hw : Region.wanted o (yielded l.toArray a.tmps) = true := by unfold Region.wanted; rw [hg]
  rw [if_pos hw]
  left
  unfold Oper.wp
  rw [hrun]
  exact h
set_option maxRecDepth 100000 in
set_option maxHeartbeats 8000000 in
theorem mixed_any (l m : List Nat) (hl : l.length = 16) (hm : m.length = 16) (ok : Ws l) (w : World) (hT : Tab w) :
    Calls Tryd.prog 60 #[.agg (wd l).toArray, .agg (wd m).toArray] w fun e w' => e = .returned (.agg (wd (rws m l 10)).toArray) ∧ Below w.heap.size w w' := by
  obtain ⟨i0, hi, hz0, hz1, hz2⟩ := info_parts infoWIDEz
  obtain ⟨iL, hiL, hL0, hL1, hL2⟩ := info_parts infoLNz
  obtain ⟨iP, hiP, hP0, hP1, hP2⟩ := info_parts infoPLz
  have ll : (wd l).length = 16 := by rw [wd_length, hl]
  have lm : (wd m).length = 16 := by rw [wd_length, hm]
  obtain ⟨Z, hZd⟩ : ∃ Z, Z = wd z16 := ⟨_, rfl⟩
  have lZ : Z.length = 16 := by rw [hZd]; rfl
  rw [← hZd] at hz0
  obtain ⟨ZL, hZLd⟩ : ∃ Z, Z = by8 z16 := ⟨_, rfl⟩
  have lZL : ZL.length = 16 := by rw [hZLd]; rfl
  rw [← hZLd] at hL0
  obtain ⟨ZP, hZPd⟩ : ∃ Z, Z = by8 z4 := ⟨_, rfl⟩
  have lZP : ZP.length = 4 := by rw [hZPd]; rfl
  rw [← hZPd] at hP0
  obtain ⟨TL, hTL⟩ : ∃ Z, Hid (Z = by8 linesL) := ⟨_, rfl⟩
  obtain ⟨TP, hTP⟩ : ∃ Z, Hid (Z = by8 placesL) := ⟨_, rfl⟩
  have lTL : TL.length = 160 := by rw [hTL.out, by8_length, linesL_length]
  have lTP : TP.length = 32 := by rw [hTP.out, by8_length, placesL_length]
  have hiL2 : Hid (∀ (k : Nat), k < 10 → ∀ W, (Instr.index 102 (.agg TL.toArray) (.int .i64 (k : Int))).run Tryd.prog W = .ok (.agg (by8 (mkl 16 (ln k))).toArray) W) := fun k hk W => by rw [hTL.out]; exact line_at k hk W
  have hiP2 : Hid (∀ (k : Nat), k < 8 → ∀ W, (Instr.index 104 (.agg TP.toArray) (.int .i64 (k : Int))).run Tryd.prog W = .ok (.agg (by8 (mkl 4 (pl k))).toArray) W) := fun k hk W => by rw [hTP.out]; exact place_at k hk W
  clear hZd hZLd hZPd
  have gL := hT.ltL
  have gP := hT.ltP
  have rL : w.rangeAt 2 0 TL := by rw [hTL.out]; exact hT.ln
  have rP : Hid (w.rangeAt 3 0 TP) := by show World.rangeAt _ _ _ _; rw [hTP.out]; exact hT.pl
  clear hT
  have h0 : Blk (((w.alloc (.cells (wd l).toArray 87)).alloc (.cells (wd m).toArray 79)).alloc (.cells Z.toArray 87)) w.heap.size 87 (wd l) := ((Blk.new w 87 (wd l) _ rfl).alloc _).alloc _
  have h1 : Blk (((w.alloc (.cells (wd l).toArray 87)).alloc (.cells (wd m).toArray 79)).alloc (.cells Z.toArray 87)) (w.heap.size + 1) 79 (wd m) := by
    have h := Blk.new (w.alloc (.cells (wd l).toArray 87)) 79 (wd m) _ rfl
    rw [World.size_alloc] at h
    exact h.alloc _
  have h2 : Blk (((w.alloc (.cells (wd l).toArray 87)).alloc (.cells (wd m).toArray 79)).alloc (.cells Z.toArray 87)) (w.heap.size + 1 + 1) 87 Z := by
    have h := Blk.new ((w.alloc (.cells (wd l).toArray 87)).alloc (.cells (wd m).toArray 79)) 87 Z _ rfl
    rw [World.size_alloc, World.size_alloc] at h
    exact h
  have hX : Below w.heap.size w (((w.alloc (.cells (wd l).toArray 87)).alloc (.cells (wd m).toArray 79)).alloc (.cells Z.toArray 87)) := (((Below.refl _ _).alloc (Nat.le_refl _) _).alloc (by simp) _).alloc (by simp; omega) _
  go_enter Tryd.func60, Tryd.ntmps60
  go_wp2_with (first
    | (refine wpList_alloc_blk rfl 87 rfl Z i0 hi _ hz0 rfl ?_)
    | (refine wpList_load_mid rfl 102 (.global 2) rfl 2 0 rfl TL _ (range_keep rL hX gL) Tryd.underlying102 rfl (by rw [lTL]; exact infoLNS) ?_))
  go_loopw [10] (fun i wr => ∃ r : Nat, r ≤ 10 ∧ i = .int .i64 r ∧ Blk wr w.heap.size 87 (wd (rws m l r)) ∧ Blk wr (w.heap.size + 1) 79 (wd m) ∧ Blk wr (w.heap.size + 1 + 1) 87 Z ∧ Below w.heap.size w wr) (fun i _ => 10 - (intOf i).toNat)
  case atStart => exact ⟨0, by omega, rfl, h0, h1, h2, hX⟩
  case round =>
    clear h0 h1 h2 hX
    obtain ⟨r, hr, rfl, hV, hM, hR, hnx⟩ := hrel
    by_cases hlt : r < 10
    · have d0 : decide ((r : Int) < 10) = true := by simp; omega
      have hi1 := hiL2.out r hlt
      obtain ⟨LL, hLL⟩ : ∃ LL, Hid (LL = by8 (mkl 16 (ln r))) := ⟨_, rfl⟩
      have lLL : LL.length = 16 := by rw [hLL.out, by8_length, mkl_length]
      have oLL : LL.toArray.all (·.oneCell') = true := by rw [hLL.out]; exact by8_one _
      have HI1 : ∀ W, (Instr.index 102 (.agg TL.toArray) (.int .i64 (r : Int))).run Tryd.prog W = .ok (.agg LL.toArray) W := fun W => by rw [hi1 W, hLL.out]
      clear hi1
      obtain ⟨L, hL⟩ : ∃ L, Hid (L = rws m l r) := ⟨_, rfl⟩
      have lL : L.length = 16 := by rw [hL.out, rws_length, hl]
      have okL : Ws L := by rw [hL.out]; exact rws_ok ok r
      have HN : Hid (rws m l (r + 1) = row8 m r L 8) := by show _ = _; rw [hL.out]; rfl
      rw [← hL.out] at hV
      have hb1 : w.heap.size + 1 + 1 < wr.heap.size := hR.lt
      obtain ⟨lb, hlb⟩ : ∃ lb, lb = wr.heap.size := ⟨_, rfl⟩
      have g4 : Blk (wr.alloc (.cells ZL.toArray 101)) wr.heap.size 101 ZL := Blk.new wr 101 ZL _ rfl
      go_wp2_with (first
        | (refine wpList_alloc_blk rfl 101 rfl ZL iL hiL _ hL0 rfl ?_)
        | (refine wpList_store_blk rfl 101 (.tmp 6) (.tmp 12) rfl wr.heap.size LL rfl rfl ZL g4 (by rw [lLL, lZL]) oLL (by rw [lZL]; exact infoLN) ?_; intro W1 hW1; have hX1 := hW1.below _ _ (show w.heap.size ≤ wr.heap.size by omega) (hnx.alloc (by omega) _))
        | (refine wpList_load_mid rfl 104 (.global 3) rfl 3 0 rfl TP _ (range_keep rP.out hX1 gP) Tryd.underlying104 rfl (by rw [lTP]; exact infoPLS) ?_))
      have hV1 : Blk W1 w.heap.size 87 (wd L) := hW1.other _ _ _ (by omega) (hV.alloc _)
      have hM1 : Blk W1 (w.heap.size + 1) 79 (wd m) := hW1.other _ _ _ (by omega) (hM.alloc _)
      have hR1 : Blk W1 (w.heap.size + 1 + 1) 87 Z := hW1.other _ _ _ (by omega) (hR.alloc _)
      have hB1 := hW1.blk
      rw [← hlb] at hB1 hb1 ⊢
      clear hV hM hR hnx hW1 g4 HI1 d0 hlb
      go_loopw [14] (fun i wr => ∃ k : Nat, k ≤ 8 ∧ i = .int .i64 k ∧ Blk wr w.heap.size 87 (wd (row8 m r L k)) ∧ Blk wr (w.heap.size + 1) 79 (wd m) ∧ Blk wr (w.heap.size + 1 + 1) 87 Z ∧ Blk wr lb 101 LL ∧ Below w.heap.size w wr) (fun i _ => 8 - (intOf i).toNat)
      case atStart => exact ⟨0, by omega, rfl, hV1, hM1, hR1, hB1, hX1⟩
      case round =>
        clear hV1 hM1 hR1 hB1 hX1
        obtain ⟨k, hk, rfl, hV, hM, hR, hB, hnx⟩ := hrel
        by_cases hlt2 : k < 8
        · have d0 : decide ((k : Int) < 8) = true := by simp; omega
          have hi1 := hiP2.out k hlt2
          obtain ⟨PP, hPP⟩ : ∃ PP, Hid (PP = by8 (mkl 4 (pl k))) := ⟨_, rfl⟩
          have lPP : PP.length = 4 := by rw [hPP.out, by8_length, mkl_length]
          have oPP : PP.toArray.all (·.oneCell') = true := by rw [hPP.out]; exact by8_one _
          have HI1 : ∀ W, (Instr.index 104 (.agg TP.toArray) (.int .i64 (k : Int))).run Tryd.prog W = .ok (.agg PP.toArray) W := fun W => by rw [hi1 W, hPP.out]
          clear hi1
          obtain ⟨S, hS⟩ : ∃ S, Hid (S = row8 m r L k) := ⟨_, rfl⟩
          have lS : S.length = 16 := by rw [hS.out, row8_length, lL]
          have okS : Ws S := by rw [hS.out]; exact row8_ok r okL k
          have HK : Hid (row8 m r L (k + 1) = stp m r k S) := by show _ = _; rw [hS.out]; rfl
          rw [← hS.out] at hV
          have hb2 : lb < wr.heap.size := hB.lt
          have g4 : Blk (wr.alloc (.cells ZP.toArray 103)) wr.heap.size 103 ZP := Blk.new wr 103 ZP _ rfl
          go_wp2_with (first
            | (refine wpList_alloc_blk rfl 103 rfl ZP iP hiP _ hP0 rfl ?_)
            | (refine wpList_store_blk rfl 103 (.tmp 8) (.tmp 17) rfl wr.heap.size PP rfl rfl ZP g4 (by rw [lPP, lZP]) oPP (by rw [lZP]; exact infoPL) ?_; intro W2 hW2))
          have hX2 := hW2.below _ _ (show w.heap.size ≤ wr.heap.size by omega) (hnx.alloc (by omega) _)
          have hV2 : Blk W2 w.heap.size 87 (wd S) := hW2.other _ _ _ (by omega) (hV.alloc _)
          have hM2 : Blk W2 (w.heap.size + 1) 79 (wd m) := hW2.other _ _ _ (by omega) (hM.alloc _)
          have hR2 : Blk W2 (w.heap.size + 1 + 1) 87 Z := hW2.other _ _ _ (by omega) (hR.alloc _)
          have hB2 : Blk W2 lb 101 LL := hW2.other _ _ _ (by omega) (hB.alloc _)
          have hP2 : Blk W2 wr.heap.size 103 PP := hW2.blk
          obtain ⟨pb, hpb⟩ : ∃ pb, pb = wr.heap.size := ⟨_, rfl⟩
          have hpn : w.heap.size + 1 + 1 < pb := by omega
          rw [← hpb] at hP2
          rw [← hpb]
          clear hV hM hR hB hnx hW2 g4 HI1 d0 hpb hb2
          have la := pl_lt k 0
          have lb' := pl_lt k 1
          have lc := pl_lt k 2
          have ld := pl_lt k 3
          have lx := ln_lt r (2 * k)
          have ly := ln_lt r (2 * k + 1)
          have g1 := mix_any (at4 S (pl k 0) (pl k 1) (pl k 2) (pl k 3)) (at4_ok okS _ _ _ _) (m.getD (ln r (2 * k)) 0) (m.getD (ln r (2 * k + 1)) 0)
          have HE : Hid (stp m r k S = put4 S (pl k 0) (pl k 1) (pl k 2) (pl k 3) (mx (at4 S (pl k 0) (pl k 1) (pl k 2) (pl k 3)) (m.getD (ln r (2 * k)) 0) (m.getD (ln r (2 * k + 1)) 0))) := rfl
          have c0 := hP2.cell 0 (.int .u8 (pl k 0 : Nat)) (by rw [hPP.out]; rfl)
          have c1 := hP2.cell 1 (.int .u8 (pl k 1 : Nat)) (by rw [hPP.out]; rfl)
          have c2 := hP2.cell 2 (.int .u8 (pl k 2 : Nat)) (by rw [hPP.out]; rfl)
          have c3 := hP2.cell 3 (.int .u8 (pl k 3 : Nat)) (by rw [hPP.out]; rfl)
          have cx := hB2.cell (2 * k) (.int .u8 (ln r (2 * k) : Nat)) (by rw [hLL.out, by8_get _ _ (by rw [mkl_length]; omega), mkl_get _ _ _ (by omega)])
          have cy := hB2.cell (2 * k + 1) (.int .u8 (ln r (2 * k + 1) : Nat)) (by rw [hLL.out, by8_get _ _ (by rw [mkl_length]; omega), mkl_get _ _ _ (by omega)])
          have cX := hM2.cell (ln r (2 * k)) _ (wd_get m _ (by omega))
          have cY := hM2.cell (ln r (2 * k + 1)) _ (wd_get m _ (by omega))
          obtain ⟨P, hP⟩ : ∃ P : Pm, P = ⟨pl k 0, pl k 1, pl k 2, pl k 3, k, 2 * k, 2 * k + 1, ln r (2 * k), ln r (2 * k + 1), m.getD (ln r (2 * k)) 0, m.getD (ln r (2 * k + 1)) 0, w.heap.size, pb, lb, w.heap.size + 1, S, mx (at4 S (pl k 0) (pl k 1) (pl k 2) (pl k 3)) (m.getD (ln r (2 * k)) 0) (m.getD (ln r (2 * k + 1)) 0)⟩ := ⟨_, rfl⟩
          have f1 : ∀ w, Calls Tryd.prog 73 #[.int .u32 (P.l.getD P.a 0 : Nat), .int .u32 (P.l.getD P.b 0 : Nat), .int .u32 (P.l.getD P.c 0 : Nat), .int .u32 (P.l.getD P.d 0 : Nat), .int .u32 (P.X : Nat), .int .u32 (P.Y : Nat)] w fun e w' => e = .returned (.tuple #[.int .u32 (P.r.a : Nat), .int .u32 (P.r.b : Nat), .int .u32 (P.r.c : Nat), .int .u32 (P.r.d : Nat)]) ∧ w' = w := by rw [hP]; exact g1
          clear g1
          have a0 : (0 : Int) ≤ (P.a : Int) ∧ (P.a : Int) < 16 := by rw [hP]; show (0 : Int) ≤ (pl k 0 : Int) ∧ (pl k 0 : Int) < 16; omega
          have b0 : (0 : Int) ≤ (P.b : Int) ∧ (P.b : Int) < 16 := by rw [hP]; show (0 : Int) ≤ (pl k 1 : Int) ∧ (pl k 1 : Int) < 16; omega
          have c0' : (0 : Int) ≤ (P.c : Int) ∧ (P.c : Int) < 16 := by rw [hP]; show (0 : Int) ≤ (pl k 2 : Int) ∧ (pl k 2 : Int) < 16; omega
          have d0' : (0 : Int) ≤ (P.d : Int) ∧ (P.d : Int) < 16 := by rw [hP]; show (0 : Int) ≤ (pl k 3 : Int) ∧ (pl k 3 : Int) < 16; omega
          have x0 : (0 : Int) ≤ (P.x : Int) ∧ (P.x : Int) < 16 := by rw [hP]; show (0 : Int) ≤ (ln r (2 * k) : Int) ∧ (ln r (2 * k) : Int) < 16; omega
          have y0 : (0 : Int) ≤ (P.y : Int) ∧ (P.y : Int) < 16 := by rw [hP]; show (0 : Int) ≤ (ln r (2 * k + 1) : Int) ∧ (ln r (2 * k + 1) : Int) < 16; omega
          have q0 : (0 : Int) ≤ (P.q : Int) ∧ (P.q : Int) < 16 := by rw [hP]; show (0 : Int) ≤ ((2 * k : Nat) : Int) ∧ ((2 * k : Nat) : Int) < 16; omega
          have q10 : (0 : Int) ≤ (P.q1 : Int) ∧ (P.q1 : Int) < 16 := by rw [hP]; show (0 : Int) ≤ ((2 * k + 1 : Nat) : Int) ∧ ((2 * k + 1 : Nat) : Int) < 16; omega
          have qe : IntKind.i64.wrap (2 * (P.i : Int)) = (P.q : Int) := by
            rw [hP]; show IntKind.i64.wrap (2 * (k : Int)) = ((2 * k : Nat) : Int)
            rw [IntWalk.i64_in _ ⟨by omega, by omega⟩]; omega
          have qe1 : IntKind.i64.wrap ((P.q : Int) + 1) = (P.q1 : Int) := by
            rw [hP]; show IntKind.i64.wrap (((2 * k : Nat) : Int) + 1) = ((2 * k + 1 : Nat) : Int)
            rw [IntWalk.i64_in _ ⟨by omega, by omega⟩]; omega
          have lPl : P.l.length = 16 := by rw [hP]; exact lS
          have kp0 : W2.cell? ⟨P.pb, 0, none⟩ = some (.int .u8 (P.a : Nat)) := by rw [hP]; exact c0
          have kp1 : W2.cell? ⟨P.pb, 1, none⟩ = some (.int .u8 (P.b : Nat)) := by rw [hP]; exact c1
          have kp2 : W2.cell? ⟨P.pb, 2, none⟩ = some (.int .u8 (P.c : Nat)) := by rw [hP]; exact c2
          have kp3 : W2.cell? ⟨P.pb, 3, none⟩ = some (.int .u8 (P.d : Nat)) := by rw [hP]; exact c3
          have kx : W2.cell? ⟨P.lb, P.q, none⟩ = some (.int .u8 (P.x : Nat)) := by rw [hP]; exact cx
          have ky : W2.cell? ⟨P.lb, P.q1, none⟩ = some (.int .u8 (P.y : Nat)) := by rw [hP]; exact cy
          have kX : W2.cell? ⟨P.mb, P.x, none⟩ = some (.int .u32 (P.X : Nat)) := by rw [hP]; exact cX
          have kY : W2.cell? ⟨P.mb, P.y, none⟩ = some (.int .u32 (P.Y : Nat)) := by rw [hP]; exact cY
          have nP : P.pb ≠ P.sp := by rw [hP]; show pb ≠ w.heap.size; omega
          have nL : P.lb ≠ P.sp := by rw [hP]; show lb ≠ w.heap.size; omega
          have nM : P.mb ≠ P.sp := by rw [hP]; show w.heap.size + 1 ≠ w.heap.size; omega
          have kV : Blk W2 P.sp 87 (wd P.l) := by rw [hP]; exact hV2
          have pe2 : Value.pointer (some ⟨w.heap.size, 0, none⟩) = .pointer (some ⟨P.sp, 0, none⟩) := by rw [hP]
          have pe3 : Value.pointer (some ⟨w.heap.size + 1, 0, none⟩) = .pointer (some ⟨P.mb, 0, none⟩) := by rw [hP]
          have pe6 : Value.pointer (some ⟨lb, 0, none⟩) = .pointer (some ⟨P.lb, 0, none⟩) := by rw [hP]
          have pe8 : Value.pointer (some ⟨pb, 0, none⟩) = .pointer (some ⟨P.pb, 0, none⟩) := by rw [hP]
          have pe7 : Value.int .i64 (k : Int) = .int .i64 (P.i : Nat) := by rw [hP]
          have HB : Hid (P.sp = w.heap.size ∧ put4 P.l P.a P.b P.c P.d P.r = stp m r k S) := by
            show _ ∧ _
            rw [hP]; exact ⟨rfl, HE.out.symm⟩
          clear HE c0 c1 c2 c3 cx cy cX cY hP la lb' lc ld lx ly
          have hLl : ∀ f, (Lf P f).length = 16 := fun f => by unfold Lf put4; split <;> (try split) <;> (try split) <;> (try split) <;> simp [lPl]
          simp only [Act.put]
          refine wp_region_all (by kernel_rfl) (by kernel_rfl) (SG P W2) ?_ ?_ ?_
          · exact ⟨fun _ _ h => (by cases h), fun h => (by cases h), fun h => (by cases h), fun h => (by cases h), fun h => (by cases h), fun h => (by cases h), kV, fun _ _ => rfl, Nat.le_refl _, fun B z _ hz => Below.drew hz⟩
          · intro f W A hin hout hG i o ho hf hpre
            have e2 : A.eval (.tmp 2) = .pointer (some ⟨P.sp, 0, none⟩) := (hout 2 (by kernel_rfl)).trans pe2
            have e3 : A.eval (.tmp 3) = .pointer (some ⟨P.mb, 0, none⟩) := (hout 3 (by kernel_rfl)).trans pe3
            have e6 : A.eval (.tmp 6) = .pointer (some ⟨P.lb, 0, none⟩) := (hout 6 (by kernel_rfl)).trans pe6
            have e7 : A.eval (.tmp 7) = .int .i64 (P.i : Nat) := (hout 7 (by kernel_rfl)).trans pe7
            have e8 : A.eval (.tmp 8) = .pointer (some ⟨P.pb, 0, none⟩) := (hout 8 (by kernel_rfl)).trans pe8
            have ek : ∀ v, A.eval (.const v) = v := fun _ => rfl
            have get : ∀ j, (f j).isSome = true → f j = some (SV P j) := fun j hj => by
              cases hx : f j with
              | none => rw [hx] at hj; cases hj
              | some v => rw [hG.val j v hx]
            have same : ∀ b k, b ≠ P.sp → W.cell? ⟨b, k, none⟩ = W2.cell? ⟨b, k, none⟩ := fun b k hb => World.cell?_of_block (w := W2) (a := ⟨b, k, none⟩) (hG.block b hb)
            clear pe2 pe3 pe6 pe7 pe8 hout
            match i, ho, hf with
            | 0, ho, hf =>
              obtain rfl := Option.some.inj ho
              exact op_value (v := .pointer (some ⟨P.pb, 0, none⟩)) (W' := W) rfl rfl (by generalize A.eval = ev at *; simp [go_sem, ek, e8, Tryd.underlying103]) ⟨_, rfl, hG.pure 0 (by decide) (by decide) (by decide) (by decide) (by decide)⟩
            | 1, ho, hf =>
              obtain rfl := Option.some.inj ho
              have g1 : A.eval (.tmp 19) = .pointer (some ⟨P.pb, 0, none⟩) := hin 0 19 _ (get 0 (hpre ⟨0, .data⟩ (by simp) rfl)) (by kernel_rfl) (by simp)
              have hc := (same P.pb 0 nP).trans kp0
              exact op_value (v := .int .u8 (P.a : Nat)) (W' := W) rfl rfl (by generalize A.eval = ev at *; simp [go_sem, g1, hc]) ⟨_, rfl, hG.pure 1 (by decide) (by decide) (by decide) (by decide) (by decide)⟩
            | 2, ho, hf =>
              obtain rfl := Option.some.inj ho
              exact op_value (v := .pointer (some ⟨P.pb, 1, none⟩)) (W' := W) rfl rfl (by generalize A.eval = ev at *; simp [go_sem, ek, e8, Tryd.underlying103]) ⟨_, rfl, hG.pure 2 (by decide) (by decide) (by decide) (by decide) (by decide)⟩
            | 3, ho, hf =>
              obtain rfl := Option.some.inj ho
              have g1 : A.eval (.tmp 21) = .pointer (some ⟨P.pb, 1, none⟩) := hin 2 21 _ (get 2 (hpre ⟨2, .data⟩ (by simp) rfl)) (by kernel_rfl) (by simp)
              have hc := (same P.pb 1 nP).trans kp1
              exact op_value (v := .int .u8 (P.b : Nat)) (W' := W) rfl rfl (by generalize A.eval = ev at *; simp [go_sem, g1, hc]) ⟨_, rfl, hG.pure 3 (by decide) (by decide) (by decide) (by decide) (by decide)⟩
            | 4, ho, hf =>
              obtain rfl := Option.some.inj ho
              exact op_value (v := .pointer (some ⟨P.pb, 2, none⟩)) (W' := W) rfl rfl (by generalize A.eval = ev at *; simp [go_sem, ek, e8, Tryd.underlying103]) ⟨_, rfl, hG.pure 4 (by decide) (by decide) (by decide) (by decide) (by decide)⟩
            | 5, ho, hf =>
              obtain rfl := Option.some.inj ho
              have g1 : A.eval (.tmp 23) = .pointer (some ⟨P.pb, 2, none⟩) := hin 4 23 _ (get 4 (hpre ⟨4, .data⟩ (by simp) rfl)) (by kernel_rfl) (by simp)
              have hc := (same P.pb 2 nP).trans kp2
              exact op_value (v := .int .u8 (P.c : Nat)) (W' := W) rfl rfl (by generalize A.eval = ev at *; simp [go_sem, g1, hc]) ⟨_, rfl, hG.pure 5 (by decide) (by decide) (by decide) (by decide) (by decide)⟩
            | 6, ho, hf =>
              obtain rfl := Option.some.inj ho
              exact op_value (v := .pointer (some ⟨P.pb, 3, none⟩)) (W' := W) rfl rfl (by generalize A.eval = ev at *; simp [go_sem, ek, e8, Tryd.underlying103]) ⟨_, rfl, hG.pure 6 (by decide) (by decide) (by decide) (by decide) (by decide)⟩
            | 7, ho, hf =>
              obtain rfl := Option.some.inj ho
              have g1 : A.eval (.tmp 25) = .pointer (some ⟨P.pb, 3, none⟩) := hin 6 25 _ (get 6 (hpre ⟨6, .data⟩ (by simp) rfl)) (by kernel_rfl) (by simp)
              have hc := (same P.pb 3 nP).trans kp3
              exact op_value (v := .int .u8 (P.d : Nat)) (W' := W) rfl rfl (by generalize A.eval = ev at *; simp [go_sem, g1, hc]) ⟨_, rfl, hG.pure 7 (by decide) (by decide) (by decide) (by decide) (by decide)⟩
            | 8, ho, hf =>
              obtain rfl := Option.some.inj ho
              exact op_value (v := .pointer (some ⟨P.pb, 0, none⟩)) (W' := W) rfl rfl (by generalize A.eval = ev at *; simp [go_sem, ek, e8, Tryd.underlying103]) ⟨_, rfl, hG.pure 8 (by decide) (by decide) (by decide) (by decide) (by decide)⟩
            | 9, ho, hf =>
              obtain rfl := Option.some.inj ho
              have g1 : A.eval (.tmp 27) = .pointer (some ⟨P.pb, 0, none⟩) := hin 8 27 _ (get 8 (hpre ⟨8, .data⟩ (by simp) rfl)) (by kernel_rfl) (by simp)
              have hc := (same P.pb 0 nP).trans kp0
              exact op_value (v := .int .u8 (P.a : Nat)) (W' := W) rfl rfl (by generalize A.eval = ev at *; simp [go_sem, g1, hc]) ⟨_, rfl, hG.pure 9 (by decide) (by decide) (by decide) (by decide) (by decide)⟩
            | 10, ho, hf =>
              obtain rfl := Option.some.inj ho
              have g1 : A.eval (.tmp 28) = .int .u8 (P.a : Nat) := hin 9 28 _ (get 9 (hpre ⟨9, .data⟩ (by simp) rfl)) (by kernel_rfl) (by simp)
              exact op_value (v := .pointer (some ⟨P.sp, P.a, none⟩)) (W' := W) rfl rfl (by generalize A.eval = ev at *; simp [go_sem, e2, g1, Tryd.underlying87, a0]) ⟨_, rfl, hG.pure 10 (by decide) (by decide) (by decide) (by decide) (by decide)⟩
            | 11, ho, hf =>
              obtain rfl := Option.some.inj ho
              have g1 : A.eval (.tmp 29) = .pointer (some ⟨P.sp, P.a, none⟩) := hin 10 29 _ (get 10 (hpre ⟨10, .data⟩ (by simp) rfl)) (by kernel_rfl) (by simp)
              have hc := (hG.first (i := 11) (by omega) hf).cell P.a _ (wd_get P.l P.a (by omega))
              exact op_value (v := .int .u32 (P.l.getD P.a 0 : Nat)) (W' := W) rfl rfl (by generalize A.eval = ev at *; simp [go_sem, g1, hc]) ⟨_, rfl, hG.pure 11 (by decide) (by decide) (by decide) (by decide) (by decide)⟩
            | 12, ho, hf =>
              obtain rfl := Option.some.inj ho
              exact op_value (v := .pointer (some ⟨P.pb, 1, none⟩)) (W' := W) rfl rfl (by generalize A.eval = ev at *; simp [go_sem, ek, e8, Tryd.underlying103]) ⟨_, rfl, hG.pure 12 (by decide) (by decide) (by decide) (by decide) (by decide)⟩
            | 13, ho, hf =>
              obtain rfl := Option.some.inj ho
              have g1 : A.eval (.tmp 31) = .pointer (some ⟨P.pb, 1, none⟩) := hin 12 31 _ (get 12 (hpre ⟨12, .data⟩ (by simp) rfl)) (by kernel_rfl) (by simp)
              have hc := (same P.pb 1 nP).trans kp1
              exact op_value (v := .int .u8 (P.b : Nat)) (W' := W) rfl rfl (by generalize A.eval = ev at *; simp [go_sem, g1, hc]) ⟨_, rfl, hG.pure 13 (by decide) (by decide) (by decide) (by decide) (by decide)⟩
            | 14, ho, hf =>
              obtain rfl := Option.some.inj ho
              have g1 : A.eval (.tmp 32) = .int .u8 (P.b : Nat) := hin 13 32 _ (get 13 (hpre ⟨13, .data⟩ (by simp) rfl)) (by kernel_rfl) (by simp)
              exact op_value (v := .pointer (some ⟨P.sp, P.b, none⟩)) (W' := W) rfl rfl (by generalize A.eval = ev at *; simp [go_sem, e2, g1, Tryd.underlying87, b0]) ⟨_, rfl, hG.pure 14 (by decide) (by decide) (by decide) (by decide) (by decide)⟩
            | 15, ho, hf =>
              obtain rfl := Option.some.inj ho
              have g1 : A.eval (.tmp 33) = .pointer (some ⟨P.sp, P.b, none⟩) := hin 14 33 _ (get 14 (hpre ⟨14, .data⟩ (by simp) rfl)) (by kernel_rfl) (by simp)
              have hc := (hG.first (i := 15) (by omega) hf).cell P.b _ (wd_get P.l P.b (by omega))
              exact op_value (v := .int .u32 (P.l.getD P.b 0 : Nat)) (W' := W) rfl rfl (by generalize A.eval = ev at *; simp [go_sem, g1, hc]) ⟨_, rfl, hG.pure 15 (by decide) (by decide) (by decide) (by decide) (by decide)⟩
            | 16, ho, hf =>
              obtain rfl := Option.some.inj ho
              exact op_value (v := .pointer (some ⟨P.pb, 2, none⟩)) (W' := W) rfl rfl (by generalize A.eval = ev at *; simp [go_sem, ek, e8, Tryd.underlying103]) ⟨_, rfl, hG.pure 16 (by decide) (by decide) (by decide) (by decide) (by decide)⟩
            | 17, ho, hf =>
              obtain rfl := Option.some.inj ho
              have g1 : A.eval (.tmp 35) = .pointer (some ⟨P.pb, 2, none⟩) := hin 16 35 _ (get 16 (hpre ⟨16, .data⟩ (by simp) rfl)) (by kernel_rfl) (by simp)
              have hc := (same P.pb 2 nP).trans kp2
              exact op_value (v := .int .u8 (P.c : Nat)) (W' := W) rfl rfl (by generalize A.eval = ev at *; simp [go_sem, g1, hc]) ⟨_, rfl, hG.pure 17 (by decide) (by decide) (by decide) (by decide) (by decide)⟩
            | 18, ho, hf =>
              obtain rfl := Option.some.inj ho
              have g1 : A.eval (.tmp 36) = .int .u8 (P.c : Nat) := hin 17 36 _ (get 17 (hpre ⟨17, .data⟩ (by simp) rfl)) (by kernel_rfl) (by simp)
              exact op_value (v := .pointer (some ⟨P.sp, P.c, none⟩)) (W' := W) rfl rfl (by generalize A.eval = ev at *; simp [go_sem, e2, g1, Tryd.underlying87, c0']) ⟨_, rfl, hG.pure 18 (by decide) (by decide) (by decide) (by decide) (by decide)⟩
            | 19, ho, hf =>
              obtain rfl := Option.some.inj ho
              have g1 : A.eval (.tmp 37) = .pointer (some ⟨P.sp, P.c, none⟩) := hin 18 37 _ (get 18 (hpre ⟨18, .data⟩ (by simp) rfl)) (by kernel_rfl) (by simp)
              have hc := (hG.first (i := 19) (by omega) hf).cell P.c _ (wd_get P.l P.c (by omega))
              exact op_value (v := .int .u32 (P.l.getD P.c 0 : Nat)) (W' := W) rfl rfl (by generalize A.eval = ev at *; simp [go_sem, g1, hc]) ⟨_, rfl, hG.pure 19 (by decide) (by decide) (by decide) (by decide) (by decide)⟩
            | 20, ho, hf =>
              obtain rfl := Option.some.inj ho
              exact op_value (v := .pointer (some ⟨P.pb, 3, none⟩)) (W' := W) rfl rfl (by generalize A.eval = ev at *; simp [go_sem, ek, e8, Tryd.underlying103]) ⟨_, rfl, hG.pure 20 (by decide) (by decide) (by decide) (by decide) (by decide)⟩
            | 21, ho, hf =>
              obtain rfl := Option.some.inj ho
              have g1 : A.eval (.tmp 39) = .pointer (some ⟨P.pb, 3, none⟩) := hin 20 39 _ (get 20 (hpre ⟨20, .data⟩ (by simp) rfl)) (by kernel_rfl) (by simp)
              have hc := (same P.pb 3 nP).trans kp3
              exact op_value (v := .int .u8 (P.d : Nat)) (W' := W) rfl rfl (by generalize A.eval = ev at *; simp [go_sem, g1, hc]) ⟨_, rfl, hG.pure 21 (by decide) (by decide) (by decide) (by decide) (by decide)⟩
            | 22, ho, hf =>
              obtain rfl := Option.some.inj ho
              have g1 : A.eval (.tmp 40) = .int .u8 (P.d : Nat) := hin 21 40 _ (get 21 (hpre ⟨21, .data⟩ (by simp) rfl)) (by kernel_rfl) (by simp)
              exact op_value (v := .pointer (some ⟨P.sp, P.d, none⟩)) (W' := W) rfl rfl (by generalize A.eval = ev at *; simp [go_sem, e2, g1, Tryd.underlying87, d0']) ⟨_, rfl, hG.pure 22 (by decide) (by decide) (by decide) (by decide) (by decide)⟩
            | 23, ho, hf =>
              obtain rfl := Option.some.inj ho
              have g1 : A.eval (.tmp 41) = .pointer (some ⟨P.sp, P.d, none⟩) := hin 22 41 _ (get 22 (hpre ⟨22, .data⟩ (by simp) rfl)) (by kernel_rfl) (by simp)
              have hc := (hG.first (i := 23) (by omega) hf).cell P.d _ (wd_get P.l P.d (by omega))
              exact op_value (v := .int .u32 (P.l.getD P.d 0 : Nat)) (W' := W) rfl rfl (by generalize A.eval = ev at *; simp [go_sem, g1, hc]) ⟨_, rfl, hG.pure 23 (by decide) (by decide) (by decide) (by decide) (by decide)⟩
            | 24, ho, hf =>
              obtain rfl := Option.some.inj ho
              exact op_value (v := .int .i64 (P.i : Nat)) (W' := W) rfl rfl (by generalize A.eval = ev at *; simp [go_sem, e7]) ⟨_, rfl, hG.pure 24 (by decide) (by decide) (by decide) (by decide) (by decide)⟩
            | 25, ho, hf =>
              obtain rfl := Option.some.inj ho
              have g1 : A.eval (.tmp 43) = .int .i64 (P.i : Nat) := hin 24 43 _ (get 24 (hpre ⟨24, .data⟩ (by simp) rfl)) (by kernel_rfl) (by simp)
              exact op_value (v := .int .i64 (P.q : Nat)) (W' := W) rfl rfl (by generalize A.eval = ev at *; simp [go_sem, ek, g1, qe]) ⟨_, rfl, hG.pure 25 (by decide) (by decide) (by decide) (by decide) (by decide)⟩
            | 26, ho, hf =>
              obtain rfl := Option.some.inj ho
              have g1 : A.eval (.tmp 44) = .int .i64 (P.q : Nat) := hin 25 44 _ (get 25 (hpre ⟨25, .data⟩ (by simp) rfl)) (by kernel_rfl) (by simp)
              exact op_value (v := .pointer (some ⟨P.lb, P.q, none⟩)) (W' := W) rfl rfl (by generalize A.eval = ev at *; simp [go_sem, e6, g1, Tryd.underlying101, q0]) ⟨_, rfl, hG.pure 26 (by decide) (by decide) (by decide) (by decide) (by decide)⟩
            | 27, ho, hf =>
              obtain rfl := Option.some.inj ho
              have g1 : A.eval (.tmp 45) = .pointer (some ⟨P.lb, P.q, none⟩) := hin 26 45 _ (get 26 (hpre ⟨26, .data⟩ (by simp) rfl)) (by kernel_rfl) (by simp)
              have hc := (same P.lb P.q nL).trans kx
              exact op_value (v := .int .u8 (P.x : Nat)) (W' := W) rfl rfl (by generalize A.eval = ev at *; simp [go_sem, g1, hc]) ⟨_, rfl, hG.pure 27 (by decide) (by decide) (by decide) (by decide) (by decide)⟩
            | 28, ho, hf =>
              obtain rfl := Option.some.inj ho
              have g1 : A.eval (.tmp 46) = .int .u8 (P.x : Nat) := hin 27 46 _ (get 27 (hpre ⟨27, .data⟩ (by simp) rfl)) (by kernel_rfl) (by simp)
              exact op_value (v := .pointer (some ⟨P.mb, P.x, none⟩)) (W' := W) rfl rfl (by generalize A.eval = ev at *; simp [go_sem, e3, g1, Tryd.underlying79, x0]) ⟨_, rfl, hG.pure 28 (by decide) (by decide) (by decide) (by decide) (by decide)⟩
            | 29, ho, hf =>
              obtain rfl := Option.some.inj ho
              have g1 : A.eval (.tmp 47) = .pointer (some ⟨P.mb, P.x, none⟩) := hin 28 47 _ (get 28 (hpre ⟨28, .data⟩ (by simp) rfl)) (by kernel_rfl) (by simp)
              have hc := (same P.mb P.x nM).trans kX
              exact op_value (v := .int .u32 (P.X : Nat)) (W' := W) rfl rfl (by generalize A.eval = ev at *; simp [go_sem, g1, hc]) ⟨_, rfl, hG.pure 29 (by decide) (by decide) (by decide) (by decide) (by decide)⟩
            | 30, ho, hf =>
              obtain rfl := Option.some.inj ho
              exact op_value (v := .int .i64 (P.i : Nat)) (W' := W) rfl rfl (by generalize A.eval = ev at *; simp [go_sem, e7]) ⟨_, rfl, hG.pure 30 (by decide) (by decide) (by decide) (by decide) (by decide)⟩
            | 31, ho, hf =>
              obtain rfl := Option.some.inj ho
              have g1 : A.eval (.tmp 49) = .int .i64 (P.i : Nat) := hin 30 49 _ (get 30 (hpre ⟨30, .data⟩ (by simp) rfl)) (by kernel_rfl) (by simp)
              exact op_value (v := .int .i64 (P.q : Nat)) (W' := W) rfl rfl (by generalize A.eval = ev at *; simp [go_sem, ek, g1, qe]) ⟨_, rfl, hG.pure 31 (by decide) (by decide) (by decide) (by decide) (by decide)⟩
            | 32, ho, hf =>
              obtain rfl := Option.some.inj ho
              have g1 : A.eval (.tmp 50) = .int .i64 (P.q : Nat) := hin 31 50 _ (get 31 (hpre ⟨31, .data⟩ (by simp) rfl)) (by kernel_rfl) (by simp)
              exact op_value (v := .int .i64 (P.q1 : Nat)) (W' := W) rfl rfl (by generalize A.eval = ev at *; simp [go_sem, ek, g1, qe1]) ⟨_, rfl, hG.pure 32 (by decide) (by decide) (by decide) (by decide) (by decide)⟩
            | 33, ho, hf =>
              obtain rfl := Option.some.inj ho
              have g1 : A.eval (.tmp 51) = .int .i64 (P.q1 : Nat) := hin 32 51 _ (get 32 (hpre ⟨32, .data⟩ (by simp) rfl)) (by kernel_rfl) (by simp)
              exact op_value (v := .pointer (some ⟨P.lb, P.q1, none⟩)) (W' := W) rfl rfl (by generalize A.eval = ev at *; simp [go_sem, e6, g1, Tryd.underlying101, q10]) ⟨_, rfl, hG.pure 33 (by decide) (by decide) (by decide) (by decide) (by decide)⟩
            | 34, ho, hf =>
              obtain rfl := Option.some.inj ho
              have g1 : A.eval (.tmp 52) = .pointer (some ⟨P.lb, P.q1, none⟩) := hin 33 52 _ (get 33 (hpre ⟨33, .data⟩ (by simp) rfl)) (by kernel_rfl) (by simp)
              have hc := (same P.lb P.q1 nL).trans ky
              exact op_value (v := .int .u8 (P.y : Nat)) (W' := W) rfl rfl (by generalize A.eval = ev at *; simp [go_sem, g1, hc]) ⟨_, rfl, hG.pure 34 (by decide) (by decide) (by decide) (by decide) (by decide)⟩
            | 35, ho, hf =>
              obtain rfl := Option.some.inj ho
              have g1 : A.eval (.tmp 53) = .int .u8 (P.y : Nat) := hin 34 53 _ (get 34 (hpre ⟨34, .data⟩ (by simp) rfl)) (by kernel_rfl) (by simp)
              exact op_value (v := .pointer (some ⟨P.mb, P.y, none⟩)) (W' := W) rfl rfl (by generalize A.eval = ev at *; simp [go_sem, e3, g1, Tryd.underlying79, y0]) ⟨_, rfl, hG.pure 35 (by decide) (by decide) (by decide) (by decide) (by decide)⟩
            | 36, ho, hf =>
              obtain rfl := Option.some.inj ho
              have g1 : A.eval (.tmp 54) = .pointer (some ⟨P.mb, P.y, none⟩) := hin 35 54 _ (get 35 (hpre ⟨35, .data⟩ (by simp) rfl)) (by kernel_rfl) (by simp)
              have hc := (same P.mb P.y nM).trans kY
              exact op_value (v := .int .u32 (P.Y : Nat)) (W' := W) rfl rfl (by generalize A.eval = ev at *; simp [go_sem, g1, hc]) ⟨_, rfl, hG.pure 36 (by decide) (by decide) (by decide) (by decide) (by decide)⟩
            | 37, ho, hf =>
              obtain rfl := Option.some.inj ho
              have g1 : A.eval (.tmp 30) = .int .u32 (P.l.getD P.a 0 : Nat) := hin 11 30 _ (get 11 (hpre ⟨11, .data⟩ (by simp) rfl)) (by kernel_rfl) (by simp)
              have g2 : A.eval (.tmp 34) = .int .u32 (P.l.getD P.b 0 : Nat) := hin 15 34 _ (get 15 (hpre ⟨15, .data⟩ (by simp) rfl)) (by kernel_rfl) (by simp)
              have g3 : A.eval (.tmp 38) = .int .u32 (P.l.getD P.c 0 : Nat) := hin 19 38 _ (get 19 (hpre ⟨19, .data⟩ (by simp) rfl)) (by kernel_rfl) (by simp)
              have g4 : A.eval (.tmp 42) = .int .u32 (P.l.getD P.d 0 : Nat) := hin 23 42 _ (get 23 (hpre ⟨23, .data⟩ (by simp) rfl)) (by kernel_rfl) (by simp)
              have g5 : A.eval (.tmp 48) = .int .u32 (P.X : Nat) := hin 29 48 _ (get 29 (hpre ⟨29, .data⟩ (by simp) rfl)) (by kernel_rfl) (by simp)
              have g6 : A.eval (.tmp 55) = .int .u32 (P.Y : Nat) := hin 36 55 _ (get 36 (hpre ⟨36, .data⟩ (by simp) rfl)) (by kernel_rfl) (by simp)
              have ef : ∀ f, A.eval (.func f) = .func (.func f) #[] #[] := fun _ => rfl
              refine op_call (g := 73) (args := #[.int .u32 (P.l.getD P.a 0 : Nat), .int .u32 (P.l.getD P.b 0 : Nat), .int .u32 (P.l.getD P.c 0 : Nat), .int .u32 (P.l.getD P.d 0 : Nat), .int .u32 (P.X : Nat), .int .u32 (P.Y : Nat)]) rfl rfl (by generalize A.eval = ev at *; simp [go_sem, g1, g2, g3, g4, g5, g6, ef]) ?_
              refine (f1 W).mono ?_
              rintro e W' ⟨rfl, rfl⟩
              exact ⟨_, rfl, _, rfl, hG.call ⟨hpre ⟨11, .data⟩ (by simp) rfl, hpre ⟨15, .data⟩ (by simp) rfl, hpre ⟨19, .data⟩ (by simp) rfl, hpre ⟨23, .data⟩ (by simp) rfl⟩⟩
            | 38, ho, hf =>
              obtain rfl := Option.some.inj ho
              have g1 : A.eval (.tmp 56) = .tuple #[.int .u32 (P.r.a : Nat), .int .u32 (P.r.b : Nat), .int .u32 (P.r.c : Nat), .int .u32 (P.r.d : Nat)] := hin 37 56 _ (get 37 (hpre ⟨37, .data⟩ (by simp) rfl)) (by kernel_rfl) (by simp)
              exact op_value (v := .tuple #[.int .u32 (P.r.a : Nat), .int .u32 (P.r.b : Nat), .int .u32 (P.r.c : Nat), .int .u32 (P.r.d : Nat)]) (W' := W) rfl rfl (by generalize A.eval = ev at *; simp [go_sem, g1]) ⟨_, rfl, hG.pure 38 (by decide) (by decide) (by decide) (by decide) (by decide)⟩
            | 39, ho, hf =>
              obtain rfl := Option.some.inj ho
              have g1 : A.eval (.tmp 18) = .tuple #[.int .u32 (P.r.a : Nat), .int .u32 (P.r.b : Nat), .int .u32 (P.r.c : Nat), .int .u32 (P.r.d : Nat)] := hin 38 18 _ (get 38 (hpre ⟨38, .data⟩ (by simp) rfl)) (by kernel_rfl) (by simp)
              exact op_value (v := .int .u32 (P.r.a : Nat)) (W' := W) rfl rfl (by generalize A.eval = ev at *; simp [go_sem, g1]) ⟨_, rfl, hG.pure 39 (by decide) (by decide) (by decide) (by decide) (by decide)⟩
            | 40, ho, hf =>
              obtain rfl := Option.some.inj ho
              have g1 : A.eval (.tmp 18) = .tuple #[.int .u32 (P.r.a : Nat), .int .u32 (P.r.b : Nat), .int .u32 (P.r.c : Nat), .int .u32 (P.r.d : Nat)] := hin 38 18 _ (get 38 (hpre ⟨38, .data⟩ (by simp) rfl)) (by kernel_rfl) (by simp)
              exact op_value (v := .int .u32 (P.r.b : Nat)) (W' := W) rfl rfl (by generalize A.eval = ev at *; simp [go_sem, g1]) ⟨_, rfl, hG.pure 40 (by decide) (by decide) (by decide) (by decide) (by decide)⟩
            | 41, ho, hf =>
              obtain rfl := Option.some.inj ho
              have g1 : A.eval (.tmp 18) = .tuple #[.int .u32 (P.r.a : Nat), .int .u32 (P.r.b : Nat), .int .u32 (P.r.c : Nat), .int .u32 (P.r.d : Nat)] := hin 38 18 _ (get 38 (hpre ⟨38, .data⟩ (by simp) rfl)) (by kernel_rfl) (by simp)
              exact op_value (v := .int .u32 (P.r.c : Nat)) (W' := W) rfl rfl (by generalize A.eval = ev at *; simp [go_sem, g1]) ⟨_, rfl, hG.pure 41 (by decide) (by decide) (by decide) (by decide) (by decide)⟩
            | 42, ho, hf =>
              obtain rfl := Option.some.inj ho
              have g1 : A.eval (.tmp 18) = .tuple #[.int .u32 (P.r.a : Nat), .int .u32 (P.r.b : Nat), .int .u32 (P.r.c : Nat), .int .u32 (P.r.d : Nat)] := hin 38 18 _ (get 38 (hpre ⟨38, .data⟩ (by simp) rfl)) (by kernel_rfl) (by simp)
              exact op_value (v := .int .u32 (P.r.d : Nat)) (W' := W) rfl rfl (by generalize A.eval = ev at *; simp [go_sem, g1]) ⟨_, rfl, hG.pure 42 (by decide) (by decide) (by decide) (by decide) (by decide)⟩
            | 43, ho, hf =>
              obtain rfl := Option.some.inj ho
              have g1 : A.eval (.tmp 20) = .int .u8 (P.a : Nat) := hin 1 20 _ (get 1 (hpre ⟨1, .data⟩ (by simp) rfl)) (by kernel_rfl) (by simp)
              exact op_value (v := .pointer (some ⟨P.sp, P.a, none⟩)) (W' := W) rfl rfl (by generalize A.eval = ev at *; simp [go_sem, e2, g1, Tryd.underlying87, a0]) ⟨_, rfl, hG.pure 43 (by decide) (by decide) (by decide) (by decide) (by decide)⟩
            | 44, ho, hf =>
              obtain rfl := Option.some.inj ho
              have g1 : A.eval (.tmp 61) = .pointer (some ⟨P.sp, P.a, none⟩) := hin 43 61 _ (get 43 (hpre ⟨43, .data⟩ (by simp) rfl)) (by kernel_rfl) (by simp)
              have g2 : A.eval (.tmp 57) = .int .u32 (P.r.a : Nat) := hin 39 57 _ (get 39 (hpre ⟨39, .data⟩ (by simp) rfl)) (by kernel_rfl) (by simp)
              have hc := hG.blk.cell P.a _ (wd_get _ P.a (by rw [hLl]; omega))
              have hz := hG.blk.frozen P.a
              have h37 := hpre ⟨37, .chain⟩ (by simp) rfl
              have n44 : (f 44).isSome = false := by rw [hf]; rfl
              have n46 : (f 46).isSome = false := by
                cases hx : (f 46).isSome
                · rfl
                · rw [hG.s46 hx] at n44; cases n44
              have n48 : (f 48).isSome = false := by
                cases hx : (f 48).isSome
                · rfl
                · rw [hG.s48 hx] at n46; cases n46
              have n50 : (f 50).isSome = false := by
                cases hx : (f 50).isSome
                · rfl
                · rw [hG.s50 hx] at n48; cases n48
              have hL : Lf P (upd f 44 undef) = (Lf P f).set P.a P.r.a := by
                unfold Lf
                simp only [upd_other f undef (by decide : 46 ≠ 44), n46, upd_other f undef (by decide : 48 ≠ 44), n48, upd_other f undef (by decide : 50 ≠ 44), n50, n44, upd_same, Option.isSome_some, if_true, Bool.false_eq_true, if_false, put4]
              exact op_skip (W' := W.setCell ⟨P.sp, P.a, none⟩ (.int .u32 (P.r.a : Nat))) rfl rfl (by generalize A.eval = ev at *; simp [go_sem, g1, g2, hc, hz]) ⟨_, rfl, hG.store 44 P.a P.r.a (by omega) hf h37 (.inl rfl) hL⟩
            | 45, ho, hf =>
              obtain rfl := Option.some.inj ho
              have g1 : A.eval (.tmp 22) = .int .u8 (P.b : Nat) := hin 3 22 _ (get 3 (hpre ⟨3, .data⟩ (by simp) rfl)) (by kernel_rfl) (by simp)
              exact op_value (v := .pointer (some ⟨P.sp, P.b, none⟩)) (W' := W) rfl rfl (by generalize A.eval = ev at *; simp [go_sem, e2, g1, Tryd.underlying87, b0]) ⟨_, rfl, hG.pure 45 (by decide) (by decide) (by decide) (by decide) (by decide)⟩
            | 46, ho, hf =>
              obtain rfl := Option.some.inj ho
              have g1 : A.eval (.tmp 62) = .pointer (some ⟨P.sp, P.b, none⟩) := hin 45 62 _ (get 45 (hpre ⟨45, .data⟩ (by simp) rfl)) (by kernel_rfl) (by simp)
              have g2 : A.eval (.tmp 58) = .int .u32 (P.r.b : Nat) := hin 40 58 _ (get 40 (hpre ⟨40, .data⟩ (by simp) rfl)) (by kernel_rfl) (by simp)
              have hc := hG.blk.cell P.b _ (wd_get _ P.b (by rw [hLl]; omega))
              have hz := hG.blk.frozen P.b
              have h37 := hG.s44 (hpre ⟨44, .chain⟩ (by simp) rfl)
              have n46 : (f 46).isSome = false := by rw [hf]; rfl
              have n48 : (f 48).isSome = false := by
                cases hx : (f 48).isSome
                · rfl
                · rw [hG.s48 hx] at n46; cases n46
              have n50 : (f 50).isSome = false := by
                cases hx : (f 50).isSome
                · rfl
                · rw [hG.s50 hx] at n48; cases n48
              have y44 : (f 44).isSome = true := hpre ⟨44, .chain⟩ (by simp) rfl
              have hL : Lf P (upd f 46 undef) = (Lf P f).set P.b P.r.b := by
                unfold Lf
                simp only [upd_other f undef (by decide : 48 ≠ 46), n48, upd_other f undef (by decide : 50 ≠ 46), n50, n46, y44, upd_same, Option.isSome_some, if_true, Bool.false_eq_true, if_false, put4]
              exact op_skip (W' := W.setCell ⟨P.sp, P.b, none⟩ (.int .u32 (P.r.b : Nat))) rfl rfl (by generalize A.eval = ev at *; simp [go_sem, g1, g2, hc, hz]) ⟨_, rfl, hG.store 46 P.b P.r.b (by omega) hf h37 (.inr (hpre ⟨44, .chain⟩ (by simp) rfl)) hL⟩
            | 47, ho, hf =>
              obtain rfl := Option.some.inj ho
              have g1 : A.eval (.tmp 24) = .int .u8 (P.c : Nat) := hin 5 24 _ (get 5 (hpre ⟨5, .data⟩ (by simp) rfl)) (by kernel_rfl) (by simp)
              exact op_value (v := .pointer (some ⟨P.sp, P.c, none⟩)) (W' := W) rfl rfl (by generalize A.eval = ev at *; simp [go_sem, e2, g1, Tryd.underlying87, c0']) ⟨_, rfl, hG.pure 47 (by decide) (by decide) (by decide) (by decide) (by decide)⟩
            | 48, ho, hf =>
              obtain rfl := Option.some.inj ho
              have g1 : A.eval (.tmp 63) = .pointer (some ⟨P.sp, P.c, none⟩) := hin 47 63 _ (get 47 (hpre ⟨47, .data⟩ (by simp) rfl)) (by kernel_rfl) (by simp)
              have g2 : A.eval (.tmp 59) = .int .u32 (P.r.c : Nat) := hin 41 59 _ (get 41 (hpre ⟨41, .data⟩ (by simp) rfl)) (by kernel_rfl) (by simp)
              have hc := hG.blk.cell P.c _ (wd_get _ P.c (by rw [hLl]; omega))
              have hz := hG.blk.frozen P.c
              have h37 := hG.s44 (hG.s46 (hpre ⟨46, .chain⟩ (by simp) rfl))
              have n48 : (f 48).isSome = false := by rw [hf]; rfl
              have n50 : (f 50).isSome = false := by
                cases hx : (f 50).isSome
                · rfl
                · rw [hG.s50 hx] at n48; cases n48
              have y46 : (f 46).isSome = true := hpre ⟨46, .chain⟩ (by simp) rfl
              have hL : Lf P (upd f 48 undef) = (Lf P f).set P.c P.r.c := by
                unfold Lf
                simp only [upd_other f undef (by decide : 50 ≠ 48), n50, n48, y46, upd_same, Option.isSome_some, if_true, Bool.false_eq_true, if_false, put4]
              exact op_skip (W' := W.setCell ⟨P.sp, P.c, none⟩ (.int .u32 (P.r.c : Nat))) rfl rfl (by generalize A.eval = ev at *; simp [go_sem, g1, g2, hc, hz]) ⟨_, rfl, hG.store 48 P.c P.r.c (by omega) hf h37 (.inr (hpre ⟨46, .chain⟩ (by simp) rfl)) hL⟩
            | 49, ho, hf =>
              obtain rfl := Option.some.inj ho
              have g1 : A.eval (.tmp 26) = .int .u8 (P.d : Nat) := hin 7 26 _ (get 7 (hpre ⟨7, .data⟩ (by simp) rfl)) (by kernel_rfl) (by simp)
              exact op_value (v := .pointer (some ⟨P.sp, P.d, none⟩)) (W' := W) rfl rfl (by generalize A.eval = ev at *; simp [go_sem, e2, g1, Tryd.underlying87, d0']) ⟨_, rfl, hG.pure 49 (by decide) (by decide) (by decide) (by decide) (by decide)⟩
            | 50, ho, hf =>
              obtain rfl := Option.some.inj ho
              have g1 : A.eval (.tmp 64) = .pointer (some ⟨P.sp, P.d, none⟩) := hin 49 64 _ (get 49 (hpre ⟨49, .data⟩ (by simp) rfl)) (by kernel_rfl) (by simp)
              have g2 : A.eval (.tmp 60) = .int .u32 (P.r.d : Nat) := hin 42 60 _ (get 42 (hpre ⟨42, .data⟩ (by simp) rfl)) (by kernel_rfl) (by simp)
              have hc := hG.blk.cell P.d _ (wd_get _ P.d (by rw [hLl]; omega))
              have hz := hG.blk.frozen P.d
              have h37 := hG.s44 (hG.s46 (hG.s48 (hpre ⟨48, .chain⟩ (by simp) rfl)))
              have n50 : (f 50).isSome = false := by rw [hf]; rfl
              have y48 : (f 48).isSome = true := hpre ⟨48, .chain⟩ (by simp) rfl
              have hL : Lf P (upd f 50 undef) = (Lf P f).set P.d P.r.d := by
                unfold Lf
                simp only [n50, y48, upd_same, Option.isSome_some, if_true, Bool.false_eq_true, if_false, put4]
              exact op_skip (W' := W.setCell ⟨P.sp, P.d, none⟩ (.int .u32 (P.r.d : Nat))) rfl rfl (by generalize A.eval = ev at *; simp [go_sem, g1, g2, hc, hz]) ⟨_, rfl, hG.store 50 P.d P.r.d (by omega) hf h37 (.inr (hpre ⟨48, .chain⟩ (by simp) rfl)) hL⟩
            | (j + 51), ho, _ => exact absurd ho (by simp)
          · intro f W hall hG
            have hb := hG.blk
            unfold Lf at hb
            rw [hall 50 (by decide), if_pos rfl, HB.out.2, HB.out.1] at hb
            have hbl := hG.block
            have hbe := hG.below w.heap.size w (Nat.le_of_eq HB.out.1.symm) hX2
            rw [HB.out.1] at hbl
            rw [fr_congr (g := fun j => some (SV P j)) _ 0 _ (fun j _ hj => by
              have hs := hall j (by simpa using hj)
              cases hx : f j with
              | none => rw [hx] at hs; cases hs
              | some v => rw [hG.val j v hx])]
            clear hG hall f1 a0 b0 c0' d0' x0 y0 q0 q10 qe qe1 kp0 kp1 kp2 kp3 kx ky kX kY kV pe2 pe3 pe6 pe7 pe8 hLl
            have kM : Blk W (w.heap.size + 1) 79 (wd m) := by unfold Blk; rw [hbl _ (by omega)]; exact hM2
            have kR : Blk W (w.heap.size + 1 + 1) 87 Z := by unfold Blk; rw [hbl _ (by omega)]; exact hR2
            have kB : Blk W lb 101 LL := by unfold Blk; rw [hbl _ (by omega)]; exact hB2
            simp only [fr, SV, Act.put, List.setIfInBounds_toArray, List.set_cons_succ, List.set_cons_zero]
            go_wp2_with fail
            go_roundw
            case rel => exact ⟨k + 1, by omega, by go_num, by rw [HK.out]; exact hb, kM, kR, kB, hbe⟩
            case measure => simp [intOf]; omega
        · obtain rfl : k = 8 := by omega
          have d0 : decide (((8 : Nat) : Int) < 8) = false := by decide
          rw [show ((8 : Nat) : Int) = 8 from rfl] at d0 ⊢
          go_wp2_with fail
          go_roundw
          case rel => exact ⟨r + 1, by omega, by go_num, by rw [HN.out]; exact hV, hM, hR, hnx⟩
          case measure => simp [intOf]; omega
    · obtain rfl : r = 10 := by omega
      have d0 : decide (((10 : Nat) : Int) < 10) = false := by decide
      rw [show ((10 : Nat) : Int) = 10 from rfl] at d0 ⊢
      have lE : (wd (rws m l 10)).length = 16 := by rw [wd_length, rws_length, hl]
      have oE := wd_one (rws m l 10)
      obtain ⟨E, HE⟩ : ∃ E, Hid (E = wd (rws m l 10)) := ⟨_, rfl⟩
      rw [← HE.out] at hV lE oE
      go_wp2_with (first
        | (refine wpList_load_blk rfl 87 (.tmp 2) rfl w.heap.size 0 rfl hV E (by simp) _ Tryd.underlying87 rfl (by rw [lE]; exact infoWIDE) ?_)
        | (refine wpList_store_blk rfl 87 (.tmp 4) (.tmp 67) rfl (w.heap.size + 1 + 1) E rfl rfl Z hR (by rw [lE, lZ]) oE (by rw [lZ]; exact infoWIDE) ?_; intro W5 hW5))
      exact bodyPost_ret (results_blk1 Tryd.results60 _ rfl hW5.blk _ Tryd.underlying87 rfl (by rw [lE]; exact infoWIDE)) rfl ⟨by rw [HE.out], hW5.below _ _ (by omega) hnx⟩
end Go.Proofs.YtmbckgfpkmnlnabDoor.bla
