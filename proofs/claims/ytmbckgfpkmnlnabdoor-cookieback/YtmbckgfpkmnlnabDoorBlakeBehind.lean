/-
  THE WALK OF package blake's behind.
-/
import Derived.Test.YtmbckgfpkmnlnabDoorBlakeMixed
import Derived.Test.YtmbckgfpkmnlnabDoorBlakeNumbers
import Derived.Test.YtmbckgfpkmnlnabDoorBlakeSpread
namespace Go.Proofs.YtmbckgfpkmnlnabDoor.bla
open Go.RowKit
open Go.Proofs.YtmbckgfpkmnlnabDoor.soft
open Go.Proofs.YtmbckgfpkmnlnabDoor.cha (ad ad_lt rl Ws xor_lt)
open Go.Proofs.YtmbckgfpkmnlnabDoor.sha (h0 h0_ok)
open Go.Proofs.YtmbckgfpkmnlnabDoor.ghs (mkl mkl_length mkl_get upl upl_length upl_all)

/-- What each operation of behind's first region yields. -/
def BR (l b V m E : List Value) (c : Nat) (last : Bool) (W0 : World) : Nat → Value → World → Prop
  | 0, v, _ => v = .agg l.toArray
  | 1, v, _ => v = .int .u64 (c : Nat)
  | 2, v, _ => v = .bool last
  | 3, v, _ => v = .agg V.toArray
  | 4, v, _ => v = .agg b.toArray
  | 5, v, _ => v = .agg m.toArray
  | 6, v, _ => v = .agg E.toArray
  | 7, v, W => ∃ b, v = .pointer (some ⟨b, 0, none⟩) ∧ W0.heap.size ≤ b ∧ Blk W b 87 (wd z16)
  | _, _, _ => True
theorem BR_stable (l b V m E : List Value) (c : Nat) (last : Bool) (W0 : World) : Stable (BR l b V m E c last W0) := by
  intro i v W W' h hb
  unfold BR at h ⊢
  split at h
  · exact h
  · exact h
  · exact h
  · exact h
  · exact h
  · exact h
  · exact h
  · obtain ⟨b, e, h1, h2⟩ := h
    exact ⟨b, e, h1, h2.below hb h2.lt⟩
  · trivial
theorem upl_at (l : List Nat) (f : Nat → Nat) : ∀ k j, k ≤ j → (upl l f k).getD j 0 = l.getD j 0
  | 0, _, _ => rfl
  | k + 1, j, h => by
    rw [upl, List.getD_eq_getElem?_getD, List.getElem?_set_ne (by omega), ← List.getD_eq_getElem?_getD, upl_at l f k j (by omega)]
set_option maxRecDepth 100000 in
set_option maxHeartbeats 3200000 in
theorem behind_any (l b : List Nat) (hl : l.length = 8) (ok : Ws l) (hb : b.length = 64) (okb : ∀ j, b.getD j 0 < 256) (c : Nat) (last : Bool) (w : World) (hT : Tab w) :
    Calls Tryd.prog 51 #[.agg (wd l).toArray, .agg (by8 b).toArray, .int .u64 c, .bool last] w fun e w' => e = .returned (.agg (wd (beh l (fun j => b.getD j 0) c last)).toArray) ∧ Below w.heap.size w w' := by
  obtain ⟨iw, hiw, hw0, hw1, hw2⟩ := info_parts infoWIDEz
  obtain ⟨i0, hi0, hz0, hz1, hz2⟩ := info_parts infoSTz
  obtain ⟨Z, hZd⟩ : ∃ Z, Z = wd z8 := ⟨_, rfl⟩
  have lZ : Z.length = 8 := by rw [hZd]; rfl
  rw [← hZd] at hz0
  clear hZd
  have ll : (wd l).length = 8 := by rw [wd_length, hl]
  have lb : (by8 b).length = 64 := by rw [by8_length, hb]
  have fs : ∀ W, Below w.heap.size w W → Calls Tryd.prog 59 #[.agg (wd l).toArray, .int .u64 c, .bool last] W fun e w' => e = .returned (.agg (wd (spr l c last)).toArray) ∧ Below W.heap.size W w' := fun W h => spread_any l hl ok c last W (hT.grown h)
  have fn : ∀ W, Calls Tryd.prog 61 #[.agg (by8 b).toArray] W fun e w' => e = .returned (.agg (wd (nms (fun j => b.getD j 0) 64)).toArray) ∧ Below W.heap.size W w' := fun W => numbers_any b hb okb W
  have fm : ∀ W, Below w.heap.size w W → Calls Tryd.prog 60 #[.agg (wd (spr l c last)).toArray, .agg (wd (nms (fun j => b.getD j 0) 64)).toArray] W fun e w' => e = .returned (.agg (wd (vv l (fun j => b.getD j 0) c last)).toArray) ∧ Below W.heap.size W w' := fun W h =>
    mixed_any (spr l c last) (nms (fun j => b.getD j 0) 64) (spr_length hl c last) (nms_length _ _) (spr_ok ok c last) W (hT.grown h)
  have lV := vv_length hl (fun j => b.getD j 0) c last
  have okV := vv_ok ok (fun j => b.getD j 0) c last
  have HB : Hid (beh l (fun j => b.getD j 0) c last = mkl 8 fun i => l.getD i 0 ^^^ ((vv l (fun j => b.getD j 0) c last).getD i 0 ^^^ (vv l (fun j => b.getD j 0) c last).getD (8 + i) 0)) := rfl
  rw [HB.out]
  clear HB hT
  generalize vv l (fun j => b.getD j 0) c last = V at *
  generalize wd (nms (fun j => b.getD j 0) 64) = M at *
  generalize wd (spr l c last) = S at *
  obtain ⟨G, HG⟩ : ∃ G : Nat → Nat, Hid (G = fun i => l.getD i 0 ^^^ (V.getD i 0 ^^^ V.getD (8 + i) 0)) := ⟨_, rfl⟩
  rw [← HG.out]
  have h0' : Blk (((w.alloc (.cells (wd l).toArray 65)).alloc (.cells (by8 b).toArray 75)).alloc (.cells Z.toArray 65)) w.heap.size 65 (wd l) := ((Blk.new w 65 (wd l) _ rfl).alloc _).alloc _
  have h1 : Blk (((w.alloc (.cells (wd l).toArray 65)).alloc (.cells (by8 b).toArray 75)).alloc (.cells Z.toArray 65)) (w.heap.size + 1) 75 (by8 b) := by
    have h := Blk.new (w.alloc (.cells (wd l).toArray 65)) 75 (by8 b) _ rfl
    rw [World.size_alloc] at h
    exact h.alloc _
  have h2 : Blk (((w.alloc (.cells (wd l).toArray 65)).alloc (.cells (by8 b).toArray 75)).alloc (.cells Z.toArray 65)) (w.heap.size + 1 + 1) 65 Z := by
    have h := Blk.new ((w.alloc (.cells (wd l).toArray 65)).alloc (.cells (by8 b).toArray 75)) 65 Z _ rfl
    rw [World.size_alloc, World.size_alloc] at h
    exact h
  have hX : Below w.heap.size w (((w.alloc (.cells (wd l).toArray 65)).alloc (.cells (by8 b).toArray 75)).alloc (.cells Z.toArray 65)) := (((Below.refl _ _).alloc (Nat.le_refl _) _).alloc (by simp) _).alloc (by simp; omega) _
  have hsz : (((w.alloc (.cells (wd l).toArray 65)).alloc (.cells (by8 b).toArray 75)).alloc (.cells Z.toArray 65)).heap.size = w.heap.size + 1 + 1 + 1 := by simp
  go_enter Tryd.func51, Tryd.ntmps51
  go_wp2_with (refine wpList_alloc_blk rfl 65 rfl Z i0 hi0 _ hz0 rfl ?_)
  generalize hw1d : (((w.alloc (.cells (wd l).toArray 65)).alloc (.cells (by8 b).toArray 75)).alloc (.cells Z.toArray 65)) = w1 at *
  simp only [Act.put, List.setIfInBounds_toArray, List.set_cons_succ, List.set_cons_zero]
  have hSt := BR_stable (wd l) (by8 b) S M (wd V) c last w1
  refine wp_region_told 8 (by kernel_rfl) (by kernel_rfl) (BR (wd l) (by8 b) S M (wd V) c last w1) (fun i => i == 7) ?_ ?_
  · intro f W A hin hout hg i o hi ho hpre
    have hF : ∀ j v, (j == 7) = true → BR (wd l) (by8 b) S M (wd V) c last w1 j v W → ∃ b, v = .pointer (some ⟨b, 0, none⟩) ∧ b < W.heap.size := by
      intro j v hj hr
      simp only [beq_iff_eq] at hj
      subst hj
      obtain ⟨b, e, _, hB⟩ := hr
      exact ⟨b, e, hB.lt⟩
    have ef : ∀ f, A.eval (.func f) = .func (.func f) #[] #[] := fun _ => rfl
    have hXW := hX.trans (hg.below.mono hX.size)
    match i, hi with
    | 0, _ =>
      obtain rfl := Option.some.inj ho
      have e : A.eval (.tmp 4) = .pointer (some ⟨w.heap.size, 0, none⟩) := hout 4 (by kernel_rfl)
      exact op_load (v := .agg (wd l).toArray) rfl rfl rfl e ((h0'.below hg.below h0'.lt).loadAt (P := Tryd.prog) 0 (wd l) (by simp) _ Tryd.underlying65 rfl (by rw [ll]; exact infoST)) ⟨_, rfl, hg.value hSt rfl rfl⟩
    | 1, _ =>
      obtain rfl := Option.some.inj ho
      have e : A.eval (.tmp 2) = .int .u64 (c : Nat) := hout 2 (by kernel_rfl)
      exact op_value (v := .int .u64 (c : Nat)) (W' := W) rfl rfl (by generalize A.eval = ev at *; simp [go_sem, e]) ⟨_, rfl, hg.value hSt rfl rfl⟩
    | 2, _ =>
      obtain rfl := Option.some.inj ho
      have e : A.eval (.tmp 3) = .bool last := hout 3 (by kernel_rfl)
      exact op_value (v := .bool last) (W' := W) rfl rfl (by generalize A.eval = ev at *; simp [go_sem, e]) ⟨_, rfl, hg.value hSt rfl rfl⟩
    | 3, _ =>
      obtain rfl := Option.some.inj ho
      obtain ⟨v0, g0, r0⟩ := hg.get (hpre ⟨0, .data⟩ (by simp) rfl)
      obtain ⟨v1, g1, r1⟩ := hg.get (hpre ⟨1, .data⟩ (by simp) rfl)
      obtain ⟨v2, g2, r2⟩ := hg.get (hpre ⟨2, .data⟩ (by simp) rfl)
      have e0 := hin 0 11 v0 g0 (by kernel_rfl) (by simp)
      have e1 := hin 1 12 v1 g1 (by kernel_rfl) (by simp)
      have e2 := hin 2 13 v2 g2 (by kernel_rfl) (by simp)
      obtain rfl : v0 = .agg (wd l).toArray := r0
      obtain rfl : v1 = .int .u64 (c : Nat) := r1
      obtain rfl : v2 = .bool last := r2
      refine op_call (g := 59) (args := #[.agg (wd l).toArray, .int .u64 (c : Nat), .bool last]) rfl rfl (by generalize A.eval = ev at *; simp [go_sem, e0, e1, e2, ef]) ?_
      refine (fs W hXW).mono ?_
      rintro e W' ⟨rfl, hb⟩
      exact ⟨_, rfl, _, rfl, hg.call hSt rfl hb rfl⟩
    | 4, _ =>
      obtain rfl := Option.some.inj ho
      have e : A.eval (.tmp 5) = .pointer (some ⟨w.heap.size + 1, 0, none⟩) := hout 5 (by kernel_rfl)
      exact op_load (v := .agg (by8 b).toArray) rfl rfl rfl e ((h1.below hg.below h1.lt).loadAt (P := Tryd.prog) 0 (by8 b) (by simp) _ Tryd.underlying75 rfl (by rw [lb]; exact infoBL)) ⟨_, rfl, hg.value hSt rfl rfl⟩
    | 5, _ =>
      obtain rfl := Option.some.inj ho
      obtain ⟨v4, g4, r4⟩ := hg.get (hpre ⟨4, .data⟩ (by simp) rfl)
      have e4 := hin 4 15 v4 g4 (by kernel_rfl) (by simp)
      obtain rfl : v4 = .agg (by8 b).toArray := r4
      refine op_call (g := 61) (args := #[.agg (by8 b).toArray]) rfl rfl (by generalize A.eval = ev at *; simp [go_sem, e4, ef]) ?_
      refine (fn W).mono ?_
      rintro e W' ⟨rfl, hb⟩
      exact ⟨_, rfl, _, rfl, hg.call hSt rfl hb rfl⟩
    | 6, _ =>
      obtain rfl := Option.some.inj ho
      obtain ⟨v3, g3, r3⟩ := hg.get (hpre ⟨3, .data⟩ (by simp) rfl)
      obtain ⟨v5, g5, r5⟩ := hg.get (hpre ⟨5, .data⟩ (by simp) rfl)
      have e3 := hin 3 14 v3 g3 (by kernel_rfl) (by simp)
      have e5 := hin 5 16 v5 g5 (by kernel_rfl) (by simp)
      obtain rfl : v3 = .agg S.toArray := r3
      obtain rfl : v5 = .agg M.toArray := r5
      refine op_call (g := 60) (args := #[.agg S.toArray, .agg M.toArray]) rfl rfl (by generalize A.eval = ev at *; simp [go_sem, e3, e5, ef]) ?_
      refine (fm W hXW).mono ?_
      rintro e W' ⟨rfl, hb⟩
      exact ⟨_, rfl, _, rfl, hg.call hSt rfl hb rfl⟩
    | 7, _ =>
      obtain rfl := Option.some.inj ho
      exact op_value (v := .pointer (some ⟨W.heap.size, 0, none⟩)) (W' := W.alloc (.cells (wd z16).toArray 87)) rfl rfl (by simp [go_sem]; rfl) ⟨_, rfl, hg.alloc hSt hF ⟨_, rfl, hg.below.size, Blk.new W 87 (wd z16) _ rfl⟩⟩
    | (j + 8), h => exact absurd h (by omega)
  · intro f W hall hg
    obtain ⟨v0, g0, r0⟩ := hg.get (hall 0 (by decide))
    obtain ⟨v1, g1, r1⟩ := hg.get (hall 1 (by decide))
    obtain ⟨v2, g2, r2⟩ := hg.get (hall 2 (by decide))
    obtain ⟨v3, g3, r3⟩ := hg.get (hall 3 (by decide))
    obtain ⟨v4, g4, r4⟩ := hg.get (hall 4 (by decide))
    obtain ⟨v5, g5, r5⟩ := hg.get (hall 5 (by decide))
    obtain ⟨v6, g6, r6⟩ := hg.get (hall 6 (by decide))
    obtain ⟨v7, g7, r7⟩ := hg.get (hall 7 (by decide))
    have hbW := hg.below
    simp only [List.drop_succ_cons, List.drop_zero, List.take_succ_cons, List.take_zero, fr, g0, g1, g2, g3, g4, g5, g6, g7, Act.put, List.setIfInBounds_toArray, List.set_cons_zero, List.set_cons_succ]
    obtain rfl : v6 = .agg (wd V).toArray := r6
    obtain ⟨vb, rfl, hvb, hV0⟩ := r7
    rw [hsz] at hvb
    have hA := h0'.below hbW h0'.lt
    have hR := h2.below hbW h2.lt
    have hXW := hX.trans (hbW.mono hX.size)
    clear r0 r1 r2 r3 r4 r5 g0 g1 g2 g3 g4 g5 g6 g7 hall hg hSt fs fn fm h0' h1 h2 hX hw1d hbW hsz
    have lwV : (wd V).length = 16 := by rw [wd_length, lV]
    go_wp2_with (refine wpList_store_blk rfl 87 (.tmp 9) (.tmp 17) rfl vb (wd V) rfl rfl (wd z16) hV0 (by rw [lwV]; rfl) (wd_one _) infoWIDE ?_; intro W1 hW1)
    have hA1 : Blk W1 w.heap.size 65 (wd (upl l G 0)) := hW1.other _ _ _ (by omega) hA
    have hR1 : Blk W1 (w.heap.size + 1 + 1) 65 Z := hW1.other _ _ _ (by omega) hR
    have hV1 := hW1.blk
    have hX1 := hW1.below w.heap.size w (by omega) hXW
    clear hW1 hA hR hXW hV0
    go_loopw [18] (fun i wr => ∃ k : Nat, k ≤ 8 ∧ i = .int .i64 k ∧ Blk wr w.heap.size 65 (wd (upl l G k)) ∧ Blk wr (w.heap.size + 1 + 1) 65 Z ∧ Blk wr vb 87 (wd V) ∧ Below w.heap.size w wr) (fun i _ => 8 - (intOf i).toNat)
    case atStart => exact ⟨0, by omega, rfl, hA1, hR1, hV1, hX1⟩
    case round =>
      clear hA1 hR1 hV1 hX1
      obtain ⟨k, hk, rfl, hA, hR, hV, hnx⟩ := hrel
      by_cases hlt : k < 8
      · have d0 : decide ((k : Int) < 8) = true := by simp; omega
        have lU := upl_length l G k
        have q1 := hA.cell k _ (wd_get _ k (by omega))
        rw [upl_at l G k k (Nat.le_refl _)] at q1
        have z1 := hA.frozen k
        obtain ⟨k8, hk8⟩ : ∃ q, q = 8 + k := ⟨_, rfl⟩
        have s0 : IntKind.i64.wrap (8 + (k : Int)) = (k8 : Int) := by rw [IntWalk.i64_in _ ⟨by omega, by omega⟩]; omega
        have s1 : 8 + (k : Int) = (k8 : Int) := by omega
        have q2 := hV.cell k _ (wd_get _ k (by omega))
        have q3 := hV.cell k8 _ (wd_get _ k8 (by omega))
        have HU : Hid (upl l G (k + 1) = (upl l G k).set k (l.getD k 0 ^^^ (V.getD k 0 ^^^ V.getD k8 0))) := by show _ = _; rw [hk8, HG.out]; rfl
        have b1 := ok.get k
        have b2 := okV.get k
        have b3 := okV.get k8
        obtain ⟨x, hx⟩ : ∃ x, x = V.getD k 0 ^^^ V.getD k8 0 := ⟨_, rfl⟩
        have b4 : x < 4294967296 := by rw [hx]; exact xor_lt b2 b3
        have t1 := b32.xor32 _ _ b2 b3
        rw [← hx] at t1 HU
        obtain ⟨y, hy⟩ : ∃ y, y = l.getD k 0 ^^^ x := ⟨_, rfl⟩
        have t2 := b32.xor32 _ _ b1 b4
        rw [← hy] at t2 HU
        have p0 : (0 : Int) ≤ (k : Int) := by omega
        have p1 : (k : Int) < 16 := by omega
        have p2 : (k8 : Int) < 16 := by omega
        have p3 : (0 : Int) ≤ (k8 : Int) := by omega
        have p4 : (k : Int) < 8 := by omega
        have lvv : w.heap.size + 1 + 1 < vb := by omega
        clear hx hy hk8 b1 b2 b3 b4
        generalize V.getD k 0 = v at *
        generalize V.getD k8 0 = v' at *
        generalize l.getD k 0 = u at *
        generalize upl l G k = L at *
        go_wp2_with fail
        go_region
        go_wp2_with fail
        go_roundw
        case rel => exact ⟨k + 1, by omega, by go_num, by rw [HU.out, ← wd_set]; exact (hA.set k _).drew, (hR.other (by simp; omega) _).drew, (hV.other (by simp; omega) _).drew, (hnx.setCell (by simp) _).drew⟩
        case measure => simp [intOf]; omega
      · obtain rfl : k = 8 := by omega
        have d0 : decide (((8 : Nat) : Int) < 8) = false := by decide
        rw [show ((8 : Nat) : Int) = 8 from rfl] at d0 ⊢
        rw [upl_all l G 8 hl] at hA
        have lE : (wd (mkl 8 G)).length = 8 := by rw [wd_length, mkl_length]
        have oE := wd_one (mkl 8 G)
        obtain ⟨E, HEd⟩ : ∃ E, Hid (E = mkl 8 G) := ⟨_, rfl⟩
        rw [← HEd.out] at hA lE oE
        go_wp2_with (first
          | (refine wpList_load_blk rfl 65 (.tmp 4) rfl w.heap.size 0 rfl hA (wd E) (by simp) _ Tryd.underlying65 rfl (by rw [lE]; exact infoST) ?_)
          | (refine wpList_store_blk rfl 65 (.tmp 8) (.tmp 35) rfl (w.heap.size + 1 + 1) (wd E) rfl rfl Z hR (by rw [lE, lZ]) oE (by rw [lZ]; exact infoST) ?_; intro W5 hW5))
        exact bodyPost_ret (results_blk1 Tryd.results51 _ rfl hW5.blk _ Tryd.underlying65 rfl (by rw [lE]; exact infoST)) rfl ⟨by rw [HEd.out], hW5.below _ _ (by omega) hnx⟩
end Go.Proofs.YtmbckgfpkmnlnabDoor.bla
