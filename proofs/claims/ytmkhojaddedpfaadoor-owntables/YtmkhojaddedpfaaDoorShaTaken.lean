/-
  THE WALK OF package sha's taken.
-/
import Derived.Test.YtmkhojaddedpfaaDoorShaSpread
namespace Go.Proofs.YtmkhojaddedpfaaDoor.sha
open Go.RowKit
open Go.Proofs.YtmkhojaddedpfaaDoor.soft
open Go.Proofs.YtmkhojaddedpfaaDoor.cha (ad ad_lt rl Ws xor_lt)
open Go.Proofs.YtmkhojaddedpfaaDoor.ghs (mkl mkl_length mkl_get upl upl_length upl_all)

/-- The table of roots. -/
def Tab (w : World) : Prop := ∀ k, k < 64 → w.cell? ⟨1, k, none⟩ = some (.int .u32 ((kL.getD k 0 : Nat) : Int))
theorem Tab.lt {w : World} (h : Tab w) : 1 < w.heap.size := by
  rcases Nat.lt_or_ge 1 w.heap.size with hlt | hge
  · exact hlt
  · have := h 0 (by decide)
    unfold World.cell? at this
    simp [Array.getElem?_eq_none hge] at this
theorem Tab.below {w w' : World} {B : Nat} (h : Tab w) (hb : Below B w w') (hlt : 1 < B) : Tab w' := fun k hk => (hb.cell (p := ⟨1, k, none⟩) hlt).trans (h k hk)
theorem Tab.grown {w w' : World} (h : Tab w) (hb : Below w.heap.size w w') : Tab w' := h.below hb h.lt
theorem Tab.but {w w' : World} {b : Nat} (h : Tab w) (hg : w.grownBy w' (some b)) (hne : 1 ≠ b) : Tab w' := fun k hk => by
  rw [World.cell?_of_block (w := w) (a := ⟨1, k, none⟩) (hg.block 1 h.lt (by simpa using hne))]
  exact h k hk
def z8 : List Nat := [0, 0, 0, 0, 0, 0, 0, 0]
theorem infoST : (Tryd.prog.info? 84).map (·.size) = some 8 := by kernel_rfl
theorem infoBL : (Tryd.prog.info? 86).map (·.size) = some 64 := by kernel_rfl
theorem infoU32' : ∃ i, Tryd.prog.info? 27 = some i ∧ i.size = 1 := by
  obtain ⟨i, h1, _, h3, _⟩ := info_parts infoU32
  exact ⟨i, h1, h3⟩
theorem upl_at (l : List Nat) (f : Nat → Nat) : ∀ k j, k ≤ j → (upl l f k).getD j 0 = l.getD j 0
  | 0, _, _ => rfl
  | k + 1, j, h => by
    rw [upl, List.getD_eq_getElem?_getD, List.getElem?_set_ne (by omega), ← List.getD_eq_getElem?_getD, upl_at l f k j (by omega)]

set_option maxRecDepth 100000 in
set_option maxHeartbeats 3200000 in
theorem taken_any (l : List Nat) (hl : l.length = 8) (ok : Ws l) (f : Nat → Nat) (hf : ∀ j, f j < 256) (w : World) (hT : Tab w) :
    Calls Tryd.prog 36 #[.agg (wd l).toArray, .agg (by8 (mkl 64 f)).toArray] w fun e w' => e = .returned (.agg (wd (comp l f)).toArray) ∧ Below w.heap.size w w' := by
  obtain ⟨i0, hi, hz0, hz1, hz2⟩ := info_parts infoW64z
  obtain ⟨iu, hiu, hiu1⟩ := infoU32'
  have lB : (by8 (mkl 64 f)).length = 64 := by rw [by8_length, mkl_length]
  have fs := spread_any f hf
  obtain ⟨D, hD⟩ : ∃ D, D = by8 (mkl 64 f) := ⟨_, rfl⟩
  rw [← hD] at lB fs ⊢
  clear hD
  obtain ⟨Z, hZd⟩ : ∃ Z, Z = wd z64 := ⟨_, rfl⟩
  have lZ : Z.length = 64 := by rw [hZd]; rfl
  rw [← hZd] at hz0
  clear hZd
  obtain ⟨M, hM⟩ : ∃ M, M = ws f 64 := ⟨_, rfl⟩
  have lM : M.length = 64 := by rw [hM, ws_length]
  have lwM : (wd M).length = 64 := by rw [wd_length, lM]
  have oM := wd_one M
  have ll : (wd l).length = 8 := by rw [wd_length, hl]
  have ol := wd_one l
  have HC : Hid (comp l f = mkl 8 fun i => ad (l.getD i 0) ((rnd l (fun t => ad (kL.getD t 0) (M.getD t 0)) 64).getD i 0)) := by rw [hM]; rfl
  rw [HC.out]
  rw [← hM] at fs
  clear hM HC
  obtain ⟨F, hF⟩ : ∃ F : Nat → Nat, Hid (F = fun t => ad (kL.getD t 0) (M.getD t 0)) := ⟨_, rfl⟩
  rw [← hF.out]
  have hG0 := hT.lt
  have h0 : Blk (((w.alloc (.cells (wd l).toArray 84)).alloc (.cells D.toArray 86)).alloc (.cells (wd z8).toArray 84)) w.heap.size 84 (wd l) := ((Blk.new w 84 (wd l) _ rfl).alloc _).alloc _
  have h1 : Blk (((w.alloc (.cells (wd l).toArray 84)).alloc (.cells D.toArray 86)).alloc (.cells (wd z8).toArray 84)) (w.heap.size + 1) 86 D := by
    have h := Blk.new (w.alloc (.cells (wd l).toArray 84)) 86 D _ rfl
    rw [World.size_alloc] at h
    exact h.alloc _
  have h2 : Blk (((w.alloc (.cells (wd l).toArray 84)).alloc (.cells D.toArray 86)).alloc (.cells (wd z8).toArray 84)) (w.heap.size + 1 + 1) 84 (wd z8) := by
    have h := Blk.new ((w.alloc (.cells (wd l).toArray 84)).alloc (.cells D.toArray 86)) 84 (wd z8) _ rfl
    rw [World.size_alloc, World.size_alloc] at h
    exact h
  have hX : Below w.heap.size w (((w.alloc (.cells (wd l).toArray 84)).alloc (.cells D.toArray 86)).alloc (.cells (wd z8).toArray 84)) := (((Below.refl _ _).alloc (Nat.le_refl _) _).alloc (by simp) _).alloc (by simp; omega) _
  have hsz : (((w.alloc (.cells (wd l).toArray 84)).alloc (.cells D.toArray 86)).alloc (.cells (wd z8).toArray 84)).heap.size = w.heap.size + 1 + 1 + 1 := by simp
  have HT : Hid (Tab w) := hT
  clear hT
  go_enter Tryd.func36, Tryd.ntmps36
  go_wp2_with (first
    | (refine wpList_load_blk rfl 86 (.tmp 3) rfl (w.heap.size + 1) 0 rfl h1 D (by simp) _ Tryd.underlying86 rfl (by rw [lB]; exact infoBL) ?_)
    | (go_at_call 42; (with_reducible refine (fs _).mono ?_); rintro e w1 ⟨rfl, hb1⟩)
    | (refine wpList_alloc_blk rfl 96 rfl Z i0 hi _ hz0 rfl ?_; have g5 : Blk (w1.alloc (.cells Z.toArray 96)) w1.heap.size 96 Z := Blk.new w1 96 Z _ rfl)
    | (refine wpList_store_blk rfl 96 (.tmp 5) (.tmp 12) rfl w1.heap.size (wd M) rfl rfl Z g5 (by rw [lwM, lZ]) oM (by rw [lZ]; exact infoW64) ?_; intro W1 hW1; have hs1 : w.heap.size + 1 + 1 + 1 ≤ w1.heap.size := (by rw [← hsz]; exact hb1.size); have hS1 : Blk W1 w.heap.size 84 (wd l) := hW1.other _ _ _ (by omega) ((h0.below hb1 h0.lt).alloc _))
    | (refine wpList_load_blk rfl 84 (.tmp 2) rfl w.heap.size 0 rfl hS1 (wd l) (by simp) _ Tryd.underlying84 rfl (by rw [ll]; exact infoST) ?_; have g6 : Blk (W1.alloc (.cells (wd z8).toArray 84)) W1.heap.size 84 (wd z8) := Blk.new W1 84 (wd z8) _ rfl)
    | (refine wpList_store_blk rfl 84 (.tmp 6) (.tmp 13) rfl W1.heap.size (wd l) rfl rfl (wd z8) g6 (by rw [ll]; rfl) ol infoST ?_; intro W2 hW2; have hs2 := hW1.size; rw [World.size_alloc] at hs2; have hM2 : Blk W2 w1.heap.size 96 (wd M) := hW2.other _ _ _ (by omega) (hW1.blk.alloc _))
    | (refine wpList_load_blk rfl 96 (.tmp 5) rfl w1.heap.size 0 rfl hM2 (wd M) (by simp) _ Tryd.underlying96 rfl (by rw [lwM]; exact infoW64) ?_))
  have hA2 := hW2.blk
  have hS2 : Blk W2 w.heap.size 84 (wd l) := hW2.other _ _ _ (by omega) (hS1.alloc _)
  have hR2 : Blk W2 (w.heap.size + 1 + 1) 84 (wd z8) := hW2.other _ _ _ (by omega) ((hW1.other _ _ _ (by omega) ((h2.below hb1 h2.lt).alloc _)).alloc _)
  have hX2 : Below w.heap.size w W2 := hW2.below _ _ (by omega) ((hW1.below w.heap.size w (by omega) ((hX.trans (hb1.mono hX.size)).alloc (by omega) _)).alloc (by omega) _)
  rw [hs2] at hA2
  clear h0 h1 h2 hX hsz hS1 hW1 hW2 g5 g6 hM2 hb1 hs2
  have hidx : ∀ (k : Nat), k < 64 → ∀ W, (Instr.index 96 (.agg (wd M).toArray) (.int .i64 (k : Int))).run Tryd.prog W = .ok (.int .u32 ((M.getD k 0 : Nat) : Int)) W := fun k hk W => run_index_wd Tryd.underlying96 Tryd.underlying27 hiu hiu1 M k hk (by omega) W
  have HI : Hid _ := hidx
  clear hidx
  go_loopw [15] (fun i wr => ∃ k : Nat, k ≤ 64 ∧ i = .int .i64 k ∧ Blk wr w.heap.size 84 (wd l) ∧ Blk wr (w.heap.size + 1 + 1) 84 (wd z8) ∧ Blk wr (w1.heap.size + 1) 84 (wd (rnd l F k)) ∧ Below w.heap.size w wr) (fun i _ => 64 - (intOf i).toNat)
  case atStart => exact ⟨0, by omega, rfl, hS2, hR2, hA2, hX2⟩
  case round =>
    clear hS2 hR2 hA2 hX2
    obtain ⟨k, hk, rfl, hS, hR, hA, hnx⟩ := hrel
    by_cases hlt : k < 64
    · have d0 : decide ((k : Int) < 64) = true := by simp; omega
      have hi1 := HI.out k hlt
      have c1 := (HT.out.below hnx hG0) k hlt
      have s1 := add32 (kL.getD k 0) (M.getD k 0)
      have HU : Hid (rnd l F (k + 1) = stL (rnd l F k) (ad (kL.getD k 0) (M.getD k 0))) := by show _ = _; rw [rnd, hF.out]
      have f1 := fun x => stir_any (rnd l F k) (rnd_length l F hl k) (rnd_ok F ok k) x (w1.heap.size + 1) wr hA
      have f2 := f1 (ad (kL.getD k 0) (M.getD k 0))
      clear f1
      generalize ad (kL.getD k 0) (M.getD k 0) = x at *
      generalize kL.getD k 0 = a at *
      generalize M.getD k 0 = b at *
      generalize rnd l F k = L at *
      have q0 : (0 : Int) ≤ (k : Int) := by omega
      have r0 : (k : Int) < 64 := by omega
      go_wp2_with (go_at_call 43; (with_reducible refine f2.mono ?_); rintro e w3 ⟨rfl, hB3, hG3⟩)
      go_roundw
      case rel => exact ⟨k + 1, by omega, by go_num, hS.but hG3 (by simp; omega), hR.but hG3 (by simp; omega), by rw [HU.out]; exact hB3, hnx.grown hG3 hnx.size (fun j hj => by cases hj; omega)⟩
      case measure => simp [intOf]; omega
    · obtain rfl : k = 64 := by omega
      have d0 : decide (((64 : Nat) : Int) < 64) = false := by decide
      obtain ⟨R, HRd⟩ : ∃ R, Hid (R = rnd l F 64) := ⟨_, rfl⟩
      have lR : R.length = 8 := by rw [HRd.out, rnd_length l F hl]
      rw [← HRd.out] at hA
      have lwR : (wd R).length = 8 := by rw [wd_length, lR]
      rw [show ((64 : Nat) : Int) = 64 from rfl] at d0 ⊢
      go_wp2_with (refine wpList_load_blk rfl 84 (.tmp 6) rfl (w1.heap.size + 1) 0 rfl hA (wd R) (by simp) _ Tryd.underlying84 rfl (by rw [lwR]; exact infoST) ?_)
      obtain ⟨G, HG⟩ : ∃ G : Nat → Nat, Hid (G = fun i => ad (l.getD i 0) (R.getD i 0)) := ⟨_, rfl⟩
      have HI2 : Hid (∀ (k : Nat), k < 8 → ∀ W, (Instr.index 84 (.agg (wd R).toArray) (.int .i64 (k : Int))).run Tryd.prog W = .ok (.int .u32 ((R.getD k 0 : Nat) : Int)) W) := fun k hk W => run_index_wd Tryd.underlying84 Tryd.underlying27 hiu hiu1 R k hk (by omega) W
      go_loopw [27] (fun i wr => ∃ k : Nat, k ≤ 8 ∧ i = .int .i64 k ∧ Blk wr w.heap.size 84 (wd (upl l G k)) ∧ Blk wr (w.heap.size + 1 + 1) 84 (wd z8) ∧ Below w.heap.size w wr) (fun i _ => 8 - (intOf i).toNat)
      case atStart => exact ⟨0, by omega, rfl, hS, hR, hnx⟩
      case round =>
        clear hS hR hA hnx d0
        obtain ⟨k, hk, rfl, hS, hR, hnx⟩ := hrel
        by_cases hlt : k < 8
        · have d0 : decide ((k : Int) < 8) = true := by simp; omega
          have hi1 := HI2.out k hlt
          have hL := upl_length l G k
          have q1 := hS.cell k _ (wd_get _ k (by omega))
          rw [upl_at l G k k (Nat.le_refl _)] at q1
          have z1 := hS.frozen k
          have s1 := add32 (l.getD k 0) (R.getD k 0)
          have HU : Hid (upl l G (k + 1) = (upl l G k).set k (ad (l.getD k 0) (R.getD k 0))) := by rw [HG.out]; rfl
          generalize ad (l.getD k 0) (R.getD k 0) = z at *
          generalize l.getD k 0 = x at *
          generalize R.getD k 0 = y at *
          generalize upl l G k = L at *
          have k0 : (0 : Int) ≤ (k : Int) := by omega
          have kz : (k : Int) < 8 := by omega
          go_wp2_with fail
          go_roundw
          case rel => exact ⟨k + 1, by omega, by go_num, by rw [HU.out, ← wd_set]; exact hS.set k _, hR.other (by simp; omega) _, hnx.setCell (by simp) _⟩
          case measure => simp [intOf]; omega
        · obtain rfl : k = 8 := by omega
          have d0 : decide (((8 : Nat) : Int) < 8) = false := by decide
          rw [upl_all l G 8 hl] at hS
          have lE : (wd (mkl 8 G)).length = 8 := by rw [wd_length, mkl_length]
          have oE := wd_one (mkl 8 G)
          have HE : Hid (mkl 8 (fun i => ad (l.getD i 0) ((rnd l F 64).getD i 0)) = mkl 8 G) := by show _ = _; rw [HG.out, HRd.out]
          generalize mkl 8 G = E at *
          go_wp2_with (first
            | (refine wpList_load_blk rfl 84 (.tmp 2) rfl w.heap.size 0 rfl hS (wd E) (by simp) _ Tryd.underlying84 rfl (by rw [lE]; exact infoST) ?_)
            | (refine wpList_store_blk rfl 84 (.tmp 4) (.tmp 38) rfl (w.heap.size + 1 + 1) (wd E) rfl rfl (wd z8) hR (by rw [lE]; rfl) oE infoST ?_; intro W5 hW5))
          exact bodyPost_ret (results_blk1 Tryd.results36 _ rfl hW5.blk _ Tryd.underlying84 rfl (by rw [lE]; exact infoST)) rfl ⟨by rw [HE.out], hW5.below _ _ (by omega) hnx⟩
end Go.Proofs.YtmkhojaddedpfaaDoor.sha
