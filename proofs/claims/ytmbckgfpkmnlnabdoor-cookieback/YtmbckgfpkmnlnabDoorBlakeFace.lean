/-
  THE WALKS OF package blake's taken and Sum.
-/
import Derived.Test.YtmbckgfpkmnlnabDoorBlakeBehind
import Derived.Test.YtmbckgfpkmnlnabDoorBlakeText
namespace Go.Proofs.YtmbckgfpkmnlnabDoor.bla
open Go.RowKit
open Go.Proofs.YtmbckgfpkmnlnabDoor.soft
open Go.Proofs.YtmbckgfpkmnlnabDoor.cha (ad ad_lt rl Ws xor_lt told told_size)
open Go.Proofs.YtmbckgfpkmnlnabDoor.sha (h0 h0_ok)
open Go.Proofs.YtmbckgfpkmnlnabDoor.ghs (mkl mkl_length mkl_get)

/-- How many bytes a text has, for a loop's measure. -/
def strS : Value → Nat | .string s => s.size | _ => 0
theorem empty_yes {s : ByteArray} (h : s.size = 0) : s.toList.isEmpty = true := by
  rw [List.isEmpty_iff, ByteArray.toList_eq]
  apply List.eq_nil_of_length_eq_zero
  rw [Array.length_toList]
  exact h
theorem empty_no {s : ByteArray} (h : s.size ≠ 0) : s.toList.isEmpty = false := by
  rw [List.isEmpty_eq_false_iff, ByteArray.toList_eq]
  intro e
  have := congrArg List.length e
  rw [Array.length_toList, List.length_nil] at this
  have h0 : s.data.size = s.size := rfl
  omega
set_option maxRecDepth 100000 in
set_option maxHeartbeats 3200000 in
theorem taken_any (key s : ByteArray) (l : List Nat) (hl : l.length = 8) (ok : Ws l) (hs : s.size < 9223372036854775808) (w : World) (hT : Tab w) :
    Calls Tryd.prog 41 #[.string key, .string s, .agg (wd l).toArray] w fun e w' => e = .returned (.agg (wd (tk key s l)).toArray) ∧ Below w.heap.size w w' := by
  obtain ⟨i0, hi0, hz0, hz1, hz2⟩ := info_parts infoSTz
  obtain ⟨iB, hiB, hB0, hB1, hB2'⟩ := info_parts infoBLz
  obtain ⟨Z, hZd⟩ : ∃ Z, Z = wd z8 := ⟨_, rfl⟩
  have lZ : Z.length = 8 := by rw [hZd]; rfl
  rw [← hZd] at hz0
  clear hZd
  obtain ⟨ZB, hZBd⟩ : ∃ Z, Z = by8 z64 := ⟨_, rfl⟩
  have lZB : ZB.length = 64 := by rw [hZBd]; rfl
  rw [← hZBd] at hB0
  clear hZBd
  have HT : Hid (Tab w) := hT
  clear hT
  have f1 := fun W => cut_any s W
  have f2 := fun W => cut_any key W
  obtain ⟨C, hC⟩ : ∃ C, Hid (C = cutB s) := ⟨_, rfl⟩
  have lC : (by8 C).length = 64 := by rw [hC.out, by8_length, cutB_length]
  have okC : Hid (∀ j, C.getD j 0 < 256) := fun j => by rw [hC.out]; exact cutB_lt s j
  obtain ⟨R, hR⟩ : ∃ R, Hid (R = cutR s) := ⟨_, rfl⟩
  have lR : R.size ≤ s.size := by rw [hR.out, cutR_size]; omega
  rw [← hC.out, ← hR.out] at f1
  obtain ⟨D, hD⟩ : ∃ D, Hid (D = cutB key) := ⟨_, rfl⟩
  have lD : (by8 D).length = 64 := by rw [hD.out, by8_length, cutB_length]
  have okD : Hid (∀ j, D.getD j 0 < 256) := fun j => by rw [hD.out]; exact cutB_lt key j
  rw [← hD.out] at f2
  obtain ⟨T, hTd⟩ : ∃ T, Hid (T = tk key s l) := ⟨_, rfl⟩
  have lT : (wd T).length = 8 := by rw [hTd.out, wd_length, tk_length]
  have oT := wd_one T
  rw [← hTd.out]
  have h0' : Blk ((w.alloc (.cells (wd l).toArray 65)).alloc (.cells Z.toArray 65)) w.heap.size 65 (wd l) := (Blk.new w 65 (wd l) _ rfl).alloc _
  have h1 : Blk ((w.alloc (.cells (wd l).toArray 65)).alloc (.cells Z.toArray 65)) (w.heap.size + 1) 65 Z := by
    have h := Blk.new (w.alloc (.cells (wd l).toArray 65)) 65 Z _ rfl
    rw [World.size_alloc] at h
    exact h
  have hX : Below w.heap.size w ((w.alloc (.cells (wd l).toArray 65)).alloc (.cells Z.toArray 65)) := ((Below.refl _ _).alloc (Nat.le_refl _) _).alloc (by simp) _
  have hsz : ((w.alloc (.cells (wd l).toArray 65)).alloc (.cells Z.toArray 65)).heap.size = w.heap.size + 1 + 1 := by simp
  have s0 := b32.wrap64 s.size (by omega)
  have s1 : IntKind.u64.wrap ((s.size : Int) + 64) = ((s.size + 64 : Nat) : Int) := b32.wrap64 (s.size + 64) (by omega)
  by_cases hk : key.size = 0
  · have k0 : key.toList.isEmpty = true := empty_yes hk
    obtain ⟨c, hc⟩ : ∃ c, c = s.size := ⟨_, rfl⟩
    have HV : Hid (tkn c (s.size + 1) l C R = T) := by show _ = _; rw [hTd.out, hc, hC.out, hR.out]; unfold tk; rw [hk]; rfl
    have HO : Hid (l.length = 8 ∧ Ws l ∧ C.length = 64 ∧ (∀ j, C.getD j 0 < 256) ∧ R.size < s.size + 1 ∧ R.size ≤ c) := ⟨hl, ok, by rw [← by8_length]; exact lC, okC.out, by omega, by omega⟩
    have hcl : c < 18446744073709551616 := by omega
    go_enter Tryd.func41, Tryd.ntmps41
    go_wp2_with (first
      | (refine wpList_alloc_blk rfl 65 rfl Z i0 hi0 _ hz0 rfl ?_)
      | (go_at_call 50; (with_reducible refine (f1 _).mono ?_); rintro e w1 ⟨rfl, hb1⟩)
      | (refine wpList_alloc_blk rfl 75 rfl ZB iB hiB _ hB0 rfl ?_; have g1 : Blk (w1.alloc (.cells ZB.toArray 75)) w1.heap.size 75 ZB := Blk.new w1 75 ZB _ rfl)
      | (refine wpList_store_blk rfl 75 (.tmp 7) (.tmp 13) rfl w1.heap.size (by8 C) rfl rfl ZB g1 (by rw [lC, lZB]) (by8_one _) (by rw [lZB]; exact infoBL) ?_; intro W1 hW1))
    have z1 := hb1.size
    rw [hsz] at z1
    have hA2 : Blk W1 w.heap.size 65 (wd l) := hW1.other _ _ _ (by omega) ((h0'.below hb1 h0'.lt).alloc _)
    have hR2 : Blk W1 (w.heap.size + 1) 65 Z := hW1.other _ _ _ (by omega) ((h1.below hb1 h1.lt).alloc _)
    have hX1 := hX.trans (hb1.mono hX.size)
    have hX2 := hW1.below w.heap.size w (by omega) (hX1.alloc (by omega) _)
    obtain ⟨bb, hbb⟩ : ∃ bb, bb = w1.heap.size := ⟨_, rfl⟩
    have hB2 := hW1.blk
    rw [← hbb] at hB2
    rw [← hbb, ← hc]
    have hbn : w.heap.size + 1 < bb := by omega
    clear hbb hW1 g1 hb1 z1 hX1 h0' h1 hX hsz hc s0 s1
    go_loopw [8] (fun u wr => ∃ (n : Nat) (x B : List Nat) (r : ByteArray), u = .string r ∧ Hid (tkn c n x B r = T) ∧ Hid (x.length = 8 ∧ Ws x ∧ B.length = 64 ∧ (∀ j, B.getD j 0 < 256) ∧ r.size < n ∧ r.size ≤ c) ∧ Blk wr w.heap.size 65 (wd x) ∧ Blk wr (w.heap.size + 1) 65 Z ∧ Blk wr bb 75 (by8 B) ∧ Below w.heap.size w wr) (fun u _ => strS u)
    case atStart => exact ⟨_, l, _, _, rfl, HV, HO, hA2, hR2, hB2, hX2⟩
    case round =>
      clear hA2 hR2 hB2 hX2 HV HO
      obtain ⟨n, x, B, r, rfl, HV, HO, hA, hR, hB, hnx⟩ := hrel
      obtain ⟨lx, okx, lB, okB, hn, hrc⟩ := HO.out
      have lwx : (wd x).length = 8 := by rw [wd_length, lx]
      have lwB : (by8 B).length = 64 := by rw [by8_length, lB]
      by_cases hr0 : r.size = 0
      · have n0 : r.toList.isEmpty = true := empty_yes hr0
        have f3 := fun W (h : Below w.heap.size w W) => behind_any x B lx okx lB okB c true W (HT.out.grown h)
        have HE : Hid (beh x (fun j => B.getD j 0) c true = T) := by show _ = _; rw [← HV.out, tkn_none c x B hr0]
        rw [HE.out] at f3
        have f4 := f3 wr hnx
        clear f3 hr0 HV HE HO hn hrc
        go_wp2_with (first
          | (refine wpList_load_blk rfl 65 (.tmp 5) rfl w.heap.size 0 rfl hA (wd x) (by simp) _ Tryd.underlying65 rfl (by rw [lwx]; exact infoST) ?_)
          | (refine wpList_load_blk rfl 75 (.tmp 7) rfl bb 0 rfl hB (by8 B) (by simp) _ Tryd.underlying75 rfl (by rw [lwB]; exact infoBL) ?_)
          | (go_at_call 51; (with_reducible refine f4.mono ?_); rintro e w5 ⟨rfl, hb5⟩)
          | (refine wpList_store_blk rfl 65 (.tmp 6) (.tmp 46) rfl (w.heap.size + 1) (wd T) rfl rfl Z (hR.below hb5 hR.lt) (by rw [lT, lZ]) oT (by rw [lZ]; exact infoST) ?_; intro W5 hW5))
        exact bodyPost_ret (results_blk1 Tryd.results41 _ rfl hW5.blk _ Tryd.underlying65 rfl (by rw [lT]; exact infoST)) rfl ⟨rfl, hW5.below _ _ (by omega) (hnx.trans (hb5.mono hnx.size))⟩
      · have n0 : r.toList.isEmpty = false := empty_no hr0
        obtain ⟨m, rfl⟩ : ∃ m, n = m + 1 := ⟨n - 1, by omega⟩
        obtain ⟨c1, hc1⟩ : ∃ c1, c1 = c - r.size := ⟨_, rfl⟩
        have HV2 : Hid (tkn c m (beh x (fun j => B.getD j 0) c1 false) (cutB r) (cutR r) = T) := by show _ = _; rw [← HV.out, tkn_some c x B hr0, hc1]
        have f3 := fun W (h : Below w.heap.size w W) => behind_any x B lx okx lB okB c1 false W (HT.out.grown h)
        have f4 := f3 wr hnx
        have f5 := fun W => cut_any r W
        have u0 := b32.wrap64 r.size (by omega)
        have u1 : IntKind.u64.wrap ((c : Int) - (r.size : Int)) = (c1 : Int) := by rw [show (c : Int) - (r.size : Int) = (c1 : Int) from by omega]; exact b32.wrap64 c1 (by omega)
        have HO2 : Hid ((beh x (fun j => B.getD j 0) c1 false).length = 8 ∧ Ws (beh x (fun j => B.getD j 0) c1 false) ∧ (cutB r).length = 64 ∧ (∀ j, (cutB r).getD j 0 < 256) ∧ (cutR r).size < m ∧ (cutR r).size ≤ c) :=
          ⟨beh_length _ _ _ _, beh_ok okx _ _ _, cutB_length r, cutB_lt r, by rw [cutR_size]; omega, by rw [cutR_size]; omega⟩
        have HS : Hid ((cutR r).size < r.size) := by show _ < _; rw [cutR_size]; omega
        have lN : (wd (beh x (fun j => B.getD j 0) c1 false)).length = 8 := by rw [wd_length, beh_length]
        have oN := wd_one (beh x (fun j => B.getD j 0) c1 false)
        have lQ : (by8 (cutB r)).length = 64 := by rw [by8_length, cutB_length]
        have oQ := by8_one (cutB r)
        clear f3 HV HO hn hrc hc1 hr0
        generalize beh x (fun j => B.getD j 0) c1 false = x' at *
        generalize cutB r = B' at *
        generalize cutR r = r' at *
        go_wp2_with (first
          | (refine wpList_load_blk rfl 65 (.tmp 5) rfl w.heap.size 0 rfl hA (wd x) (by simp) _ Tryd.underlying65 rfl (by rw [lwx]; exact infoST) ?_)
          | (refine wpList_load_blk rfl 75 (.tmp 7) rfl bb 0 rfl hB (by8 B) (by simp) _ Tryd.underlying75 rfl (by rw [lwB]; exact infoBL) ?_)
          | (go_at_call 51; (with_reducible refine f4.mono ?_); rintro e w5 ⟨rfl, hb5⟩)
          | (refine wpList_store_blk rfl 65 (.tmp 5) (.tmp 37) rfl w.heap.size (wd x') rfl rfl (wd x) (hA.below hb5 hA.lt) (by rw [lN, lwx]) oN (by rw [lwx]; exact infoST) ?_; intro W5 hW5)
          | (go_at_call 50; (with_reducible refine (f5 _).mono ?_); rintro e w6 ⟨rfl, hb6⟩; have hB6 : Blk w6 bb 75 (by8 B) := (hW5.other _ _ _ (by omega) (hB.below hb5 hB.lt)).below hb6 (by rw [hW5.size]; exact Nat.lt_of_lt_of_le hB.lt hb5.size))
          | (refine wpList_store_blk rfl 75 (.tmp 7) (.tmp 41) rfl bb (by8 B') rfl rfl (by8 B) hB6 (by rw [lQ, lwB]) oQ (by rw [lwB]; exact infoBL) ?_; intro W7 hW7))
        go_roundw
        case rel =>
          have z5 := hb5.size
          have z6 := hb6.size
          have lA := hA.lt
          have lR' := hR.lt
          have y5 := hW5.size
          have hA6 : Blk w6 w.heap.size 65 (wd x') := hW5.blk.below hb6 (by rw [y5]; omega)
          have hR6 : Blk w6 (w.heap.size + 1) 65 Z := (hW5.other _ _ _ (by omega) (hR.below hb5 hR.lt)).below hb6 (by rw [y5]; omega)
          have hX5 := hW5.below _ _ (Nat.le_refl _) (hnx.trans (hb5.mono hnx.size))
          have hX6 := hX5.trans (hb6.mono hX5.size)
          exact ⟨m, x', B', r', rfl, HV2, HO2, hW7.other _ _ _ (by omega) hA6, hW7.other _ _ _ (by omega) hR6, hW7.blk, hW7.below _ _ (by omega) hX6⟩
        case measure => exact HS.out
  · have k0 : key.toList.isEmpty = false := empty_no hk
    obtain ⟨c, hc⟩ : ∃ c, c = s.size + 64 := ⟨_, rfl⟩
    rw [← hc] at s1
    have HV : Hid (tkn c (s.size + 1) l D s = T) := by show _ = _; rw [hTd.out, hc, hD.out]; unfold tk; rw [beq_eq_false_iff_ne.2 hk]; rfl
    have HO : Hid (l.length = 8 ∧ Ws l ∧ D.length = 64 ∧ (∀ j, D.getD j 0 < 256) ∧ s.size < s.size + 1 ∧ s.size ≤ c) := ⟨hl, ok, by rw [← by8_length]; exact lD, okD.out, by omega, by omega⟩
    have hcl : c < 18446744073709551616 := by omega
    clear hc
    go_enter Tryd.func41, Tryd.ntmps41
    go_wp2_with (first
      | (refine wpList_alloc_blk rfl 65 rfl Z i0 hi0 _ hz0 rfl ?_)
      | (go_at_call 50; (with_reducible refine (f1 _).mono ?_); rintro e w1 ⟨rfl, hb1⟩)
      | (refine wpList_alloc_blk rfl 75 rfl ZB iB hiB _ hB0 rfl ?_; have g1 : Blk (w1.alloc (.cells ZB.toArray 75)) w1.heap.size 75 ZB := Blk.new w1 75 ZB _ rfl)
      | (refine wpList_store_blk rfl 75 (.tmp 7) (.tmp 13) rfl w1.heap.size (by8 C) rfl rfl ZB g1 (by rw [lC, lZB]) (by8_one _) (by rw [lZB]; exact infoBL) ?_; intro W1 hW1)
      | (go_at_call 50; (with_reducible refine (f2 _).mono ?_); rintro e w2 ⟨rfl, hb2⟩; have g2 : Blk w2 w1.heap.size 75 (by8 C) := hW1.blk.below hb2 hW1.blk.lt)
      | (refine wpList_store_blk rfl 75 (.tmp 7) (.tmp 23) rfl w1.heap.size (by8 D) rfl rfl (by8 C) g2 (by rw [lC, lD]) (by8_one _) (by rw [lC]; exact infoBL) ?_; intro W2 hW2))
    have z1 := hb1.size
    rw [hsz] at z1
    have hA1 : Blk W1 w.heap.size 65 (wd l) := hW1.other _ _ _ (by omega) ((h0'.below hb1 h0'.lt).alloc _)
    have hR1 : Blk W1 (w.heap.size + 1) 65 Z := hW1.other _ _ _ (by omega) ((h1.below hb1 h1.lt).alloc _)
    have hX1 := hX.trans (hb1.mono hX.size)
    have hX1' := hW1.below w.heap.size w (by omega) (hX1.alloc (by omega) _)
    have hX1'' := hX1'.trans (hb2.mono hX1'.size)
    have hA2 : Blk W2 w.heap.size 65 (wd l) := hW2.other _ _ _ (by omega) (hA1.below hb2 hA1.lt)
    have hR2 : Blk W2 (w.heap.size + 1) 65 Z := hW2.other _ _ _ (by omega) (hR1.below hb2 hR1.lt)
    have hX2 := hW2.below w.heap.size w (by omega) hX1''
    obtain ⟨bb, hbb⟩ : ∃ bb, bb = w1.heap.size := ⟨_, rfl⟩
    have hB2 := hW2.blk
    rw [← hbb] at hB2
    rw [← hbb]
    have hbn : w.heap.size + 1 < bb := by omega
    clear s0 s1 hbb hW1 hW2 g1 g2 hb1 hb2 z1 hX1 hX1' hX1'' h0' h1 hX hsz hA1 hR1
    go_loopw [8] (fun u wr => ∃ (n : Nat) (x B : List Nat) (r : ByteArray), u = .string r ∧ Hid (tkn c n x B r = T) ∧ Hid (x.length = 8 ∧ Ws x ∧ B.length = 64 ∧ (∀ j, B.getD j 0 < 256) ∧ r.size < n ∧ r.size ≤ c) ∧ Blk wr w.heap.size 65 (wd x) ∧ Blk wr (w.heap.size + 1) 65 Z ∧ Blk wr bb 75 (by8 B) ∧ Below w.heap.size w wr) (fun u _ => strS u)
    case atStart => exact ⟨_, l, _, _, rfl, HV, HO, hA2, hR2, hB2, hX2⟩
    case round =>
      clear hA2 hR2 hB2 hX2 HV HO
      obtain ⟨n, x, B, r, rfl, HV, HO, hA, hR, hB, hnx⟩ := hrel
      obtain ⟨lx, okx, lB, okB, hn, hrc⟩ := HO.out
      have lwx : (wd x).length = 8 := by rw [wd_length, lx]
      have lwB : (by8 B).length = 64 := by rw [by8_length, lB]
      by_cases hr0 : r.size = 0
      · have n0 : r.toList.isEmpty = true := empty_yes hr0
        have f3 := fun W (h : Below w.heap.size w W) => behind_any x B lx okx lB okB c true W (HT.out.grown h)
        have HE : Hid (beh x (fun j => B.getD j 0) c true = T) := by show _ = _; rw [← HV.out, tkn_none c x B hr0]
        rw [HE.out] at f3
        have f4 := f3 wr hnx
        clear f3 hr0 HV HE HO hn hrc
        go_wp2_with (first
          | (refine wpList_load_blk rfl 65 (.tmp 5) rfl w.heap.size 0 rfl hA (wd x) (by simp) _ Tryd.underlying65 rfl (by rw [lwx]; exact infoST) ?_)
          | (refine wpList_load_blk rfl 75 (.tmp 7) rfl bb 0 rfl hB (by8 B) (by simp) _ Tryd.underlying75 rfl (by rw [lwB]; exact infoBL) ?_)
          | (go_at_call 51; (with_reducible refine f4.mono ?_); rintro e w5 ⟨rfl, hb5⟩)
          | (refine wpList_store_blk rfl 65 (.tmp 6) (.tmp 46) rfl (w.heap.size + 1) (wd T) rfl rfl Z (hR.below hb5 hR.lt) (by rw [lT, lZ]) oT (by rw [lZ]; exact infoST) ?_; intro W5 hW5))
        exact bodyPost_ret (results_blk1 Tryd.results41 _ rfl hW5.blk _ Tryd.underlying65 rfl (by rw [lT]; exact infoST)) rfl ⟨rfl, hW5.below _ _ (by omega) (hnx.trans (hb5.mono hnx.size))⟩
      · have n0 : r.toList.isEmpty = false := empty_no hr0
        obtain ⟨m, rfl⟩ : ∃ m, n = m + 1 := ⟨n - 1, by omega⟩
        obtain ⟨c1, hc1⟩ : ∃ c1, c1 = c - r.size := ⟨_, rfl⟩
        have HV2 : Hid (tkn c m (beh x (fun j => B.getD j 0) c1 false) (cutB r) (cutR r) = T) := by show _ = _; rw [← HV.out, tkn_some c x B hr0, hc1]
        have f3 := fun W (h : Below w.heap.size w W) => behind_any x B lx okx lB okB c1 false W (HT.out.grown h)
        have f4 := f3 wr hnx
        have f5 := fun W => cut_any r W
        have u0 := b32.wrap64 r.size (by omega)
        have u1 : IntKind.u64.wrap ((c : Int) - (r.size : Int)) = (c1 : Int) := by rw [show (c : Int) - (r.size : Int) = (c1 : Int) from by omega]; exact b32.wrap64 c1 (by omega)
        have HO2 : Hid ((beh x (fun j => B.getD j 0) c1 false).length = 8 ∧ Ws (beh x (fun j => B.getD j 0) c1 false) ∧ (cutB r).length = 64 ∧ (∀ j, (cutB r).getD j 0 < 256) ∧ (cutR r).size < m ∧ (cutR r).size ≤ c) :=
          ⟨beh_length _ _ _ _, beh_ok okx _ _ _, cutB_length r, cutB_lt r, by rw [cutR_size]; omega, by rw [cutR_size]; omega⟩
        have HS : Hid ((cutR r).size < r.size) := by show _ < _; rw [cutR_size]; omega
        have lN : (wd (beh x (fun j => B.getD j 0) c1 false)).length = 8 := by rw [wd_length, beh_length]
        have oN := wd_one (beh x (fun j => B.getD j 0) c1 false)
        have lQ : (by8 (cutB r)).length = 64 := by rw [by8_length, cutB_length]
        have oQ := by8_one (cutB r)
        clear f3 HV HO hn hrc hc1 hr0
        generalize beh x (fun j => B.getD j 0) c1 false = x' at *
        generalize cutB r = B' at *
        generalize cutR r = r' at *
        go_wp2_with (first
          | (refine wpList_load_blk rfl 65 (.tmp 5) rfl w.heap.size 0 rfl hA (wd x) (by simp) _ Tryd.underlying65 rfl (by rw [lwx]; exact infoST) ?_)
          | (refine wpList_load_blk rfl 75 (.tmp 7) rfl bb 0 rfl hB (by8 B) (by simp) _ Tryd.underlying75 rfl (by rw [lwB]; exact infoBL) ?_)
          | (go_at_call 51; (with_reducible refine f4.mono ?_); rintro e w5 ⟨rfl, hb5⟩)
          | (refine wpList_store_blk rfl 65 (.tmp 5) (.tmp 37) rfl w.heap.size (wd x') rfl rfl (wd x) (hA.below hb5 hA.lt) (by rw [lN, lwx]) oN (by rw [lwx]; exact infoST) ?_; intro W5 hW5)
          | (go_at_call 50; (with_reducible refine (f5 _).mono ?_); rintro e w6 ⟨rfl, hb6⟩; have hB6 : Blk w6 bb 75 (by8 B) := (hW5.other _ _ _ (by omega) (hB.below hb5 hB.lt)).below hb6 (by rw [hW5.size]; exact Nat.lt_of_lt_of_le hB.lt hb5.size))
          | (refine wpList_store_blk rfl 75 (.tmp 7) (.tmp 41) rfl bb (by8 B') rfl rfl (by8 B) hB6 (by rw [lQ, lwB]) oQ (by rw [lwB]; exact infoBL) ?_; intro W7 hW7))
        go_roundw
        case rel =>
          have z5 := hb5.size
          have z6 := hb6.size
          have lA := hA.lt
          have lR' := hR.lt
          have y5 := hW5.size
          have hA6 : Blk w6 w.heap.size 65 (wd x') := hW5.blk.below hb6 (by rw [y5]; omega)
          have hR6 : Blk w6 (w.heap.size + 1) 65 Z := (hW5.other _ _ _ (by omega) (hR.below hb5 hR.lt)).below hb6 (by rw [y5]; omega)
          have hX5 := hW5.below _ _ (Nat.le_refl _) (hnx.trans (hb5.mono hnx.size))
          have hX6 := hX5.trans (hb6.mono hX5.size)
          exact ⟨m, x', B', r', rfl, HV2, HO2, hW7.other _ _ _ (by omega) hA6, hW7.other _ _ _ (by omega) hR6, hW7.blk, hW7.below _ _ (by omega) hX6⟩
        case measure => exact HS.out
end Go.Proofs.YtmbckgfpkmnlnabDoor.bla
