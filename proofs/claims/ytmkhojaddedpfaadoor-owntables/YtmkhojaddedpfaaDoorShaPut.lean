/-
  THE WALKS OF package sha's put, behind, text and begun.
-/
import Derived.Test.YtmkhojaddedpfaaDoorShaTaken
import Derived.Laws.AppendOwn
namespace Go.Proofs.YtmkhojaddedpfaaDoor.sha
open Go.RowKit
open Go.Proofs.YtmkhojaddedpfaaDoor.soft
open Go.Proofs.YtmkhojaddedpfaaDoor.cha (ad ad_lt rl Ws xor_lt)
open Go.Proofs.YtmkhojaddedpfaaDoor.ghs (mkl mkl_length mkl_get)

set_option maxRecDepth 100000 in
set_option maxHeartbeats 1600000 in
theorem put_any (B : Nat) (v : Value) (m : Nat) (xs : List Nat) (x n : Nat) (hn : n ≤ 8) (hm : m ≤ 1000) (w : World) (hB : B ≤ w.heap.size) (hown : w.ownsRow B 5 1 v m (by8 xs)) :
    Calls Tryd.prog 44 #[v, .int .u64 x, .int .i64 n] w fun e w' => ∃ v', e = .returned v' ∧ w'.ownsRow B 5 1 v' (m + n) (by8 (xs ++ hb x n)) ∧ Below B w w' := by
  obtain ⟨i0, hi, hz0, hz1, hz2⟩ := info_parts infoU8
  go_enter Tryd.func44, Tryd.ntmps44
  go_wp2_with fail
  go_loopw [7, 0] (fun i u wr => ∃ (j : Nat) (z : Int) (pre : List Nat), j ≤ n ∧ i = .int .i64 z ∧ Hid (z = (j : Int) - 1) ∧ Hid (pre ++ hb x j = hb x n) ∧ wr.ownsRow B 5 1 u (m + (n - j)) (by8 (xs ++ pre)) ∧ Below B w wr) (fun i _ _ => (intOf i + 1).toNat)
  case atStart => exact ⟨n, _, [], Nat.le_refl _, rfl, rfl, rfl, by rw [Nat.sub_self, Nat.add_zero, List.append_nil]; exact hown, Below.refl _ _⟩
  case round =>
    clear hown
    obtain ⟨j, z, pre, hj, rfl, hz, hp, hown, hnx⟩ := hrel
    match j, hj, hz, hp, hown with
    | 0, hj, hz, hp, hown =>
      have hz' := hz.out
      obtain rfl : z = -1 := by omega
      clear hz hz'
      have hp' := hp.out
      rw [hb, List.append_nil] at hp'
      subst hp'
      go_wp2_with fail
      go_ret
      exact ⟨_, rfl, by rw [Nat.sub_zero] at hown; exact hown, hnx⟩
    | k + 1, hj, hz, hp, hown =>
      have hz' := hz.out
      obtain rfl : z = (k : Int) := by omega
      clear hz hz'
      have d0 : decide ((k : Int) ≥ 0) = true := by simp
      have q0 : IntKind.i64.wrap (8 * (k : Int)) = 8 * (k : Int) := IntWalk.i64_in _ ⟨by omega, by omega⟩
      obtain ⟨y, hy⟩ : ∃ y, y = x / 256 ^ k % 256 := ⟨_, rfl⟩
      have v1 : IntKind.u8.wrap ((x : Int) / 2 ^ (8 * k)) = (y : Int) := by
        have e : (2 : Int) ^ (8 * k) = ((256 ^ k : Nat) : Int) := by
          have h : (256 ^ k : Nat) = 2 ^ (8 * k) := (Nat.pow_mul 2 8 k).symm
          rw [h]
          simp
        rw [cv.wrap_8, hy, e]
        simp
      have HP : Hid ((pre ++ [y]) ++ hb x k = hb x n) := by show _ = _; rw [← hp.out, hb, hy]; simp
      clear hp hy
      have k0 : (0 : Int) ≤ (k : Int) := by omega
      have hsz := hnx.size
      go_wp2_with (at_builtin; refine wpList_append_own _ rfl _ _ 63 rfl B 5 i0 (.int .u8 0) 1 1 Tryd.underlying63 hi hz0 hz1 hz2 rfl (by decide) _ _ _ rfl (hown.alloc _) ⟨wr.heap.size, 0, none⟩ 1 1 [.int .u8 (y : Int)] rfl rfl (World.news_of_block (cs := #[.int .u8 (y : Int)]) (t := 5) (fr := (0, 0)) (heap_alloc_new wr _)) (by simp [Value.oneCell']) (by unfold maxLen; omega) (by omega) (by simp; omega) ?_; intro u2 w2 hown2 hgr2 hnn2)
      go_roundw
      case rel => exact ⟨k, _, pre ++ [y], by omega, rfl, by show _ = _; omega, HP, by
        rw [show m + (n - k) = m + (n - (k + 1)) + 1 from by omega, ← List.append_assoc, by8_append]; exact hown2, (hnx.alloc (by omega) _).grown hgr2 (by simp; omega) (fun q hq => (hown.lt q hq).1)⟩
      case measure => simp [intOf]

/-- How many a slice has, for a loop's measure. -/
def lenS : Value → Nat | .slice _ n _ => n | _ => 0
theorem wrap64 (n : Nat) (h : n < 18446744073709551616) : IntKind.u64.wrap (n : Int) = (n : Int) := by
  simp [IntKind.wrap, IntKind.bits, IntKind.signed]; omega
set_option maxRecDepth 100000 in
set_option maxHeartbeats 1600000 in
theorem behind_any (n : Nat) (hn : n < 1152921504606846976) (w : World) :
    Calls Tryd.prog 37 #[.int .u64 n] w fun e w' => e = .returned (.string (padT n)) ∧ Below w.heap.size w w' := by
  obtain ⟨i0, hi, hz0, hz1, hz2⟩ := info_parts infoU8
  have hO : (w.alloc (.cells #[.int .u8 128] 5)).ownsRow w.heap.size 5 1 (.slice (some ⟨w.heap.size, 0, none⟩) (1 + 0) (1 + 0)) (1 + 0) (by8 ([128] ++ List.replicate 0 0)) := World.ownsRow_lit (e := 5) w #[.int .u8 128] 1 (Nat.le_refl _) (by decide) rfl
  have hX : Below w.heap.size w (w.alloc (.cells #[.int .u8 128] 5)) := (Below.refl _ _).alloc (Nat.le_refl _) _
  go_enter Tryd.func37, Tryd.ntmps37
  go_wp2_with fail
  go_loopw [3] (fun u wr => ∃ (k g c : Nat), k ≤ nz n ∧ u = .slice (some ⟨g, 0, none⟩) (1 + k) c ∧ wr.ownsRow w.heap.size 5 1 u (1 + k) (by8 ([128] ++ List.replicate k 0)) ∧ Below w.heap.size w wr) (fun u _ => 65 - lenS u)
  case atStart => exact ⟨0, _, _, Nat.zero_le _, rfl, hO, hX⟩
  case round =>
    clear hO hX
    obtain ⟨k, g, c, hk, rfl, hown, hnx⟩ := hrel
    have hnz := nz_lt n
    obtain ⟨m, hm⟩ : ∃ m, m = 1 + k := ⟨_, rfl⟩
    rw [← hm] at hown
    rw [← hm]
    obtain ⟨p, hp⟩ : ∃ p, p = n + m := ⟨_, rfl⟩
    obtain ⟨q, hq⟩ : ∃ q, q = p + 8 := ⟨_, rfl⟩
    obtain ⟨r, hr⟩ : ∃ r, r = q % 64 := ⟨_, rfl⟩
    have e1 : IntKind.u64.wrap (m : Int) = (m : Int) := wrap64 m (by omega)
    have e2 : IntKind.u64.wrap ((n : Int) + (m : Int)) = (p : Int) := by rw [show (n : Int) + (m : Int) = (p : Int) from by omega]; exact wrap64 p (by omega)
    have e3 : IntKind.u64.wrap ((p : Int) + 8) = (q : Int) := by rw [show (p : Int) + 8 = (q : Int) from by omega]; exact wrap64 q (by omega)
    have e4 : (q : Int) % 64 = (r : Int) := by omega
    have e5 : Int.tmod (q : Int) 64 = (r : Int) := by rw [Int.tmod_eq_emod_of_nonneg (by omega)]; omega
    have hsz := hnx.size
    by_cases hlt : k < nz n
    · have hne := nz_not n k hlt
      have t0 : ((r : Int) != 0) = true := by rw [bne_iff_ne]; omega
      have t1 : ¬ (r : Int) = 0 := by omega
      have HM : Hid (m = 1 + k) := hm
      have m64 : m ≤ 64 := by omega
      clear hm hp hq hr hne
      go_wp2_with (at_builtin; refine wpList_append_own _ rfl _ _ 63 rfl w.heap.size 5 i0 (.int .u8 0) 1 1 Tryd.underlying63 hi hz0 hz1 hz2 rfl (by decide) _ _ _ rfl (hown.alloc _) ⟨wr.heap.size, 0, none⟩ 1 1 [.int .u8 0] rfl rfl (World.news_of_block (cs := #[.int .u8 0]) (t := 5) (fr := (0, 0)) (heap_alloc_new wr _)) (by simp [Value.oneCell']) (by unfold maxLen; omega) (by omega) (by simp; omega) ?_; intro u2 w2 hown2 hgr2 hnn2; obtain ⟨g2, cap2, rfl, hge2, hlt2⟩ := hown2.form (by omega))
      go_roundw
      case rel => exact ⟨k + 1, g2, cap2, by omega, by rw [HM.out]; rfl, by
        have e : by8 ([128] ++ List.replicate (k + 1) 0) = by8 ([128] ++ List.replicate k 0) ++ [.int .u8 0] := by rw [List.replicate_succ', ← List.append_assoc, by8_append]; rfl
        rw [e, show 1 + (k + 1) = m + 1 from by rw [HM.out]; omega]; exact hown2, (hnx.alloc hsz _).grown hgr2 (by simp; omega) (fun j hj => (hown.lt j hj).1)⟩
      case measure => simp [lenS]; omega
    · obtain rfl : k = nz n := by omega
      have he := nz_end n
      have t0 : ((r : Int) != 0) = false := by rw [bne_eq_false_iff_eq]; omega
      have t1 : (r : Int) = 0 := by omega
      obtain ⟨N8, h8⟩ : ∃ x, x = 8 * n := ⟨_, rfl⟩
      have e6 : IntKind.u64.wrap (8 * (n : Int)) = (N8 : Int) := by rw [show 8 * (n : Int) = (N8 : Int) from by omega]; exact wrap64 N8 (by omega)
      have f1 := put_any w.heap.size (.slice (some ⟨g, 0, none⟩) m c) m _ N8 8 (by omega) (by omega) wr hsz hown
      rw [show ((8 : Nat) : Int) = 8 from rfl] at f1
      have hok : ∀ y ∈ ([128] ++ List.replicate (nz n) 0) ++ hb N8 8, y < 256 := by rw [h8]; exact pd_ok n
      obtain ⟨T, HT⟩ : ∃ T, Hid (T = padT n) := ⟨_, rfl⟩
      have hT : tx (([128] ++ List.replicate (nz n) 0) ++ hb N8 8) = T := by rw [HT.out, h8]; rfl
      generalize ([128] ++ List.replicate (nz n) 0) ++ hb N8 8 = L at *
      clear hm hp hq hr he h8
      go_wp2_with (go_at_call 44; (with_reducible refine f1.mono ?_); rintro e w3 ⟨v3, rfl, ho3, hb3⟩; obtain ⟨g3, cap3, rfl, hge3, hlt3⟩ := ho3.form (by omega); have hcv := cv.conv_row (Row.own ho3) hok; rw [hT] at hcv)
      go_ret
      exact ⟨by rw [HT.out]; rfl, hnx.trans hb3⟩

set_option maxRecDepth 100000 in
set_option maxHeartbeats 1600000 in
theorem text_any (l : List Nat) (hl : l.length = 8) (ok : Ws l) (w : World) :
    Calls Tryd.prog 38 #[.agg (wd l).toArray] w fun e w' => e = .returned (.string (out l)) ∧ Below w.heap.size w w' := by
  obtain ⟨iu, hiu, hiu1⟩ := infoU32'
  have ll : (wd l).length = 8 := by rw [wd_length, hl]
  have h0 : Blk (w.alloc (.cells (wd l).toArray 84)) w.heap.size 84 (wd l) := Blk.new w 84 (wd l) _ rfl
  have hX : Below w.heap.size w (w.alloc (.cells (wd l).toArray 84)) := (Below.refl _ _).alloc (Nat.le_refl _) _
  have HI : Hid (∀ (k : Nat), k < 8 → ∀ W, (Instr.index 84 (.agg (wd l).toArray) (.int .i64 (k : Int))).run Tryd.prog W = .ok (.int .u32 ((l.getD k 0 : Nat) : Int)) W) := fun k hk W => run_index_wd Tryd.underlying84 Tryd.underlying27 hiu hiu1 l k hk (by omega) W
  go_enter Tryd.func38, Tryd.ntmps38
  go_wp2_with (refine wpList_load_blk rfl 84 (.tmp 1) rfl w.heap.size 0 rfl h0 (wd l) (by simp) _ Tryd.underlying84 rfl (by rw [ll]; exact infoST) ?_)
  go_loopw [3, 7] (fun u i wr => ∃ k : Nat, k ≤ 8 ∧ i = .int .i64 k ∧ wr.ownsRow w.heap.size 5 1 u (4 * k) (by8 (t4 (l.take k))) ∧ Below w.heap.size w wr) (fun _ i _ => 8 - (intOf i).toNat)
  case atStart => exact ⟨0, by omega, rfl, World.ownsRow_nil _ _ _ _, hX⟩
  case round =>
    clear h0 hX
    obtain ⟨k, hk, rfl, hown, hnx⟩ := hrel
    by_cases hlt : k < 8
    · have d0 : decide ((k : Int) < 8) = true := by simp; omega
      have hi1 := HI.out k hlt
      have hU : by8 (t4 (l.take k) ++ hb (l.getD k 0) 4) = by8 (t4 (l.take (k + 1))) := by
        rw [List.take_succ_eq_append_getElem (by omega), t4_append, t4_one, List.getD_eq_getElem?_getD, List.getElem?_eq_getElem (by omega)]
        rfl
      have hsz := hnx.size
      have f1 := put_any w.heap.size u3 (4 * k) (t4 (l.take k)) (l.getD k 0) 4 (by omega) (by omega) wr hsz hown
      rw [hU, show 4 * k + 4 = 4 * (k + 1) from by omega, show ((4 : Nat) : Int) = 4 from rfl] at f1
      have lx := ok.get k
      have e1 := wrap64 (l.getD k 0) (by omega)
      generalize l.getD k 0 = x at *
      have q0 : (0 : Int) ≤ (k : Int) := by omega
      have r0 : (k : Int) < 8 := by omega
      go_wp2_with (go_at_call 44; (with_reducible refine f1.mono ?_); rintro e w3 ⟨v3, rfl, ho3, hb3⟩)
      go_roundw
      case rel => exact ⟨k + 1, by omega, by go_num, ho3, hnx.trans hb3⟩
      case measure => simp [intOf]; omega
    · obtain rfl : k = 8 := by omega
      have d0 : decide (((8 : Nat) : Int) < 8) = false := by decide
      rw [List.take_of_length_le (by omega)] at hown
      obtain ⟨g3, cap3, rfl, hge3, hlt3⟩ := hown.form (by omega)
      have hcv := cv.conv_row (Row.own hown) (t4_ok l)
      obtain ⟨T, HT⟩ : ∃ T, Hid (T = out l) := ⟨_, rfl⟩
      rw [show tx (t4 l) = T from HT.out.symm] at hcv
      go_wp2_with fail
      go_ret
      exact ⟨by rw [HT.out]; rfl, hnx⟩
set_option maxHeartbeats 400000 in
theorem begun_any (w : World) : Calls Tryd.prog 35 #[] w fun e w' => e = .returned (.agg (wd h0).toArray) ∧ Below w.heap.size w w' := by
  have hZ : Blk (w.alloc (.cells (wd z8).toArray 84)) w.heap.size 84 (wd z8) := Blk.new w 84 (wd z8) _ rfl
  have hX : Below w.heap.size w (w.alloc (.cells (wd z8).toArray 84)) := (Below.refl _ _).alloc (Nat.le_refl _) _
  go_enter Tryd.func35, Tryd.ntmps35
  go_wp2_with (refine wpList_store_blk rfl 84 (.tmp 0) (.tmp 1) rfl w.heap.size (wd h0) rfl rfl (wd z8) hZ rfl (wd_one _) infoST ?_; intro W hW)
  exact bodyPost_ret (results_blk1 Tryd.results35 _ rfl hW.blk _ Tryd.underlying84 rfl infoST) rfl ⟨rfl, hW.below _ _ (Nat.le_refl _) hX⟩
end Go.Proofs.YtmkhojaddedpfaaDoor.sha
