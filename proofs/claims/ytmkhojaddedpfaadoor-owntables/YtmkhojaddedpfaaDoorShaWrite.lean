/-
  THE WALK OF package sha's Write.
-/
import Derived.Test.YtmkhojaddedpfaaDoorShaPut
import Derived.Test.YtmkhojaddedpfaaDoorBundle1
namespace Go.Proofs.YtmkhojaddedpfaaDoor.sha
open Go.RowKit
open Go.Proofs.YtmkhojaddedpfaaDoor.soft
open Go.Proofs.YtmkhojaddedpfaaDoor.cha (ad ad_lt rl Ws xor_lt)
open Go.Proofs.YtmkhojaddedpfaaDoor.ghs (tb tb_lt mkl mkl_length mkl_get)

theorem infoU8s : (Tryd.prog.info? 5).map (·.size) = some 1 := by kernel_rfl
theorem sl_r (b k : Nat) (hk : k < 64) (w : World) : (Instr.sliceAt 86 (.pointer (some ⟨b, 8, none⟩)) (some (.int .u64 (k : Nat))) none none).run Tryd.prog w = .ok (.slice (some ⟨b, 8 + k, none⟩) (64 - k) (64 - k)) w := by
  obtain ⟨j0, hj, _, hj1, _⟩ := info_parts infoU8
  have h1 : k ≤ 64 := by omega
  have h2 : ¬ 64 = k := by omega
  simp [Instr.sliceAt, Instr.sureAddr, run_underlying Tryd.underlying86, Instr.sliceBounds, Instr.sliceBound, asIntOf, sizeOf, typeInfo, hj, hj1, Addr.add_mid, h1, h2]
/-- How many bytes a text has, for a loop's measure. -/
def strS : Value → Nat | .string s => s.size | _ => 0

set_option maxRecDepth 100000 in
set_option maxHeartbeats 3200000 in
theorem write_any (b : Nat) (s t : ByteArray) (hlen : s.size + t.size < 1152921504606846976) (w : World) (hT : Tab w) (hG : 1 ≠ b) (hB : Blk w b 88 (hc s)) :
    Calls Tryd.prog 31 #[.pointer (some ⟨b, 0, none⟩), .string t] w fun e w' => e = .returned (.tuple #[]) ∧ Blk w' b 88 (hc (s ++ t)) ∧ w.grownBy w' (some b) := by
  have HT : Hid (Tab w) := hT
  clear hT
  go_enter Tryd.func31, Tryd.ntmps31
  go_wp2_with fail
  go_loopw [1] (fun u wr => ∃ x y : ByteArray, u = .string y ∧ Hid (x ++ y = s ++ t) ∧ Blk wr b 88 (hc x) ∧ w.grownBy wr (some b)) (fun u _ => strS u)
  case atStart => exact ⟨s, t, rfl, rfl, hB, but_refl _ _⟩
  case round =>
    clear hB
    obtain ⟨x, y, rfl, hxy, hB, hgr⟩ := hrel
    have hsum : x.size + y.size < 1152921504606846976 := by
      have := congrArg ByteArray.size hxy.out
      rw [ByteArray.size_append, ByteArray.size_append] at this
      omega
    by_cases hy0 : y.size = 0
    · have d0 : decide (0 < y.size) = false := decide_eq_false (by omega)
      have hE : x = s ++ t := by rw [← text_none hy0 x]; exact hxy.out
      subst hE
      go_wp2_with fail
      exact ⟨rfl, .tuple #[], results_none Tryd.results31 _ _, rfl, hB, hgr⟩
    · have d0 : decide (0 < y.size) = true := decide_eq_true (by omega)
      obtain ⟨k, hk⟩ : ∃ k, k = x.size % 64 := ⟨_, rfl⟩
      obtain ⟨n, hn⟩ : ∃ n, n = min (64 - x.size % 64) y.size := ⟨_, rfl⟩
      have k64 : k < 64 := by omega
      have n0 : 0 < n := by omega
      have n64 : n ≤ 64 := by omega
      have ny : n ≤ y.size := by omega
      have hcp := rest_copied x y n hn
      rw [← hk] at hcp
      have hCl : (by8 ((nb y).take n)).length = n := by rw [by8_length, List.length_take, nb_length]; omega
      have hnl : ((nb y).take n).length = n := by rw [List.length_take, nb_length]; omega
      have hC : by8 ((nb y).take n) = (by8 (nb y)).take (64 - k) := by
        rw [← by8_take]
        congr 1
        apply List.ext_getElem?
        intro i
        rw [List.getElem?_take, List.getElem?_take]
        by_cases c : i < y.size
        · by_cases c2 : i < 64 - k
          · rw [if_pos c2, if_pos (by omega)]
          · rw [if_neg c2, if_neg (by omega)]
        · rw [List.getElem?_eq_none (by rw [nb_length]; omega)]
          split <;> split <;> rfl
      have hE : (y.extract 0 n).size = n := by rw [ByteArray.size_extract]; omega
      have hz : (x ++ y.extract 0 n).size = x.size + n := by rw [ByteArray.size_append, hE]
      have hst := state_same x (y.extract 0 n)
      have hpart : (x ++ y.extract 0 n) ++ y.extract n y.size = s ++ t := by rw [text_assoc, text_parts]; exact hxy.out
      obtain ⟨z, hzd⟩ : ∃ z, z = x.size := ⟨_, rfl⟩
      obtain ⟨z', hzd'⟩ : ∃ z', z' = x.size + n := ⟨_, rfl⟩
      have e1 : (z : Int) % 64 = (k : Int) := by omega
      have e2 : Int.tmod (z : Int) 64 = (k : Int) := by rw [Int.tmod_eq_emod_of_nonneg (by omega)]; omega
      have e3 := wrap64 n (by omega)
      have e4 : IntKind.u64.wrap ((z : Int) + (n : Int)) = (z' : Int) := by rw [show (z : Int) + (n : Int) = (z' : Int) from by omega]; exact wrap64 z' (by omega)
      obtain ⟨r, hr⟩ : ∃ r, r = z' % 64 := ⟨_, rfl⟩
      have e5 : (z' : Int) % 64 = (r : Int) := by omega
      have e6 : Int.tmod (z' : Int) 64 = (r : Int) := by rw [Int.tmod_eq_emod_of_nonneg (by omega)]; omega
      have hsl := cv.sl_from y n ny
      have hsr := sl_r b k k64
      have lS := stA_length (tb x) (x.size / 64)
      have lR := restL_length x
      have hB1 : Blk wr b 88 (tri (stA (tb x) (x.size / 64)) (restL x) z) := by rw [hzd]; exact hB
      have c72 := hB1.cell 72 _ (tri_get72 z lS lR)
      have hcopy := tri_copy (y := (nb y).take n) k z lS lR (by rw [hnl]; omega)
      rw [hnl, hcp] at hcopy
      have hfit : 8 + k + (by8 ((nb y).take n)).length ≤ (tri (stA (tb x) (x.size / 64)) (restL x) z).length := by rw [tri_length z lS lR, hCl]; omega
      have HZ : Hid (z = x.size ∧ z' = x.size + n ∧ k = x.size % 64 ∧ n = min (64 - x.size % 64) y.size ∧ r = z' % 64) := ⟨hzd, hzd', hk, hn, hr⟩
      clear hzd hzd' hk hn hr
      go_wp2_with fail
      obtain ⟨f, hfd⟩ : ∃ f : Nat → Nat, f = fun j => tb (x ++ y.extract 0 n) (64 * (x.size / 64) + j) := ⟨_, rfl⟩
      have hf : ∀ j, f j < 256 := fun j => by rw [hfd]; exact tb_lt _ _
      rw [← hfd] at hcopy
      have Hfd : Hid (f = fun j => tb (x ++ y.extract 0 n) (64 * (x.size / 64) + j)) := hfd
      have oS := stA_ok (tb x) (x.size / 64)
      have HX : Hid (stA (tb x) (x.size / 64) = stA (tb (x ++ y.extract 0 n)) (x.size / 64)) := hst.symm
      have HC : Hid (by8 ((nb y).take n) = (by8 (nb y)).take (64 - k)) := hC
      clear hfd hC hst hcp hnl
      generalize hCd : by8 ((nb y).take n) = C at *
      generalize stA (tb x) (x.size / 64) = S at *
      generalize tri S (restL x) z = L at *
      have HCP : Hid (L.take (8 + k) ++ C ++ L.drop (8 + k + C.length) = tri S (mkl 64 f) z) := hcopy
      clear hcopy hCd
      go_region_law ((refine step_copy_text (by rfl) (.tmp 16) (.tmp 17) 63 9 (by rfl) 5 Tryd.underlying63 infoU8s b (8 + k) (64 - k) (64 - k) y (by kernel_rfl) (by kernel_rfl) (t := 88) (l := L) (by exact hB1) C HC.out hfit ?_; intro W7 hA7))
      have hB7 : Blk W7 b 88 (tri S (mkl 64 f) z) := by rw [← HCP.out]; exact hA7.blk
      have hG7 : w.grownBy W7 (some b) := hA7.but (a := w) ⟨hgr.os, hgr.tape, hgr.output, hgr.size, hgr.block⟩
      have lM : (mkl 64 f).length = 64 := mkl_length _ _
      have d72 := hB7.cell 72 _ (tri_get72 z lS lM)
      have o72 := hB7.frozen 72
      have hB8 := hB7.set 72 (.int .u64 (z' : Int))
      rw [tri_set72 z z' lS lM] at hB8
      have hG8 := but_set hG7 72 (.int .u64 (z' : Int))
      have d72' := hB8.cell 72 _ (tri_get72 z' lS lM)
      clear c72 hB1 hA7 hfit
      by_cases hr0 : r = 0
      · have hr0' : (r : Int) = 0 := by omega
        have t0 : ((r : Int) == 0) = true := by rw [beq_iff_eq]; omega
        go_wp2_with fail
        have HT8 := HT.out.but hG8 hG
        have hlt8 := hB8.lt
        generalize W7.setCell ⟨b, 72, none⟩ (.int .u64 (z' : Int)) = W8 at *
        have lwS : (wd S).length = 8 := by rw [wd_length, lS]
        have lwM : (by8 (mkl 64 f)).length = 64 := by rw [by8_length, lM]
        have lP : (comp S f).length = 8 := comp_length S f
        have F1 : Hid (∀ v : Up W8, Calls Tryd.prog 36 #[.agg (wd S).toArray, .agg (by8 (mkl 64 f)).toArray] v.1 fun e w' => e = .returned (.agg (wd (comp S f)).toArray) ∧ Below v.1.heap.size v.1 w') := fun v => taken_any S lS oS f hf v.1 (HT8.grown v.2)
        have R1 : ∀ v : Up W8, v.1.rangeAt b 0 (wd S) := fun v => (hB8.below v.2 hlt8).range 0 _ (tri_S S _ z')
        have R2 : ∀ v : Up W8, v.1.rangeAt b 8 (by8 (mkl 64 f)) := fun v => (hB8.below v.2 hlt8).range 8 _ (tri_R z' lS)
        have HPL : Hid (tri (comp S f) (List.replicate 64 0) z' = hc (x ++ y.extract 0 n)) := by
          obtain ⟨hz1, hz2, hz3, hz4, hz5⟩ := HZ.out
          obtain ⟨o1, o2, o3⟩ := one_more x y n (by omega) hz4 (by omega)
          show _ = hc _
          unfold hc
          rw [o1, o3, hz, ← hz2]
          congr 1
          rw [stA, ← HX.out, ← Hfd.out]
        have hne := Up.some W8
        generalize comp S f = P at *
        generalize mkl 64 f = M at *
        refine wp_region_tail 12 (by kernel_rfl) (by kernel_rfl) ?_
        simp only [List.take_succ_cons, List.take_zero, List.drop_succ_cons, List.drop_zero]
        repeat (first
          | (refine wpQuiet_load rfl 84 (.tmp 40) rfl b 0 rfl (wd S) _ R1 Tryd.underlying84 rfl (by rw [lwS]; exact infoST) ?_; simp only [Act.put, List.setIfInBounds_toArray, List.set_cons_succ, List.set_cons_zero])
          | (refine wpQuiet_load rfl 86 (.tmp 44) rfl b 8 rfl (by8 M) _ R2 Tryd.underlying86 rfl (by rw [lwM]; exact infoBL) ?_; simp only [Act.put, List.setIfInBounds_toArray, List.set_cons_succ, List.set_cons_zero])
          | go_big_quiet_step (with_reducible exact calls_up (F1.out _)))
        refine wpQuiet_nil ?_
        rintro w1 ⟨y1, rfl⟩
        have hB9 := hB8.below y1.2 hlt8
        have hG9 := but_below hG8 y1.2
        have lwP : (wd P).length = 8 := by rw [wd_length, lP]
        refine wpList_store_part rfl 84 (.tmp 48) (.tmp 46) rfl b 0 (wd P) rfl rfl (tri S M z') hB9 (by rw [tri_length z' lS lM, lwP]; decide) (wd_one _) (by rw [lwP]; exact infoST) ?_
        intro W9 hA9
        have hB10 := hA9.blk
        rw [tri_putS P z' lS lP] at hB10
        have hG10 := hA9.but hG9
        clear F1 R1 R2 hB8 hB9 hG9 hG8 hA9
        have hfit2 : 8 + (by8 (List.replicate 64 0)).length ≤ (tri P M z').length := by rw [tri_length z' lP lM]; decide
        have HP2 : Hid _ := tri_putR (S := P) (R := M) (List.replicate 64 0) z' lP lM (by decide)
        go_wp2_with (refine wpList_store_part rfl 86 (.tmp 52) (.tmp 50) rfl b 8 (by8 (List.replicate 64 0)) rfl rfl (tri P M z') hB10 hfit2 (by8_one _) infoBL ?_; intro W11 hA11)
        have hB11 := hA11.blk
        rw [HP2.out, HPL.out] at hB11
        have hG11 := hA11.but hG10
        simp only [Act.put]
        go_roundw
        case rel => exact ⟨x ++ y.extract 0 n, y.extract n y.size, rfl, hpart, hB11, hG11⟩
        case measure => simp [strS, ByteArray.size_extract]; omega
      · have t0 : ((r : Int) == 0) = false := by rw [beq_eq_false_iff_ne]; omega
        have t1 : ¬ (r : Int) = 0 := by omega
        have HE : Hid (tri S (mkl 64 f) z' = hc (x ++ y.extract 0 n)) := by
          obtain ⟨hz1, hz2, hz3, hz4, hz5⟩ := HZ.out
          obtain ⟨o1, o2⟩ := not_yet x y n hz4 (by omega)
          show _ = hc _
          unfold hc
          rw [o1, o2, hz, ← hz2, ← HX.out, ← Hfd.out]
        go_wp2_with fail
        go_roundw
        case rel => exact ⟨x ++ y.extract 0 n, y.extract n y.size, rfl, hpart, by rw [← HE.out]; exact hB8, hG8⟩
        case measure => simp [strS, ByteArray.size_extract]; omega
end Go.Proofs.YtmkhojaddedpfaaDoor.sha
