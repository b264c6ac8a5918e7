/-
  THE WALK OF package elem's numbers: plus.
-/
import Derived.Test.YtdpokjhoedhadaaDoorLimbLowered
namespace Go.Proofs.YtdpokjhoedhadaaDoor.limb
open Go.RowKit
open Go.Proofs.YtdpokjhoedhadaaDoor.num (P N nB nB_bd mem_getD)

set_option maxRecDepth 100000 in
set_option maxHeartbeats 800000 in
theorem plus_list (l m : List Int) (hl : l.length = 8) (hm : m.length = 8) (bl : ok l) (bm : ok m) (hv : val l + val m < 115792089237316195423570985008687907853269984665640564039457584007913129639936) (w : World) :
    Calls Tryd.prog 71 #[.agg (ints l), .agg (ints m)] w fun e w' => e = .returned (.agg (ints (dg 8 ((val l + val m) % P)))) ∧ Below w.heap.size w w' := by
  have hL : Arr (((w.alloc (.cells (ints l) 59)).alloc (.cells (ints m) 59)).alloc (.cells (ints zeros) 59)) w.heap.size 59 l := ((Arr.new w 59 l).alloc _).alloc _
  have hM : Arr (((w.alloc (.cells (ints l) 59)).alloc (.cells (ints m) 59)).alloc (.cells (ints zeros) 59)) (w.heap.size + 1) 59 m := by
    have h := Arr.new (w.alloc (.cells (ints l) 59)) 59 m
    rw [World.size_alloc] at h
    exact h.alloc _
  have hZ : Arr (((w.alloc (.cells (ints l) 59)).alloc (.cells (ints m) 59)).alloc (.cells (ints zeros) 59)) (w.heap.size + 1 + 1) 59 zeros := by
    have h := Arr.new ((w.alloc (.cells (ints l) 59)).alloc (.cells (ints m) 59)) 59 zeros
    rw [World.size_alloc, World.size_alloc] at h
    exact h
  have hX : Below w.heap.size w (((w.alloc (.cells (ints l) 59)).alloc (.cells (ints m) 59)).alloc (.cells (ints zeros) 59)) := (((Below.refl _ _).alloc (Nat.le_refl _) _).alloc (by simp) _).alloc (by simp; omega) _
  have hS : (plusL l m 1).length = 8 := by rw [plusL_length _ _ _ (by omega), hl]
  have hV : val (plusL l m 1) = val l + val m := by rw [val_plus _ _ _ (by omega), Int.one_mul]
  have hB : ∀ k, 0 ≤ cout ((plusL l m 1).take k) 0 ∧ cout ((plusL l m 1).take k) 0 ≤ 2 := fun k => cout_bd _ _ 0 2 (fun a ha => plusL_bd l m 1 0 2 (by omega) (fun k _ => by have := ok_get bl k; have := ok_get bm k; omega) a (List.mem_of_mem_take ha)) (by omega) (by omega)
  have vl := val8 l hl bl
  have vm := val8 m hm bm
  go_enter Tryd.func71, Tryd.ntmps71
  go_wp2_with (refine wpList_load_arr rfl 59 (.tmp 3) rfl (w.heap.size + 1) rfl m _ hM Tryd.underlying59 rfl (by rw [hm]; exact infoNR) ?_)
  go_loopw [9, 5] (fun i c wr => ∃ k : Nat, k ≤ 8 ∧ i = .int .i64 k ∧ c = .int .u64 (cout ((plusL l m 1).take k) 0) ∧ Arr wr w.heap.size 59 (carry ((plusL l m 1).take k) 0 ++ l.drop k) ∧ Arr wr (w.heap.size + 1 + 1) 59 zeros ∧ Below w.heap.size w wr) (fun i _ _ => 8 - (intOf i).toNat)
  case atStart => exact ⟨0, by omega, rfl, by simp [cout], hL, hZ, hX⟩
  case round =>
    clear hL hM hZ hX
    obtain ⟨k, hk, rfl, rfl, hA, hZ, hnx⟩ := hrel
    by_cases hlt : k < 8
    · have hix := idx m hm k hlt
      have HST := carry_step (plusL l m 1) l 0 k (by omega) (by omega)
      have hp := part_get (plusL l m 1) l 0 k (by omega) (by omega)
      have hc := hA.cell k (by rw [hp.2]; omega)
      have hf := hA.frozen k
      rw [hp.1] at hc
      have ba := ok_get bl k
      have bb := ok_get bm k
      have bc := hB k
      rw [plusL_get l m 1 k (by omega) (by omega), Int.one_mul, Int.add_comm (_ + _) (cout _ _)] at HST
      clear hp hB
      generalize l.getD k 0 = a at *
      generalize m.getD k 0 = b at *
      generalize cout ((plusL l m 1).take k) 0 = c at *
      have HS : Hid _ := HST
      clear HST
      obtain ⟨a0, a1⟩ := ba
      obtain ⟨b0, b1⟩ := bb
      obtain ⟨c0, c1⟩ := bc
      have kz : (k : Int) < 8 := by omega
      have k0 : (0 : Int) ≤ (k : Int) := by omega
      have HL : Hid (l.length = 8 ∧ m.length = 8) := ⟨hl, hm⟩
      clear hl hm bl bm hS hV vl vm hv
      go_wp2
      go_roundw
      case rel => exact ⟨k + 1, by omega, by go_num, by rw [HS.out.2], by rw [← HS.out.1]; exact hA.set k _, hZ.other (by simp; omega) _, hnx.setCell (by simp) _⟩
      case measure => simp [intOf]; omega
    · obtain rfl : k = 8 := by omega
      have hE := part_end (plusL l m 1) l 0 (by omega)
      rw [hS] at hE
      have h8 := cout8 (plusL l m 1) 0 hS
      rw [Int.add_zero, hV] at h8
      rw [hE.1, h8.2] at hA
      rw [hE.2, h8.1]
      have hlow := lowered_any (val l + val m) (by omega) hv
      have hd8 := dg_length 8 (val l + val m)
      have hdr := dg_length 8 ((val l + val m) % P)
      obtain ⟨D, hD⟩ : ∃ D, dg 8 (val l + val m) = D := ⟨_, rfl⟩
      rw [hD] at hA hlow hd8
      obtain ⟨R, hR⟩ : ∃ R, dg 8 ((val l + val m) % P) = R := ⟨_, rfl⟩
      rw [hR] at hlow hdr
      have HR : Hid (dg 8 ((val l + val m) % P) = R) := hR
      clear hR hD hE h8 hB hV
      have sz := hnx.size
      have hzl := hZ.lt
      go_wp2_with (first | (refine wpList_load_arr rfl 59 (.tmp 2) rfl w.heap.size rfl D _ hA Tryd.underlying59 rfl (by rw [hd8]; exact infoNR) ?_) | (go_at_call 70; refine (hlow _).mono ?_; rintro e w5 ⟨rfl, hb5⟩) | (refine wpList_store_arr rfl 59 (.tmp 4) (.tmp 30) rfl (w.heap.size + 1 + 1) R rfl rfl zeros (hZ.below hb5 hzl) (by rw [hdr]; rfl) infoNR ?_; intro W5 hW5))
      exact bodyPost_ret (results_arr Tryd.results71 _ rfl hW5.arr _ Tryd.underlying59 rfl (by rw [hdr]; exact infoNR)) rfl ⟨by rw [HR.out], hW5.below _ _ (by omega) (hnx.trans (hb5.mono sz))⟩
theorem plus_any (u v : Int) (w : World) :
    Calls Tryd.prog 71 #[.agg (ints (dg 8 (u % P))), .agg (ints (dg 8 (v % P)))] w fun e w' => e = .returned (.agg (ints (dg 8 ((u + v) % P)))) ∧ Below w.heap.size w w' := by
  have hP : P = 57896044618658097711785492504343953926634992332820282019728792003956564819949 := rfl
  have u0 : 0 ≤ u % P := Int.emod_nonneg _ (by rw [hP]; decide)
  have u1 : u % P < P := Int.emod_lt_of_pos _ (by rw [hP]; decide)
  have v0 : 0 ≤ v % P := Int.emod_nonneg _ (by rw [hP]; decide)
  have v1 : v % P < P := Int.emod_lt_of_pos _ (by rw [hP]; decide)
  have hu := val_dg8 (u % P) u0 (by omega)
  have hv := val_dg8 (v % P) v0 (by omega)
  have h := plus_list (dg 8 (u % P)) (dg 8 (v % P)) (dg_length _ _) (dg_length _ _) (dg_ok _ _) (dg_ok _ _) (by rw [hu, hv]; omega) w
  rw [hu, hv, ← Int.add_emod] at h
  exact h
end Go.Proofs.YtdpokjhoedhadaaDoor.limb
