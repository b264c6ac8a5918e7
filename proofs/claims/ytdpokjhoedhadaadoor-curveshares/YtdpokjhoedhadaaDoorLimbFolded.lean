/-
  THE WALK OF package elem's numbers: folded.
-/
import Derived.Test.YtdpokjhoedhadaaDoorLimbLowered
namespace Go.Proofs.YtdpokjhoedhadaaDoor.limb
open Go.RowKit
open Go.Proofs.YtdpokjhoedhadaaDoor.num (P N nB nB_bd mem_getD)

theorem infoWIDE : (Tryd.prog.info? 84).map (·.size) = some 16 := by kernel_rfl
/-- The number that a block and what goes beyond it hold. -/
def uOf (g : Nat) (b : Value) (w : World) : Int :=
  match w.heap[g]? with
  | some (.cells cs _ _) => val (cs.toList.map intOf) + intOf b * 115792089237316195423570985008687907853269984665640564039457584007913129639936
  | _ => 0
theorem uOf_eq {g t : Nat} {w : World} {l : List Int} (h : Arr w g t l) (b : Int) : uOf g (.int .u32 b) w = val l + b * 115792089237316195423570985008687907853269984665640564039457584007913129639936 := by
  unfold uOf
  rw [show w.heap[g]? = some (.cells (ints l) t (0, 0)) from h]
  have e : (ints l).toList.map intOf = l := by rw [ints_toList, List.map_map]; exact List.map_id'' (fun _ => rfl) l
  simp only [e]
  rfl

set_option maxRecDepth 100000 in
set_option maxHeartbeats 1600000 in
theorem folded_any (W : List Int) (hW : W.length = 16) (oW : ok W) (w : World) :
    Calls Tryd.prog 74 #[.agg (ints W)] w fun e w' => e = .returned (.agg (ints (dg 8 (val W % P)))) ∧ Below w.heap.size w w' := by
  have hS := foldL_length W hW
  have hV := foldL_val W hW oW
  have hB : ∀ k, 0 ≤ cout ((foldL W).take k) 0 ∧ cout ((foldL W).take k) 0 ≤ 39 := fun k => cout_bd _ _ 0 39 (fun a ha => foldL_ok W hW oW a (List.mem_of_mem_take ha)) (by omega) (by omega)
  have hz8 : zeros.length = 8 := rfl
  go_enter Tryd.func74, Tryd.ntmps74
  go_wp2
  go_loopw [7, 4] (fun i c wr => ∃ k : Nat, k ≤ 8 ∧ i = .int .i64 k ∧ c = .int .u64 (cout ((foldL W).take k) 0) ∧ Arr wr w.heap.size 84 W ∧ Arr wr (w.heap.size + 1) 59 zeros ∧ Arr wr (w.heap.size + 1 + 1) 59 (carry ((foldL W).take k) 0 ++ zeros.drop k) ∧ Below w.heap.size w wr) (fun i _ _ => 8 - (intOf i).toNat)
  case atStart =>
    refine ⟨0, by omega, rfl, by simp [cout], ((Arr.new w 84 W).alloc _).alloc _, ?_, ?_, (((Below.refl _ _).alloc (Nat.le_refl _) _).alloc (by simp) _).alloc (by simp; omega) _⟩
    · have h := Arr.new (w.alloc (.cells (ints W) 84)) 59 zeros
      rw [World.size_alloc] at h
      exact h.alloc _
    · have h := Arr.new ((w.alloc (.cells (ints W) 84)).alloc (.cells (ints zeros) 59)) 59 zeros
      rw [World.size_alloc, World.size_alloc] at h
      exact h
  case round =>
    obtain ⟨k, hk, rfl, rfl, hA, hZ, hD, hnx⟩ := hrel
    by_cases hlt : k < 8
    · have HST := carry_step (foldL W) zeros 0 k (by omega) (by omega)
      have hp := part_get (foldL W) zeros 0 k (by omega) (by omega)
      have hc := hD.cell k (by rw [hp.2]; omega)
      have hf := hD.frozen k
      rw [hp.1] at hc
      have hc1 := hA.cell k (by omega)
      have hc2 := hA.cell (8 + k) (by omega)
      have b1 := ok_get oW k
      have b2 := ok_get oW (8 + k)
      have bc := hB k
      rw [foldL_get W k hW hlt, Int.add_comm (_ + _) (cout _ _)] at HST
      clear hp hB hV
      generalize cout ((foldL W).take k) 0 = c at *
      generalize W.getD k 0 = x at *
      generalize W.getD (8 + k) 0 = y at *
      generalize zeros.getD k 0 = z at *
      have HS : Hid _ := HST
      clear HST
      obtain ⟨x0, x1⟩ := b1
      obtain ⟨y0, y1⟩ := b2
      obtain ⟨c0, c1⟩ := bc
      have kz : (k : Int) < 8 := by omega
      have k0 : (0 : Int) ≤ (k : Int) := by omega
      have k1 : (k : Int) < 16 := by omega
      have k2 : 8 + (k : Int) < 16 := by omega
      have k3 : (0 : Int) ≤ 8 + (k : Int) := by omega
      have n0 : (8 + (k : Int)).toNat = 8 + k := by omega
      have HL : Hid (W.length = 16 ∧ (foldL W).length = 8) := ⟨hW, hS⟩
      clear hW hS oW hz8
      go_wp2
      go_region
      all_goals
        go_wp2
        go_roundw
        case rel => exact ⟨k + 1, by omega, by go_num, by rw [HS.out.2], (hA.other (by simp; omega) _).drew, (hZ.other (by simp) _).drew, by rw [← HS.out.1]; exact (hD.set k _).drew, (hnx.setCell (by simp; omega) _).drew⟩
        case measure => simp [intOf]; omega
    · obtain rfl : k = 8 := by omega
      have hE := part_end (foldL W) zeros 0 (by omega)
      rw [hS] at hE
      have h8 := cout8 (foldL W) 0 hS
      rw [Int.add_zero] at h8
      rw [hE.1, h8.2] at hD
      rw [hE.2, h8.1, show ((8 : Nat) : Int) = 8 from rfl]
      clear hE h8 hB hA
      obtain ⟨hV1, hV2, hV3⟩ := hV
      have HV : Hid (val (foldL W) % P = val W % P) := hV1
      clear hV1 hS hW oW hz8
      generalize val (foldL W) = u0 at *
      have hcb : 0 ≤ u0 / 115792089237316195423570985008687907853269984665640564039457584007913129639936 ∧ u0 / 115792089237316195423570985008687907853269984665640564039457584007913129639936 < 4294967296 := by omega
      obtain ⟨hc0, hc1⟩ := hcb
      obtain ⟨D0, hD0⟩ : ∃ D0, dg 8 u0 = D0 := ⟨_, rfl⟩
      rw [hD0] at hD
      have HD0 : Hid (dg 8 u0 = D0 ∧ 0 ≤ u0 ∧ u0 < 39 * 115792089237316195423570985008687907853269984665640564039457584007913129639936) := ⟨hD0, hV2, hV3⟩
      clear hD0 hV2 hV3
      obtain ⟨b0, hb0⟩ : ∃ b0, u0 / 115792089237316195423570985008687907853269984665640564039457584007913129639936 = b0 := ⟨_, rfl⟩
      rw [hb0] at hc0 hc1
      rw [hb0]
      have HB0 : Hid (u0 / 115792089237316195423570985008687907853269984665640564039457584007913129639936 = b0) := hb0
      clear hb0
      go_wp2
      go_loopw [6] (fun b wq => ∃ (u : Int), 0 ≤ u ∧ u < 39 * 115792089237316195423570985008687907853269984665640564039457584007913129639936 ∧ u % P = val W % P ∧ b = .int .u32 (u / 115792089237316195423570985008687907853269984665640564039457584007913129639936) ∧ Arr wq (w.heap.size + 1) 59 zeros ∧ Arr wq (w.heap.size + 1 + 1) 59 (dg 8 u) ∧ Below w.heap.size w wq) (fun b wq => (uOf (w.heap.size + 1 + 1) b wq).toNat)
      case atStart => exact ⟨u0, HD0.out.2.1, HD0.out.2.2, HV.out, by rw [HB0.out], hZ, by rw [HD0.out.1]; exact hD, hnx⟩
      case round =>
        clear hZ hD hnx HD0 HV HB0 hc0 hc1
        obtain ⟨u, hu0, hu1, hu2, rfl, hZ, hD, hnx⟩ := hrel
        obtain ⟨t, ht⟩ : ∃ t, t = u % 115792089237316195423570985008687907853269984665640564039457584007913129639936 + 38 * (u / 115792089237316195423570985008687907853269984665640564039457584007913129639936) := ⟨_, rfl⟩
        have hst := fold_step u hu0 hu1 t ht
        have hU := uOf_eq hD (u / 115792089237316195423570985008687907853269984665640564039457584007913129639936)
        rw [val_dg, pow8] at hU
        have sz := hnx.size
        have hzl := hZ.lt
        have hdl := hD.lt
        by_cases hb : u / 115792089237316195423570985008687907853269984665640564039457584007913129639936 = 0
        · have hlow := lowered_any u hu0 (by omega)
          rw [hu2] at hlow
          have hd8 := dg_length 8 u
          have hdr := dg_length 8 (val W % P)
          generalize dg 8 u = D at *
          rw [hb]
          clear hU hst ht
          obtain ⟨R, hR⟩ : ∃ R, dg 8 (val W % P) = R := ⟨_, rfl⟩
          rw [hR] at hlow hdr
          have HR : Hid (dg 8 (val W % P) = R) := hR
          clear hR
          go_wp2_with (first | (refine wpList_load_arr rfl 59 (.tmp 3) rfl (w.heap.size + 1 + 1) rfl D _ hD Tryd.underlying59 rfl (by rw [hd8]; exact infoNR) ?_) | (go_at_call 70; refine (hlow _).mono ?_; rintro e w5 ⟨rfl, hb5⟩) | (refine wpList_store_arr rfl 59 (.tmp 2) (.tmp 42) rfl (w.heap.size + 1) R rfl rfl zeros (hZ.below hb5 hzl) (by rw [hdr]; rfl) infoNR ?_; intro W5 hW5))
          exact bodyPost_ret (results_arr Tryd.results74 _ rfl hW5.arr _ Tryd.underlying59 rfl (by rw [hdr]; exact infoNR)) rfl ⟨by rw [HR.out], hW5.below _ _ (by omega) (hnx.trans (hb5.mono sz))⟩
        · have hbd : 0 < u / 115792089237316195423570985008687907853269984665640564039457584007913129639936 ∧ u / 115792089237316195423570985008687907853269984665640564039457584007913129639936 < 39 := ⟨by omega, hst.2.2.2⟩
          have hr := raised_any (dg 8 u) (dg_length _ _) (dg_ok _ _) (38 * (u / 115792089237316195423570985008687907853269984665640564039457584007913129639936)) (by omega) (by omega)
          rw [val_dg, pow8, ← ht] at hr
          have hd8 := dg_length 8 u
          have hdt := dg_length 8 t
          have HT : Hid (t % P = u % P ∧ 0 ≤ t ∧ t < u ∧ (uOf (w.heap.size + 1 + 1) (Value.int .u32 (u / 115792089237316195423570985008687907853269984665640564039457584007913129639936)) wr) = u) := ⟨hst.1, hst.2.1, hst.2.2.1 hb, by rw [hU]; omega⟩
          have HU : Hid (0 ≤ u ∧ u < 39 * 115792089237316195423570985008687907853269984665640564039457584007913129639936 ∧ u % P = val W % P) := ⟨hu0, hu1, hu2⟩
          clear hst hU ht hu0 hu1 hu2 hb
          obtain ⟨D, hDe⟩ : ∃ D, dg 8 u = D := ⟨_, rfl⟩
          rw [hDe] at hD hr hd8
          obtain ⟨E, hEe⟩ : ∃ E, dg 8 t = E := ⟨_, rfl⟩
          rw [hEe] at hr hdt
          obtain ⟨b, hbe⟩ : ∃ b, u / 115792089237316195423570985008687907853269984665640564039457584007913129639936 = b := ⟨_, rfl⟩
          rw [hbe] at hr hbd HT
          rw [hbe]
          have HE : Hid (dg 8 t = E) := hEe
          clear hDe hEe hbe
          obtain ⟨hb0, hb1⟩ := hbd
          have hbn : ¬ b = 0 := by omega
          have hbm : 38 * b ≤ 4294967295 := by omega
          have hbk : 0 ≤ 38 * b := by omega
          go_wp2_with (first | (refine wpList_load_arr rfl 59 (.tmp 3) rfl (w.heap.size + 1 + 1) rfl D _ hD Tryd.underlying59 rfl (by rw [hd8]; exact infoNR) ?_) | (go_at_call 77; refine (hr _).mono ?_; rintro e w5 ⟨rfl, hb5⟩) | (refine wpList_store_arr rfl 59 (.tmp 3) (.tmp 39) rfl (w.heap.size + 1 + 1) E rfl rfl D (hD.below hb5 hdl) (by rw [hdt, hd8]) (by rw [hd8]; exact infoNR) ?_; intro W5 hW5))
          go_roundw
          case rel => exact ⟨t, HT.out.2.1, by have := HT.out.2.2.1; have := HU.out.2.1; omega, by rw [HT.out.1]; exact HU.out.2.2, rfl, hW5.other _ _ _ (by omega) (hZ.below hb5 hzl), by rw [HE.out]; exact hW5.arr, hW5.below _ _ (by omega) (hnx.trans (hb5.mono sz))⟩
          case measure =>
            show (uOf (w.heap.size + 1 + 1) (Value.int .u32 (t / 115792089237316195423570985008687907853269984665640564039457584007913129639936)) W5).toNat < (uOf (w.heap.size + 1 + 1) (Value.int .u32 b) wr).toNat
            rw [uOf_eq hW5.arr, ← HE.out, val_dg, pow8, HT.out.2.2.2]
            have := HT.out.2.1
            have := HT.out.2.2.1
            omega
end Go.Proofs.YtdpokjhoedhadaaDoor.limb
