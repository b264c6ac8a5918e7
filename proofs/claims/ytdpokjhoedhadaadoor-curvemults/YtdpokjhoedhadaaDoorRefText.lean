/-
  THE WALK OF the document's own text of a number: the least one modulo 2^255 - 19, in 32 bytes.
-/
import Derived.Test.YtdpokjhoedhadaaDoorRefTimes
import Derived.Test.YtdpokjhoedhadaaDoorChr
namespace Go.Proofs.YtdpokjhoedhadaaDoor.num
open Go.RowKit

/-- r times less. -/
def lesses : Nat → Int → Int
  | 0, v => v
  | r + 1, v => less (lesses r v)
theorem lesses_bd (r : Nat) (v : Int) (h0 : 0 ≤ v) (h1 : v < 115792089237316195423570985008687907853269984665640564039457584007913129639936) : 0 ≤ lesses r v ∧ lesses r v < 115792089237316195423570985008687907853269984665640564039457584007913129639936 := by
  induction r with
  | zero => exact ⟨h0, h1⟩
  | succ r ih => exact less_bd _ ih.1 ih.2

set_option maxRecDepth 100000 in
set_option maxHeartbeats 1600000 in
theorem text_list (l : List Int) (hl : l.length = 16) (hs : small l) (w : World) :
    Calls Tryd.prog 26 #[.agg (ints l)] w fun e w' => e = .returned (.string (text (val l))) ∧ Below w.heap.size w w' := by
  have hi : (Tryd.prog.info? 37).map (·.size) = some 16 := by kernel_rfl
  obtain ⟨j0, hj, _, hj1, _⟩ := info_parts info64
  have hE := carried_eq l hl hs
  obtain ⟨_, hv0, hv1⟩ := hE
  have HT : Hid (text (val l) = text (cv (val l))) := (text_congr _ _ (cv_mod _)).symm
  have hN0 := Arr.new w 37 l
  go_enter Tryd.func26, Tryd.ntmps26
  go_wp2_with (first | (refine wpList_load_arr rfl 37 (.tmp 1) rfl w.heap.size rfl l _ hN0 Tryd.underlying37 rfl (by rw [hl]; exact hi) ?_) | (go_at_call 36; refine (carried_any l hl hs _).mono ?_; rintro e w1 ⟨rfl, hb1⟩) | (refine wpList_store_arr rfl 37 (.tmp 1) (.tmp 12) rfl w.heap.size _ rfl rfl l (hN0.below hb1 (by simp)) (by rw [dg_length, hl]) (by rw [hl]; exact hi) ?_; intro W1 hW1))
  have hB1 : Below w.heap.size w W1 := hW1.below _ _ (Nat.le_refl _) (((Below.refl _ w).alloc (Nat.le_refl _) _).trans (hb1.mono (by simp)))
  have hA1 := hW1.arr
  obtain ⟨v, hv⟩ : ∃ v, cv (val l) = v := ⟨_, rfl⟩
  rw [hv] at hA1 hv0 hv1
  rw [hv]
  have HV : Hid (text (val l) = text v) := by rw [← hv]; exact HT.out
  clear HT hv hW1 hb1 hN0
  go_loopw [13] (fun q wr => ∃ r : Nat, r ≤ 3 ∧ q = .int .i64 r ∧ Arr wr w.heap.size 37 (dg 16 (lesses r v)) ∧ Below w.heap.size w wr) (fun q _ => 3 - (intOf q).toNat)
  case atStart => exact ⟨0, by omega, rfl, hA1, hB1⟩
  case round =>
    clear hA1 hB1
    obtain ⟨r, hr, rfl, hA, hnx⟩ := hrel
    by_cases hlt : r < 3
    · have hd : decide ((r : Int) < 3) = true := by simp; omega
      have hb := lesses_bd r v hv0 hv1
      have HL : Hid (lesses (r + 1) v = less (lesses r v)) := rfl
      generalize lesses r v = u at *
      obtain ⟨u0, u1⟩ := hb
      have hDl : (dg 16 u).length = 16 := dg_length _ _
      have hDb := dg_bd 16 u
      have hLC := less_carry u u0 u1
      have hSl := lessL_length (dg 16 u) hDl
      have HDU : Hid (∃ D, dg 16 u = D) := ⟨_, rfl⟩
      obtain ⟨D, hD⟩ := HDU
      rw [hD] at hA hDl hDb hLC hSl
      have sz := hnx.size
      have hal := hA.lt
      have hN2 := Arr.new wr 37 zeros
      have hA2 := hA.alloc (.cells (ints zeros) 37)
      have hnx2 := hnx.alloc sz (.cells (ints zeros) 37)
      obtain ⟨g, hg⟩ : ∃ g, g = wr.heap.size := ⟨_, rfl⟩
      rw [← hg] at hN2 hal sz
      have HG : Hid (wr.heap.size = g) := hg.symm
      clear hg
      go_wp2_with (first | (refine wpList_load_arr rfl 37 (.tmp 1) rfl w.heap.size rfl D _ hA Tryd.underlying37 rfl (by rw [hDl]; exact hi) ?_) | (refine wpList_store_arr rfl 37 (.tmp 3) (.tmp 15) rfl g D (by rw [← HG.out]; rfl) rfl zeros hN2 (by rw [hDl]; rfl) hi ?_; intro W2 hW2))
      rw [HG.out]
      have hA3 := hW2.other _ _ _ (by omega) hA2
      have hM3 := hW2.arr
      have hnx3 := hW2.below _ _ (by omega) hnx2
      clear hW2 hA2 hnx2 hN2 hA hnx HG
      go_loopw [4, 16] (fun c q wq => ∃ k : Nat, k ≤ 16 ∧ q = .int .i64 k ∧ c = .int .i64 (cout ((lessL D).take k) 0) ∧ Arr wq g 37 (carry ((lessL D).take k) 0 ++ D.drop k) ∧ Arr wq w.heap.size 37 D ∧ Below w.heap.size w wq) (fun _ q _ => 16 - (intOf q).toNat)
      case atStart => exact ⟨0, by omega, rfl, rfl, hM3, hA3, hnx3⟩
      case round =>
        clear hA3 hM3 hnx3
        obtain ⟨k, hk, rfl, rfl, hM, hA, hnx⟩ := hrel
        by_cases hk2 : k < 16
        · have HST := carry_step2 (lessL D) D k (by omega) (by omega)
          rw [lessL_get D k hDl hk2] at HST
          have hcl : (carry ((lessL D).take k) 0).length = k := by rw [carry_length, List.length_take]; omega
          have hget : (carry ((lessL D).take k) 0 ++ D.drop k).getD k 0 = D.getD k 0 := by
            rw [List.getD_eq_getElem?_getD, List.getElem?_append_right (by omega), hcl, Nat.sub_self, List.getElem?_drop, Nat.add_zero, List.getD_eq_getElem?_getD]
          have hc := hM.cell k (by rw [List.length_append, hcl, List.length_drop]; omega)
          rw [hget] at hc
          have hf := hM.frozen k
          have hsm : small (lessL D) := plusL_small D PL (-1) (by decide) (by decide) hDb (by decide) (by rw [hDl]; rfl)
          have bd := cout_bd ((lessL D).take k) 0 (fun a ha => hsm a (List.mem_of_mem_take ha)) (by omega) (by omega)
          have be := hDb _ (mem_getD D k (by omega))
          have hpk := PL_get k hk2
          have HS : Hid ((carry ((lessL D).take k) 0 ++ D.drop k).set k ((D.getD k 0 - PL.getD k 0 + cout ((lessL D).take k) 0) % 65536) = carry ((lessL D).take (k + 1)) 0 ++ D.drop (k + 1) ∧ cout ((lessL D).take (k + 1)) 0 = (D.getD k 0 - PL.getD k 0 + cout ((lessL D).take k) 0) / 65536) := HST
          clear HST hget hcl hsm hLC
          generalize D.getD k 0 = a at *
          generalize cout ((lessL D).take k) 0 = c at *
          obtain ⟨bd0, bd1⟩ := bd
          obtain ⟨be0, be1⟩ := be
          have kz : (k : Int) < 16 := by omega
          have k0 : (0 : Int) ≤ (k : Int) := by omega
          obtain ⟨pk, hp⟩ : ∃ pk, PL.getD k 0 = pk := ⟨_, rfl⟩
          rw [hp] at HS hpk
          have qd : (a - pk + c - (a - pk + c) % 65536).tdiv 65536 = (a - pk + c) / 65536 := by
            rw [show a - pk + c - (a - pk + c) % 65536 = (a - pk + c) / 65536 * 65536 from by omega, Int.mul_tdiv_cancel _ (by decide)]
          clear hp
          have HLN : Hid (D.length = 16 ∧ (lessL D).length = 16 ∧ l.length = 16) := ⟨hDl, hSl, hl⟩
          clear hDl hSl hl
          have hcase : (k = 0 ∧ pk = 65517) ∨ (k = 15 ∧ pk = 32767) ∨ (k ≠ 0 ∧ k ≠ 15 ∧ pk = 65535) := by
            by_cases c1 : k = 0
            · rw [if_pos c1] at hpk; exact .inl ⟨c1, hpk⟩
            · by_cases c2 : k = 15
              · rw [if_neg c1, if_pos c2] at hpk; exact .inr (.inl ⟨c2, hpk⟩)
              · rw [if_neg c1, if_neg c2] at hpk; exact .inr (.inr ⟨c1, c2, hpk⟩)
          clear hpk
          rcases hcase with ⟨c1, rfl⟩ | ⟨c1, rfl⟩ | ⟨c1, c2, rfl⟩
          · have t0 : ((k : Int) == 0) = true := by rw [beq_iff_eq]; omega
            have t1 : ((k : Int) == 15) = false := by rw [beq_eq_false_iff_ne]; omega
            clear c1
            go_wp2_with (go_at_call 39; refine (rest_any _ (by omega) (by omega) _).mono ?_; rintro e w' ⟨rfl, hw⟩; rw [hw]; clear hw w')
            go_roundw
            case rel => exact ⟨k + 1, by omega, by go_num, by rw [HS.out.2], by rw [← HS.out.1]; exact hM.set k _, hA.other (by simp; omega) _, hnx.setCell (by simp; omega) _⟩
            case measure => simp [intOf]; omega
          · have t0 : ((k : Int) == 0) = false := by rw [beq_eq_false_iff_ne]; omega
            have t1 : ((k : Int) == 15) = true := by rw [beq_iff_eq]; omega
            clear c1
            go_wp2_with (go_at_call 39; refine (rest_any _ (by omega) (by omega) _).mono ?_; rintro e w' ⟨rfl, hw⟩; rw [hw]; clear hw w')
            go_roundw
            case rel => exact ⟨k + 1, by omega, by go_num, by rw [HS.out.2], by rw [← HS.out.1]; exact hM.set k _, hA.other (by simp; omega) _, hnx.setCell (by simp; omega) _⟩
            case measure => simp [intOf]; omega
          · have t0 : ((k : Int) == 0) = false := by rw [beq_eq_false_iff_ne]; omega
            have t1 : ((k : Int) == 15) = false := by rw [beq_eq_false_iff_ne]; omega
            clear c1 c2
            go_wp2_with (go_at_call 39; refine (rest_any _ (by omega) (by omega) _).mono ?_; rintro e w' ⟨rfl, hw⟩; rw [hw]; clear hw w')
            go_roundw
            case rel => exact ⟨k + 1, by omega, by go_num, by rw [HS.out.2], by rw [← HS.out.1]; exact hM.set k _, hA.other (by simp; omega) _, hnx.setCell (by simp; omega) _⟩
            case measure => simp [intOf]; omega
        · obtain rfl : k = 16 := by omega
          rw [List.take_of_length_le (by omega), List.drop_of_length_le (by omega), List.append_nil] at hM
          rw [List.take_of_length_le (by omega)]
          have sz3 := hnx.size
          by_cases hP : P ≤ u
          · have hle : less u = u - P := by unfold less; rw [if_pos hP]
            have hcc := hLC.1 hP
            rw [hcc.2] at hM
            rw [hcc.1]
            have HE : Hid (dg 16 (lesses (r + 1) v) = dg 16 (u - P)) := by rw [HL.out, hle]; rfl
            have hEl : (dg 16 (u - P)).length = 16 := dg_length _ _
            clear hle hcc hLC hP
            generalize dg 16 (u - P) = E at *
            go_wp2_with (first | (refine wpList_load_arr rfl 37 (.tmp 3) rfl g rfl E _ hM Tryd.underlying37 rfl (by rw [hEl]; exact hi) ?_) | (refine wpList_store_arr rfl 37 (.tmp 1) (.tmp 43) rfl w.heap.size E rfl rfl D hA (by omega) (by rw [hDl]; exact hi) ?_; intro W3 hW3))
            go_roundw
            case rel => exact ⟨r + 1, by omega, by go_num, by rw [HE.out]; exact hW3.arr, hW3.below _ _ (Nat.le_refl _) hnx⟩
            case measure => simp [intOf]; omega
          · have hle : less u = u := by unfold less; rw [if_neg hP]
            have hcc := hLC.2 (by omega)
            rw [hcc]
            have HE : Hid (dg 16 (lesses (r + 1) v) = D) := by rw [HL.out, hle]; exact hD
            clear hle hcc hLC hP
            go_wp2
            go_roundw
            case rel => exact ⟨r + 1, by omega, by go_num, by rw [HE.out]; exact hA, hnx⟩
            case measure => simp [intOf]; omega
    · obtain rfl : r = 3 := by omega
      have h3 : lesses 3 v = v % P := less3 v hv0 hv1
      rw [h3] at hA
      have hDl : (dg 16 (v % P)).length = 16 := dg_length _ _
      have hDb := dg_bd 16 (v % P)
      have HF : Hid (text v = ⟨(bytesL (dg 16 (v % P))).toArray⟩) := by show _ = _; unfold text; rw [bytes_dg]
      clear h3
      obtain ⟨D, hD⟩ : ∃ D, dg 16 (v % P) = D := ⟨_, rfl⟩
      rw [hD] at hA hDl hDb
      have HD : Hid (dg 16 (v % P) = D) := hD
      clear hD
      go_wp2_with (refine wpList_load_arr rfl 37 (.tmp 1) rfl w.heap.size rfl D _ hA Tryd.underlying37 rfl (by rw [hDl]; exact hi) ?_)
      go_loopw [8, 46] (fun o q wq => ∃ k : Nat, k ≤ 16 ∧ q = .int .i64 k ∧ o = .string ⟨(bytesL (D.take k)).toArray⟩ ∧ Below w.heap.size w wq) (fun _ q _ => 16 - (intOf q).toNat)
      case atStart => exact ⟨0, by omega, rfl, rfl, hnx⟩
      case round =>
        obtain ⟨k, hk, rfl, rfl, hnx2⟩ := hrel
        by_cases hk2 : k < 16
        · have hix : ∀ u : World, (Instr.index 37 (.agg (ints D)) (.int .i64 (k : Int))).run Tryd.prog u = .ok (.int .i64 (D.getD k 0)) u := run_index_ints Tryd.underlying37 Tryd.underlying2 hj hj1 D k hk2 (by omega)
          have be := hDb _ (mem_getD D k (by omega))
          have hst : bytesL (D.take (k + 1)) = bytesL (D.take k) ++ [UInt8.ofNat (D.getD k 0 % 256).toNat, UInt8.ofNat (D.getD k 0 / 256).toNat] := by
            have e : D.getD k 0 = D[k] := by rw [List.getD_eq_getElem?_getD, List.getElem?_eq_getElem (by omega)]; rfl
            rw [List.take_succ_eq_append_getElem (by omega), bytesL_append, e]
            rfl
          have HS : Hid ((⟨(bytesL (D.take k)).toArray⟩ ++ (⟨#[UInt8.ofNat (D.getD k 0 % 256).toNat]⟩ ++ ⟨#[UInt8.ofNat (D.getD k 0 / 256).toNat]⟩) : ByteArray) = ⟨(bytesL (D.take (k + 1))).toArray⟩) := by
            show _ = _
            rw [hst]
            apply ByteArray.ext
            simp
          have hz : (⟨(bytesL (D.take k)).toArray⟩ : ByteArray).size = 2 * k := by
            have h1 : (bytesL (D.take k)).length = 2 * k := by rw [bytesL_length, List.length_take]; omega
            rw [← h1]; exact List.size_toArray
          have e1 : ∀ c, (⟨#[c]⟩ : ByteArray).size = 1 := fun c => rfl
          clear hst
          generalize (⟨(bytesL (D.take k)).toArray⟩ : ByteArray) = o at *
          generalize D.getD k 0 = a at *
          obtain ⟨be0, be1⟩ := be
          have m0 : a.tmod 256 = a % 256 := Int.tmod_eq_emod_of_nonneg be0
          have m1 : a.tdiv 256 = a / 256 := Int.tdiv_eq_ediv_of_nonneg be0
          go_wp2_with fail
          refine (chr_any _ (by omega) (by omega) _).mono ?_
          rintro e w5 ⟨rfl, hb5⟩
          go_wp2_with fail
          refine (chr_any _ (by omega) (by omega) _).mono ?_
          rintro e w6 ⟨rfl, hb6⟩
          have sz5 := hnx2.size
          have sz6 := hb5.size
          generalize UInt8.ofNat (a % 256).toNat = ch1 at *
          generalize UInt8.ofNat (a / 256).toNat = ch2 at *
          go_wp2
          go_roundw
          case rel => exact ⟨k + 1, by omega, by go_num, by rw [HS.out], (hnx2.trans (hb5.mono sz5)).trans (hb6.mono (by omega))⟩
          case measure => simp [intOf]; omega
        · obtain rfl : k = 16 := by omega
          rw [List.take_of_length_le (by omega)]
          have HR : Hid ((⟨(bytesL D).toArray⟩ : ByteArray) = text (val l)) := by rw [HV.out, HF.out, HD.out]; rfl
          generalize (⟨(bytesL D).toArray⟩ : ByteArray) = o at *
          go_wp2
          go_ret
          exact ⟨by rw [← HR.out]; rfl, hnx2⟩
end Go.Proofs.YtdpokjhoedhadaaDoor.num
