/-
  THE WALKS OF package poly's numbers: folded, times, lowered.
-/
import Derived.Test.YtmbckgfpkmnlnabDoorPolyCarry
import Derived.Test.YtmbckgfpkmnlnabDoorPlainPoly
namespace Go.Proofs.YtmbckgfpkmnlnabDoor.pol
open Go.RowKit
open Go.Proofs.YtmbckgfpkmnlnabDoor.u64

def z10 : List Nat := [0, 0, 0, 0, 0, 0, 0, 0, 0, 0]
theorem infoWIDE : (Tryd.prog.info? 113).map (·.size) = some 10 := by kernel_rfl
/-- The number that a block and what goes beyond it hold. -/
def uOf (g : Nat) (b : Value) (w : World) : Nat :=
  match w.heap[g]? with
  | some (.cells cs _ _) => val 67108864 (cs.toList.map fun v => (intOf v).toNat) + (intOf b).toNat * 67108864 ^ 5
  | _ => 0
theorem uOf_eq {g t : Nat} {w : World} {l : List Nat} (h : Arr w g t l) (b : Nat) : uOf g (.int .u64 (b : Int)) w = val 67108864 l + b * 67108864 ^ 5 := by
  unfold uOf
  rw [show w.heap[g]? = some (.cells (wu l).toArray t (0, 0)) from h]
  have e : (wu l).toArray.toList.map (fun v => (intOf v).toNat) = l := by
    show (wu l).map _ = l
    rw [wu, List.map_map]
    exact List.map_id'' (fun _ => rfl) l
  simp only [e]
  rfl

set_option maxRecDepth 100000 in
set_option maxHeartbeats 1600000 in
theorem folded_any (W : List Nat) (hW : W.length = 10) (oW : ∀ a ∈ W, a ≤ 225179981368524800) (w : World) :
    Calls Tryd.prog 81 #[.agg (wu W).toArray] w fun e w' => e = .returned (.agg (wu (dg 67108864 5 (fin (val 67108864 (foldL W))))).toArray) ∧ Below w.heap.size w w' := by
  have hS := foldL_length W hW
  have hF := foldL_le W hW oW
  have hz5 : z5.length = 5 := rfl
  go_enter Tryd.func81, Tryd.ntmps81
  go_wp2
  go_loopw [6] (fun i wr => ∃ k : Nat, k ≤ 5 ∧ i = .int .i64 k ∧ Arr wr w.heap.size 113 W ∧ Arr wr (w.heap.size + 1) 97 z5 ∧ Arr wr (w.heap.size + 1 + 1) 97 ((foldL W).take k ++ z5.drop k) ∧ Below w.heap.size w wr) (fun i _ => 5 - (intOf i).toNat)
  case atStart =>
    refine ⟨0, by omega, rfl, ((Arr.new w 113 W).alloc _).alloc _, ?_, ?_, (((Below.refl _ _).alloc (Nat.le_refl _) _).alloc (by simp) _).alloc (by simp; omega) _⟩
    · have h := Arr.new (w.alloc (.cells (wu W).toArray 113)) 97 z5
      rw [World.size_alloc] at h
      exact h.alloc _
    · have h := Arr.new ((w.alloc (.cells (wu W).toArray 113)).alloc (.cells (wu z5).toArray 97)) 97 z5
      rw [World.size_alloc, World.size_alloc] at h
      exact h
  case round =>
    obtain ⟨k, hk, rfl, hA, hZ, hD, hnx⟩ := hrel
    by_cases hlt : k < 5
    · have hcl : ((foldL W).take k).length = k := by rw [List.length_take]; omega
      have hc := hD.cell k (by rw [part_length _ _ _ hcl (by omega)]; omega)
      have hf := hD.frozen k
      rw [part_getD _ _ _ hcl] at hc
      have HST := set_part ((foldL W).take k) z5 k ((foldL W).getD k 0) hcl (by omega)
      rw [← get_take _ _ (by omega), foldL_get W k hW hlt] at HST
      have hc1 := hA.cell k (by omega)
      have hc2 := hA.cell (5 + k) (by omega)
      have b1 := getD_le oW k
      have b2 := getD_le oW (5 + k)
      generalize W.getD k 0 = x at *
      generalize W.getD (5 + k) 0 = y at *
      generalize z5.getD k 0 = z at *
      obtain ⟨s, hs⟩ : ∃ s, s = x + 5 * y := ⟨_, rfl⟩
      rw [← hs] at HST
      have HS : Hid _ := HST
      obtain ⟨y5, hy5⟩ : ∃ y5, y5 = 5 * y := ⟨_, rfl⟩
      have e1 : 5 * (y : Int) = (y5 : Int) := by omega
      have e2 : (x : Int) + (y5 : Int) = (s : Int) := by omega
      have x1 : (s : Int) < 18446744073709551616 := by omega
      have x2 : (y5 : Int) < 18446744073709551616 := by omega
      have kz : (k : Int) < 5 := by omega
      have k0 : (0 : Int) ≤ (k : Int) := by omega
      have k1 : (k : Int) < 10 := by omega
      have k2 : 5 + (k : Int) < 10 := by omega
      have k3 : (0 : Int) ≤ 5 + (k : Int) := by omega
      have n0 : (5 + (k : Int)).toNat = 5 + k := by omega
      have HL : Hid (W.length = 10 ∧ (foldL W).length = 5) := ⟨hW, hS⟩
      clear hcl HST hW hS oW hz5 hF hs hy5
      go_wp2
      go_region
      all_goals
        go_wp2
        go_roundw
        case rel => exact ⟨k + 1, by omega, by go_num, (hA.other (by simp; omega) _).drew, (hZ.other (by simp) _).drew, by rw [← HS.out]; exact (hD.set k _).drew, (hnx.setCell (by simp; omega) _).drew⟩
        case measure => simp [intOf]; omega
    · obtain rfl : k = 5 := by omega
      rw [List.take_of_length_le (by omega), List.drop_of_length_le (by omega), List.append_nil] at hD
      rw [show ((5 : Nat) : Int) = 5 from rfl]
      have HO := over_le _ hS hF
      have hcr := carried_any (foldL W) hS hF
      have hd0 := dg_length 67108864 5 (val 67108864 (foldL W))
      obtain ⟨u0, hu0⟩ : ∃ u0, val 67108864 (foldL W) = u0 := ⟨_, rfl⟩
      rw [hu0] at HO hcr hd0
      obtain ⟨F, hFe⟩ : ∃ F, foldL W = F := ⟨_, rfl⟩
      rw [hFe] at hD hcr hS
      have hu0F : val 67108864 F = u0 := by rw [← hFe]; exact hu0
      obtain ⟨V, hVe⟩ : ∃ V, fin u0 = V := ⟨_, rfl⟩
      have HV : Hid (fin u0 = V ∧ fin (val 67108864 (foldL W)) = V) := ⟨hVe, by rw [hFe, hu0F]; exact hVe⟩
      obtain ⟨D0, hD0⟩ : ∃ D0, dg 67108864 5 u0 = D0 := ⟨_, rfl⟩
      rw [hD0] at hcr hd0
      have HD0 : Hid (dg 67108864 5 u0 = D0) := hD0
      obtain ⟨b0, hb0⟩ : ∃ b0, u0 / 67108864 ^ 5 = b0 := ⟨_, rfl⟩
      rw [hb0] at hcr HO
      have HB0 : Hid (u0 / 67108864 ^ 5 = b0) := hb0
      have sz := hnx.size
      have hzl := hZ.lt
      have hdl := hD.lt
      clear hW oW hz5 hF hVe hu0 hu0F hFe hD0 hb0
      go_wp2_with (first | (refine wpList_load_arr rfl 97 (.tmp 3) rfl (w.heap.size + 1 + 1) rfl hD _ Tryd.underlying97 rfl (by rw [hS]; exact infoNR) ?_) | (go_at_call 76; (with_reducible refine (hcr _).mono ?_); rintro e w5 ⟨rfl, hb5⟩) | (refine wpList_store_arr rfl 97 (.tmp 3) (.tmp 24) rfl (w.heap.size + 1 + 1) D0 rfl rfl (hD.below hb5 hdl) (by rw [hd0, hS]) (by rw [hS]; exact infoNR) ?_; intro W5 hW5))
      have hZ5 := hW5.other _ _ _ (by omega) (hZ.below hb5 hzl)
      have hD5 := hW5.arr
      have hnx5 := hW5.below _ _ (by omega) (hnx.trans (hb5.mono sz))
      clear hZ hD hnx hcr hW5 hb5
      go_loopw [5] (fun b wq => ∃ (u : Nat), u / 67108864 ^ 5 ≤ 137438953472 ∧ fin u = V ∧ b = .int .u64 ((u / 67108864 ^ 5 : Nat) : Int) ∧ Arr wq (w.heap.size + 1) 97 z5 ∧ Arr wq (w.heap.size + 1 + 1) 97 (dg 67108864 5 u) ∧ Below w.heap.size w wq) (fun b wq => uOf (w.heap.size + 1 + 1) b wq)
      case atStart => exact ⟨u0, by rw [HB0.out]; exact HO, HV.out.1, by rw [HB0.out], hZ5, by rw [HD0.out]; exact hD5, hnx5⟩
      case round =>
        clear hZ5 hD5 hnx5 HD0 HB0 HO
        obtain ⟨u, hu0, hu1, rfl, hZ, hD, hnx⟩ := hrel
        obtain ⟨t, ht⟩ : ∃ t, t = u % 67108864 ^ 5 + 5 * (u / 67108864 ^ 5) := ⟨_, rfl⟩
        have hst := fold_step u t hu0 ht
        have hfs : fin t = fin u := by rw [ht]; exact fin_st u hu0
        have hU := uOf_eq hD (u / 67108864 ^ 5)
        rw [val_dg, Nat.mul_comm, Nat.mod_add_div] at hU
        have sz := hnx.size
        have hzl := hZ.lt
        have hdl := hD.lt
        by_cases hb : u / 67108864 ^ 5 = 0
        · have hd5 := dg_length 67108864 5 u
          obtain ⟨D, hDe⟩ : ∃ D, dg 67108864 5 u = D := ⟨_, rfl⟩
          rw [hDe] at hD hd5
          have HR : Hid (dg 67108864 5 u = D ∧ V = u) := ⟨hDe, by rw [← hu1]; exact fin_small u hb⟩
          rw [hb]
          clear hU hst ht hDe hu1 hfs
          go_wp2_with (first | (refine wpList_load_arr rfl 97 (.tmp 3) rfl (w.heap.size + 1 + 1) rfl hD _ Tryd.underlying97 rfl (by rw [hd5]; exact infoNR) ?_) | (refine wpList_store_arr rfl 97 (.tmp 2) (.tmp 39) rfl (w.heap.size + 1) D rfl rfl hZ (by rw [hd5]; rfl) infoNR ?_; intro W5 hW5))
          exact bodyPost_ret (results_arr Tryd.results81 _ rfl hW5.arr _ Tryd.underlying97 rfl (by rw [hd5]; exact infoNR)) rfl ⟨by rw [HV.out.2, HR.out.2, HR.out.1], hW5.below _ _ (by omega) hnx⟩
        · have hd5 := dg_length 67108864 5 u
          have hdt := dg_length 67108864 5 t
          have hE := set0_val u (5 * (u / 67108864 ^ 5))
          rw [← ht] at hE
          have hEb : ∀ a ∈ (dg 67108864 5 u).set 0 ((dg 67108864 5 u).getD 0 0 + 5 * (u / 67108864 ^ 5)), a ≤ 4611686018427387904 := by
            have hg := getD_le (M := 67108864) (fun a ha => Nat.le_of_lt (dg_lt (by decide) 5 u a ha)) 0
            exact set_le (fun a ha => by have := dg_lt (B := 67108864) (by decide) 5 u a ha; omega) 0 _ (by omega)
          have hcr := carried_any _ (by rw [List.length_set]; exact hd5) hEb
          rw [hE] at hcr
          have hc := hD.cell 0 (by omega)
          have hf := hD.frozen 0
          have hg := getD_le (M := 67108864) (fun a ha => Nat.le_of_lt (dg_lt (by decide) 5 u a ha)) 0
          have HT : Hid (fin t = fin u ∧ t < u ∧ (uOf (w.heap.size + 1 + 1) (Value.int .u64 ((u / 67108864 ^ 5 : Nat) : Int)) wr) = u ∧ t / 67108864 ^ 5 ≤ 137438953472) := ⟨hfs, hst.2.1 hb, hU, hst.2.2⟩
          have HU : Hid (fin u = V) := hu1
          clear hfs hst hU ht hu1 hE hEb
          obtain ⟨E, hEe⟩ : ∃ E, dg 67108864 5 t = E := ⟨_, rfl⟩
          rw [hEe] at hcr hdt
          obtain ⟨tb, htb⟩ : ∃ tb, t / 67108864 ^ 5 = tb := ⟨_, rfl⟩
          rw [htb] at hcr
          obtain ⟨D, hDe⟩ : ∃ D, dg 67108864 5 u = D := ⟨_, rfl⟩
          rw [hDe] at hD hcr hd5 hg hc
          obtain ⟨b, hbe⟩ : ∃ b, u / 67108864 ^ 5 = b := ⟨_, rfl⟩
          rw [hbe] at hcr HT hu0 hb
          rw [hbe]
          have HE : Hid (dg 67108864 5 t = E ∧ t / 67108864 ^ 5 = tb) := ⟨hEe, htb⟩
          generalize D.getD 0 0 = x at *
          obtain ⟨b5, hb5⟩ : ∃ b5, b5 = 5 * b := ⟨_, rfl⟩
          obtain ⟨y, hy⟩ : ∃ y, y = x + b5 := ⟨_, rfl⟩
          rw [← hb5, ← hy] at hcr
          have e1 : 5 * (b : Int) = (b5 : Int) := by omega
          have e2 : (x : Int) + (b5 : Int) = (y : Int) := by omega
          have v1 : IntKind.u64.wrap (5 * (b : Int)) = (b5 : Int) := by rw [e1]; exact wrap64u b5 (by omega)
          have v2 : IntKind.u64.wrap ((x : Int) + (b5 : Int)) = (y : Int) := by rw [e2]; exact wrap64u y (by omega)
          have bn : ¬ (b : Int) = 0 := by omega
          have hls : (D.set 0 y).length = 5 := by rw [List.length_set]; exact hd5
          have hDs := hD.set 0 y
          have hZs := hZ.other (a := ⟨w.heap.size + 1 + 1, 0, none⟩) (by simp) (.int .u64 (y : Int))
          have hns := hnx.setCell (p := ⟨w.heap.size + 1 + 1, 0, none⟩) (by simp; omega) (.int .u64 (y : Int))
          obtain ⟨L, hL⟩ : ∃ L, D.set 0 y = L := ⟨_, rfl⟩
          rw [hL] at hDs hcr hls
          have hssz : (wr.setCell ⟨w.heap.size + 1 + 1, 0, none⟩ (.int .u64 (y : Int))).heap.size = wr.heap.size := by simp
          clear hDe hEe hbe htb hL hb5 hy hg hb e1 e2
          go_wp2_with (first | (refine wpList_load_arr rfl 97 (.tmp 3) rfl (w.heap.size + 1 + 1) rfl hDs _ Tryd.underlying97 rfl (by rw [hls]; exact infoNR) ?_) | (go_at_call 76; (with_reducible refine (hcr _).mono ?_); rintro e w5 ⟨rfl, hb5⟩) | (refine wpList_store_arr rfl 97 (.tmp 3) (.tmp 37) rfl (w.heap.size + 1 + 1) E rfl rfl (hDs.below hb5 (by rw [hssz]; exact hdl)) (by rw [hdt, hls]) (by rw [hls]; exact infoNR) ?_; intro W5 hW5))
          go_roundw
          case rel => exact ⟨t, HT.out.2.2.2, by rw [HT.out.1]; exact HU.out, by rw [HE.out.2], hW5.other _ _ _ (by omega) (hZs.below hb5 (by rw [hssz]; exact hzl)), by rw [HE.out.1]; exact hW5.arr, hW5.below _ _ (by omega) (hns.trans (hb5.mono (by rw [hssz]; exact sz)))⟩
          case measure =>
            show uOf (w.heap.size + 1 + 1) (Value.int .u64 ((tb : Nat) : Int)) W5 < uOf (w.heap.size + 1 + 1) (Value.int .u64 ((b : Nat) : Int)) wr
            rw [uOf_eq hW5.arr, ← HE.out.1, ← HE.out.2, val_dg, Nat.mul_comm, Nat.mod_add_div, HT.out.2.2.1]
            exact HT.out.2.1

set_option maxRecDepth 100000 in
set_option maxHeartbeats 1600000 in
theorem times_any (l m : List Nat) (hl : l.length = 5) (hm : m.length = 5) (bl : ∀ a ∈ l, a ≤ 134217728) (bm : ∀ a ∈ m, a ≤ 67108864) (w : World) :
    Calls Tryd.prog 77 #[.agg (wu l).toArray, .agg (wu m).toArray] w fun e w' => e = .returned (.agg (wu (dg 67108864 5 (mulv l m))).toArray) ∧ Below w.heap.size w w' := by
  have hL : Arr (((w.alloc (.cells (wu l).toArray 97)).alloc (.cells (wu m).toArray 97)).alloc (.cells (wu z5).toArray 97)) w.heap.size 97 l := ((Arr.new w 97 l).alloc _).alloc _
  have hM : Arr (((w.alloc (.cells (wu l).toArray 97)).alloc (.cells (wu m).toArray 97)).alloc (.cells (wu z5).toArray 97)) (w.heap.size + 1) 97 m := by
    have h := Arr.new (w.alloc (.cells (wu l).toArray 97)) 97 m
    rw [World.size_alloc] at h
    exact h.alloc _
  have hZ : Arr (((w.alloc (.cells (wu l).toArray 97)).alloc (.cells (wu m).toArray 97)).alloc (.cells (wu z5).toArray 97)) (w.heap.size + 1 + 1) 97 z5 := by
    have h := Arr.new ((w.alloc (.cells (wu l).toArray 97)).alloc (.cells (wu m).toArray 97)) 97 z5
    rw [World.size_alloc, World.size_alloc] at h
    exact h
  have hX : Below w.heap.size w (((w.alloc (.cells (wu l).toArray 97)).alloc (.cells (wu m).toArray 97)).alloc (.cells (wu z5).toArray 97)) := (((Below.refl _ _).alloc (Nat.le_refl _) _).alloc (by simp) _).alloc (by simp; omega) _
  have hXs : (((w.alloc (.cells (wu l).toArray 97)).alloc (.cells (wu m).toArray 97)).alloc (.cells (wu z5).toArray 97)).heap.size = w.heap.size + 3 := by simp
  go_enter Tryd.func77, Tryd.ntmps77
  go_wp2_with (refine wpList_load_arr rfl 97 (.tmp 2) rfl w.heap.size rfl (hL.alloc _) _ Tryd.underlying97 rfl (by rw [hl]; exact infoNR) ?_)
  go_loopw [11] (fun v wr => ∃ (i : Nat) (W : List Nat), i ≤ 5 ∧ v = .int .i64 i ∧ Hid (W = allW l m i) ∧ Conv l m W i 0 ∧ Arr wr (w.heap.size + 1) 97 m ∧ Arr wr (w.heap.size + 1 + 1) 97 z5 ∧ Arr wr (w.heap.size + 1 + 1 + 1) 113 W ∧ Below w.heap.size w wr) (fun v _ => 5 - (intOf v).toNat)
  case atStart =>
    refine ⟨0, z10, by omega, rfl, rfl, conv_start l m, hM.alloc _, hZ.alloc _, ?_, hX.alloc (by rw [hXs]; omega) _⟩
    have h := Arr.new (((w.alloc (.cells (wu l).toArray 97)).alloc (.cells (wu m).toArray 97)).alloc (.cells (wu z5).toArray 97)) 113 z10
    rw [hXs] at h
    exact h
  case round =>
    clear hL hM hZ hX hXs
    obtain ⟨i, W, hi5, rfl, HW, hC, hM, hZ, hW, hnx⟩ := hrel
    by_cases hlt : i < 5
    · have hd : decide ((i : Int) < 5) = true := by simp; omega
      have hix := idx5 l hl i hlt
      have bx := getD_le bl i
      obtain ⟨x, hx⟩ : ∃ x, l.getD i 0 = x := ⟨_, rfl⟩
      rw [hx] at hix bx
      have HX : Hid (l.getD i 0 = x) := hx
      clear hx
      go_wp2_with (refine wpList_load_arr rfl 97 (.tmp 3) rfl (w.heap.size + 1) rfl hM _ Tryd.underlying97 rfl (by rw [hm]; exact infoNR) ?_)
      go_loopw [16] (fun v wq => ∃ (k : Nat) (V : List Nat), k ≤ 5 ∧ v = .int .i64 k ∧ Hid (V = rowW l m W i k) ∧ Conv l m V i k ∧ Arr wq (w.heap.size + 1) 97 m ∧ Arr wq (w.heap.size + 1 + 1) 97 z5 ∧ Arr wq (w.heap.size + 1 + 1 + 1) 113 V ∧ Below w.heap.size w wq) (fun v _ => 5 - (intOf v).toNat)
      case atStart => exact ⟨0, W, by omega, rfl, rfl, hC, hM, hZ, hW, hnx⟩
      case round =>
        clear hC hM hZ hW hnx
        obtain ⟨k, V, hk5, rfl, HV, hC, hM, hZ, hV, hnx⟩ := hrel
        by_cases hk2 : k < 5
        · have hiy := idx5 m hm k hk2
          have hN := conv_step hC hlt hk2 hm bl bm
          have hVl := hC.length
          have hc := hV.cell (i + k) (by omega)
          have hf := hV.frozen (i + k)
          have bv := hC.bound _ (mem_getD V (i + k) (by omega))
          have by_ := getD_le bm k
          have bp := prod_le bx by_
          have HVN : Hid (V.set (i + k) (V.getD (i + k) 0 + l.getD i 0 * m.getD k 0) = rowW l m W i (k + 1)) := by
            show _ = _
            rw [HV.out]; rfl
          rw [HX.out] at hN HVN
          have bvv : V.getD (i + k) 0 ≤ 225179981368524800 := Nat.le_trans bv (Nat.mul_le_mul_right 9007199254740992 (show 5 * i + k ≤ 25 by omega))
          clear bv
          obtain ⟨p, hp⟩ : ∃ p, p = x * m.getD k 0 := ⟨_, rfl⟩
          rw [← hp] at hN bp HVN
          generalize m.getD k 0 = y at *
          generalize V.getD (i + k) 0 = z at *
          obtain ⟨q, hq⟩ : ∃ q, q = z + p := ⟨_, rfl⟩
          rw [← hq] at hN HVN
          have HN : Hid _ := hN
          clear hN hVl
          have n0 : ((i : Int) + (k : Int)).toNat = i + k := by omega
          have p0 : (0 : Int) ≤ (i : Int) + (k : Int) := by omega
          have p1 : (i : Int) + (k : Int) < 10 := by omega
          have bp2 : p ≤ 9007199254740992 := bp
          have e1 : (x : Int) * (y : Int) = (p : Int) := by rw [hp]; simp
          have e2 : (z : Int) + (p : Int) = (q : Int) := by omega
          have v2 : IntKind.u64.wrap ((x : Int) * (y : Int)) = (p : Int) := by rw [e1]; exact wrap64u p (by omega)
          have v3 : IntKind.u64.wrap ((z : Int) + (p : Int)) = (q : Int) := by rw [e2]; exact wrap64u q (by omega)
          clear bl bm e1 e2 hp hq bp bp2 bvv
          go_wp2
          go_roundw
          case rel => exact ⟨k + 1, _, by omega, by go_num, HVN, HN.out, hM.other (by simp) _, hZ.other (by simp) _, hV.set _ _, hnx.setCell (by simp; omega) _⟩
          case measure => simp [intOf]; omega
        · obtain rfl : k = 5 := by omega
          have hN := conv_row hC hlt hl hm
          have HWN : Hid (V = allW l m (i + 1)) := by
            show _ = _
            rw [HV.out, HW.out]; rfl
          clear bl bm
          go_wp2
          go_roundw
          case rel => exact ⟨i + 1, _, by omega, by go_num, HWN, hN, hM, hZ, hV, hnx⟩
          case measure => simp [intOf]; omega
    · obtain rfl : i = 5 := by omega
      have hWl := hC.length
      have hfo := folded_any W hWl (conv_bound hC)
      have HF : Hid (mulv l m = fin (val 67108864 (foldL W))) := by
        show _ = _
        rw [HW.out]; rfl
      have hdr := dg_length 67108864 5 (fin (val 67108864 (foldL W)))
      obtain ⟨D, hD⟩ : ∃ D, dg 67108864 5 (fin (val 67108864 (foldL W))) = D := ⟨_, rfl⟩
      rw [hD] at hfo hdr
      have HD : Hid (dg 67108864 5 (mulv l m) = D) := by
        show _ = _
        rw [HF.out]; exact hD
      clear hD HF
      have sz := hnx.size
      have hzl := hZ.lt
      go_wp2_with (first | (refine wpList_load_arr rfl 113 (.tmp 5) rfl (w.heap.size + 1 + 1 + 1) rfl hW _ Tryd.underlying113 rfl (by rw [hWl]; exact infoWIDE) ?_) | (go_at_call 81; (with_reducible refine (hfo _).mono ?_); rintro e w5 ⟨rfl, hb5⟩) | (refine wpList_store_arr rfl 97 (.tmp 4) (.tmp 33) rfl (w.heap.size + 1 + 1) D rfl rfl (hZ.below hb5 hzl) (by rw [hdr]; rfl) infoNR ?_; intro W5 hW5))
      exact bodyPost_ret (results_arr Tryd.results77 _ rfl hW5.arr _ Tryd.underlying97 rfl (by rw [hdr]; exact infoNR)) rfl ⟨by rw [HD.out], hW5.below _ _ (by omega) (hnx.trans (hb5.mono sz))⟩

set_option maxRecDepth 100000 in
set_option maxHeartbeats 800000 in
theorem lowered_any (u : Nat) (hu : u < 67108864 ^ 5) (w : World) :
    Calls Tryd.prog 78 #[.agg (wu (dg 67108864 5 u)).toArray] w fun e w' => e = .returned (.agg (wu (dg 67108864 5 (u % P))).toArray) ∧ Below w.heap.size w w' := by
  have hlow := low_eq u hu
  have hd := dg_length 67108864 5 u
  have hDb : ∀ a ∈ dg 67108864 5 u, a ≤ 4611686018427387904 := fun a ha => by have := dg_lt (B := 67108864) (by decide) 5 u a ha; omega
  have f1 := plus_any (dg 67108864 5 u) [5, 0, 0, 0, 0] hd rfl hDb (by decide)
  have hpl := plusL_length (dg 67108864 5 u) [5, 0, 0, 0, 0] (by rw [hd]; rfl)
  have f2 := carried_any (plusL (dg 67108864 5 u) [5, 0, 0, 0, 0]) (by rw [hpl]; exact hd) (fun a ha => by
    have := plusL_le (M := 67108864) (K := 5) (by rw [hd]; rfl) (fun a ha => Nat.le_of_lt (dg_lt (by decide) 5 u a ha)) (by decide) a ha
    omega)
  have hv : val 67108864 (plusL (dg 67108864 5 u) [5, 0, 0, 0, 0]) = u + 5 := by
    rw [val_plus _ _ _ (by rw [hd]; rfl), val_dg, Nat.mod_eq_of_lt hu]
    rfl
  rw [hv] at f2
  have hd2 := dg_length 67108864 5 (u + 5)
  obtain ⟨L, hL⟩ : ∃ L, plusL (dg 67108864 5 u) [5, 0, 0, 0, 0] = L := ⟨_, rfl⟩
  rw [hL] at f1 f2
  obtain ⟨D, hDe⟩ : ∃ D, dg 67108864 5 u = D := ⟨_, rfl⟩
  rw [hDe] at f1 hd
  obtain ⟨E, hEe⟩ : ∃ E, dg 67108864 5 (u + 5) = E := ⟨_, rfl⟩
  rw [hEe] at f2 hd2
  have HE : Hid (dg 67108864 5 ((u + 5) % 67108864 ^ 5) = E) := by
    show _ = _
    rw [dg_mod (by decide) _ _ _ (Nat.le_refl _)]
    exact hEe
  obtain ⟨c, hc⟩ : ∃ c, (u + 5) / 67108864 ^ 5 = c := ⟨_, rfl⟩
  rw [hc] at f2 hlow
  have HL : Hid ((c = 0 → u % P = u) ∧ (c ≠ 0 → u % P = (u + 5) % 67108864 ^ 5)) := hlow
  have HD : Hid (dg 67108864 5 u = D) := hDe
  have hN0 : Arr ((w.alloc (.cells (wu D).toArray 97)).alloc (.cells (wu z5).toArray 97)) w.heap.size 97 D := (Arr.new w 97 D).alloc _
  have hZ0 : Arr ((w.alloc (.cells (wu D).toArray 97)).alloc (.cells (wu z5).toArray 97)) (w.heap.size + 1) 97 z5 := by
    have h := Arr.new (w.alloc (.cells (wu D).toArray 97)) 97 z5
    rw [World.size_alloc] at h
    exact h
  have hX0 : Below w.heap.size w ((w.alloc (.cells (wu D).toArray 97)).alloc (.cells (wu z5).toArray 97)) := ((Below.refl _ _).alloc (Nat.le_refl _) _).alloc (by simp) _
  have hs0 : ((w.alloc (.cells (wu D).toArray 97)).alloc (.cells (wu z5).toArray 97)).heap.size = w.heap.size + 1 + 1 := by simp
  rw [hDe]
  clear hv hpl hDb hL hDe hEe hc hlow
  go_enter Tryd.func78, Tryd.ntmps78
  go_wp2_with (refine wpList_load_arr rfl 97 (.tmp 1) rfl w.heap.size rfl hN0 _ Tryd.underlying97 rfl (by rw [hd]; exact infoNR) ?_)
  refine (f1 _).mono ?_
  rintro e w1 ⟨rfl, hb1⟩
  go_wp2_with fail
  refine (f2 _).mono ?_
  rintro e w2 ⟨rfl, hb2⟩
  have hb : Below (w.heap.size + 1 + 1) ((w.alloc (.cells (wu D).toArray 97)).alloc (.cells (wu z5).toArray 97)) w2 := by
    have hb1 : Below ((w.alloc (.cells (wu D).toArray 97)).alloc (.cells (wu z5).toArray 97)).heap.size ((w.alloc (.cells (wu D).toArray 97)).alloc (.cells (wu z5).toArray 97)) w1 := hb1
    rw [hs0] at hb1
    exact hb1.trans (hb2.mono (by have := hb1.size; rw [hs0] at this; exact this))
  have hN2 := hN0.below hb (by omega)
  have hZ2 := hZ0.below hb (by omega)
  have hX2 := hX0.trans (hb.mono (by omega))
  have hs2 := hb.size
  rw [hs0] at hs2
  clear hb hb1 hb2 hN0 hZ0 hX0 hs0 f1 f2
  have hN3 := hN2.alloc (.cells (wu z5).toArray 97)
  have hZ3 := hZ2.alloc (.cells (wu z5).toArray 97)
  have hX3 := hX2.alloc (show w.heap.size ≤ w2.heap.size by omega) (.cells (wu z5).toArray 97)
  have hM3 := Arr.new w2 97 z5
  by_cases hc0 : c = 0
  · have HU : Hid (u % P = u) := HL.out.1 hc0
    clear HL
    subst hc0
    go_wp2_with (first | (refine wpList_store_arr rfl 97 (.tmp 3) (.tmp 10) rfl w2.heap.size E rfl rfl hM3 (by rw [hd2]; rfl) infoNR ?_; intro W5 hW5) | (refine wpList_load_arr rfl 97 (.tmp 1) rfl w.heap.size rfl (hW5.other _ _ _ (by omega) hN3) _ Tryd.underlying97 rfl (by rw [hd]; exact infoNR) ?_) | (refine wpList_store_arr rfl 97 (.tmp 2) (.tmp 14) rfl (w.heap.size + 1) D rfl rfl (hW5.other _ _ _ (by omega) hZ3) (by rw [hd]; rfl) infoNR ?_; intro W6 hW6))
    exact bodyPost_ret (results_arr Tryd.results78 _ rfl hW6.arr _ Tryd.underlying97 rfl (by rw [hd]; exact infoNR)) rfl ⟨by rw [HU.out, HD.out], hW6.below _ _ (by omega) (hW5.below _ _ (by omega) hX3)⟩
  · have bn : ¬ (c : Int) = 0 := by omega
    go_wp2_with (first | (refine wpList_store_arr rfl 97 (.tmp 3) (.tmp 10) rfl w2.heap.size E rfl rfl hM3 (by rw [hd2]; rfl) infoNR ?_; intro W5 hW5) | (refine wpList_load_arr rfl 97 (.tmp 3) rfl w2.heap.size rfl hW5.arr _ Tryd.underlying97 rfl (by rw [hd2]; exact infoNR) ?_) | (refine wpList_store_arr rfl 97 (.tmp 2) (.tmp 15) rfl (w.heap.size + 1) E rfl rfl (hW5.other _ _ _ (by omega) hZ3) (by rw [hd2]; rfl) infoNR ?_; intro W6 hW6))
    exact bodyPost_ret (results_arr Tryd.results78 _ rfl hW6.arr _ Tryd.underlying97 rfl (by rw [hd2]; exact infoNR)) rfl ⟨by rw [HL.out.2 hc0, HE.out], hW6.below _ _ (by omega) (hW5.below _ _ (by omega) hX3)⟩
end Go.Proofs.YtmbckgfpkmnlnabDoor.pol
