/-
  THE WALK OF the document's own product of numbers of sixteen pieces.
-/
import Derived.Test.YtdpokjhoedhadaaDoorRefNum
namespace Go.Proofs.YtdpokjhoedhadaaDoor.num
open Go.RowKit

def zeros32 : List Int := List.replicate 32 0

theorem info64 : (Tryd.prog.info? 2).map (fun i => (i.zero, i.size, i.bytes)) = some (some (.int .i64 0), 1, 8) := by kernel_rfl

set_option maxRecDepth 100000 in
set_option maxHeartbeats 1600000 in
theorem times_list (l m : List Int) (hl : l.length = 16) (hm : m.length = 16) (bl : ∀ a ∈ l, 0 ≤ a ∧ a ≤ 65535) (bm : ∀ a ∈ m, 0 ≤ a ∧ a ≤ 65535) (w : World) :
    Calls Tryd.prog 24 #[.agg (ints l), .agg (ints m)] w fun e w' => (∃ v : Int, 0 ≤ v ∧ v < 115792089237316195423570985008687907853269984665640564039457584007913129639936 ∧ v % P = (val l * val m) % P ∧ e = .returned (.agg (ints (dg 16 v)))) ∧ Below w.heap.size w w' := by
  have hi : (Tryd.prog.info? 37).map (·.size) = some 16 := by kernel_rfl
  obtain ⟨j0, hj, _, hj1, _⟩ := info_parts info64
  have hL : Arr (((w.alloc (.cells (ints l) 37)).alloc (.cells (ints m) 37)).alloc (.cells (ints zeros) 37)) w.heap.size 37 l := ((Arr.new w 37 l).alloc _).alloc _
  have hM : Arr (((w.alloc (.cells (ints l) 37)).alloc (.cells (ints m) 37)).alloc (.cells (ints zeros) 37)) (w.heap.size + 1) 37 m := by
    have h := Arr.new (w.alloc (.cells (ints l) 37)) 37 m
    rw [World.size_alloc] at h
    exact h.alloc _
  have hZ : Arr (((w.alloc (.cells (ints l) 37)).alloc (.cells (ints m) 37)).alloc (.cells (ints zeros) 37)) (w.heap.size + 1 + 1) 37 zeros := by
    have h := Arr.new ((w.alloc (.cells (ints l) 37)).alloc (.cells (ints m) 37)) 37 zeros
    rw [World.size_alloc, World.size_alloc] at h
    exact h
  have hX : Below w.heap.size w (((w.alloc (.cells (ints l) 37)).alloc (.cells (ints m) 37)).alloc (.cells (ints zeros) 37)) := (((Below.refl _ _).alloc (Nat.le_refl _) _).alloc (by simp) _).alloc (by simp; omega) _
  have hXs : (((w.alloc (.cells (ints l) 37)).alloc (.cells (ints m) 37)).alloc (.cells (ints zeros) 37)).heap.size = w.heap.size + 3 := by simp
  go_enter Tryd.func24, Tryd.ntmps24
  go_wp2_with (refine wpList_load_arr rfl 37 (.tmp 2) rfl w.heap.size rfl l _ (hL.alloc _) Tryd.underlying37 rfl (by rw [hl]; exact hi) ?_)
  go_loopw [13] (fun v wr => ∃ (i : Nat) (W : List Int), i ≤ 16 ∧ v = .int .i64 i ∧ Conv l m W i 0 ∧ Arr wr (w.heap.size + 1) 37 m ∧ Arr wr (w.heap.size + 1 + 1) 37 zeros ∧ Arr wr (w.heap.size + 1 + 1 + 1) 54 W ∧ Below w.heap.size w wr) (fun v _ => 16 - (intOf v).toNat)
  case atStart =>
    refine ⟨0, zeros32, by omega, rfl, conv_start l m, hM.alloc _, hZ.alloc _, ?_, hX.alloc (by rw [hXs]; omega) _⟩
    have h := Arr.new (((w.alloc (.cells (ints l) 37)).alloc (.cells (ints m) 37)).alloc (.cells (ints zeros) 37)) 54 zeros32
    rw [hXs] at h
    exact h
  case round =>
    clear hL hM hZ hX hXs
    obtain ⟨i, W, hi16, rfl, hC, hM, hZ, hW, hnx⟩ := hrel
    by_cases hlt : i < 16
    · have hd : decide ((i : Int) < 16) = true := by simp; omega
      have hix : ∀ u : World, (Instr.index 37 (.agg (ints l)) (.int .i64 (i : Int))).run Tryd.prog u = .ok (.int .i64 (l.getD i 0)) u := run_index_ints Tryd.underlying37 Tryd.underlying2 hj hj1 l i hlt (by omega)
      have bx := bl _ (mem_getD l i (by omega))
      obtain ⟨bx0, bx1⟩ := bx
      obtain ⟨x, hx⟩ : ∃ x, l.getD i 0 = x := ⟨_, rfl⟩
      rw [hx] at hix bx0 bx1
      have HX : Hid (l.getD i 0 = x) := hx
      clear hx
      go_wp2_with (refine wpList_load_arr rfl 37 (.tmp 3) rfl (w.heap.size + 1) rfl m _ hM Tryd.underlying37 rfl (by rw [hm]; exact hi) ?_)
      go_loopw [18] (fun v wq => ∃ (k : Nat) (W : List Int), k ≤ 16 ∧ v = .int .i64 k ∧ Conv l m W i k ∧ Arr wq (w.heap.size + 1) 37 m ∧ Arr wq (w.heap.size + 1 + 1) 37 zeros ∧ Arr wq (w.heap.size + 1 + 1 + 1) 54 W ∧ Below w.heap.size w wq) (fun v _ => 16 - (intOf v).toNat)
      case atStart => exact ⟨0, W, by omega, rfl, hC, hM, hZ, hW, hnx⟩
      case round =>
        clear hC hM hZ hW hnx
        obtain ⟨k, V, hk16, rfl, hC, hM, hZ, hV, hnx⟩ := hrel
        by_cases hk2 : k < 16
        · have hiy : ∀ u : World, (Instr.index 37 (.agg (ints m)) (.int .i64 (k : Int))).run Tryd.prog u = .ok (.int .i64 (m.getD k 0)) u := run_index_ints Tryd.underlying37 Tryd.underlying2 hj hj1 m k hk2 (by omega)
          have hN := conv_step hC hlt hk2 hl hm bl bm
          have hVl := hC.length
          have hc := hV.cell (i + k) (by omega)
          have hf := hV.frozen (i + k)
          have bv := hC.bound _ (mem_getD V (i + k) (by omega))
          have by_ := bm _ (mem_getD m k (by omega))
          have bp := prod_bd _ _ bx0 bx1 by_.1 by_.2
          rw [HX.out] at hN
          have HN : Hid (Conv l m (V.set (i + k) (V.getD (i + k) 0 + x * m.getD k 0)) i (k + 1)) := hN
          clear hN hVl
          generalize m.getD k 0 = y at *
          generalize V.getD (i + k) 0 = z at *
          obtain ⟨bv0, bv1⟩ := bv
          obtain ⟨bp0, bp1⟩ := bp
          have bv2 : z ≤ 1099478073600 := by omega
          have n0 : ((i : Int) + (k : Int)).toNat = i + k := by omega
          have p0 : (0 : Int) ≤ (i : Int) + (k : Int) := by omega
          have p1 : (i : Int) + (k : Int) < 32 := by omega
          have v2 : IntKind.i64.wrap (x * y) = x * y := IntWalk.i64_in _ ⟨by omega, by omega⟩
          have v3 : IntKind.i64.wrap (z + x * y) = z + x * y := IntWalk.i64_in _ ⟨by omega, by omega⟩
          clear bl bm bv1
          go_wp2
          go_roundw
          case rel => exact ⟨k + 1, _, by omega, by go_num, HN.out, hM.other (by simp) _, hZ.other (by simp) _, hV.set _ _, hnx.setCell (by simp; omega) _⟩
          case measure => simp [intOf]; omega
        · obtain rfl : k = 16 := by omega
          go_wp2
          go_roundw
          case rel => exact ⟨i + 1, V, by omega, by go_num, conv_row hC hlt hl hm, hM, hZ, hV, hnx⟩
          case measure => simp [intOf]; omega
    · obtain rfl : i = 16 := by omega
      have hF := fold_times hC hl
      have hWl := hC.length
      have hWb := hC.bound
      have sz := hnx.size
      have hzl := hZ.lt
      have hwl := hW.lt
      have hN0 := Arr.new wr 37 zeros
      have hnx0 := hnx.alloc sz (.cells (ints zeros) 37)
      go_wp2
      obtain ⟨g, hg⟩ : ∃ g, g = wr.heap.size := ⟨_, rfl⟩
      rw [← hg]
      rw [← hg] at hN0 hwl hzl sz
      clear hg
      go_loopw [34] (fun v wq => ∃ k : Nat, k ≤ 16 ∧ v = .int .i64 k ∧ Arr wq g 37 ((foldL W).take k ++ zeros.drop k) ∧ Arr wq (w.heap.size + 1 + 1) 37 zeros ∧ Arr wq (w.heap.size + 1 + 1 + 1) 54 W ∧ Below w.heap.size w wq) (fun v _ => 16 - (intOf v).toNat)
      case atStart => exact ⟨0, by omega, rfl, hN0, hZ.alloc _, hW.alloc _, hnx0⟩
      case round =>
        obtain ⟨k, hk, rfl, hA, hZ2, hW2, hnx2⟩ := hrel
        obtain ⟨hF1, hF2, hF3⟩ := hF
        by_cases hk2 : k < 16
        · have HST := fill_step (foldL W) zeros k (by omega) (by rw [hF2]; rfl)
          rw [foldL_get W k hWl hk2] at HST
          have HS : Hid (((foldL W).take k ++ zeros.drop k).set k (W.getD k 0 + 38 * W.getD (k + 16) 0) = (foldL W).take (k + 1) ++ zeros.drop (k + 1)) := HST
          clear HST
          have hlen : ((foldL W).take k ++ zeros.drop k).length = 16 := by
            have hz : zeros.length = 16 := rfl
            rw [List.length_append, List.length_take, List.length_drop, hz]; omega
          have hc := hA.cell k (by omega)
          have hf := hA.frozen k
          have hc1 := hW2.cell k (by omega)
          have hc2 := hW2.cell (k + 16) (by omega)
          have bd1 := hWb _ (mem_getD W k (by omega))
          have bd2 := hWb _ (mem_getD W (k + 16) (by omega))
          generalize ((foldL W).take k ++ zeros.drop k).getD k 0 = old at *
          generalize W.getD k 0 = x at *
          generalize W.getD (k + 16) 0 = y at *
          obtain ⟨x0, x1⟩ := bd1
          obtain ⟨y0, y1⟩ := bd2
          have x2 : x ≤ 1099478073600 := by omega
          have y2 : y ≤ 1099478073600 := by omega
          clear x1 y1 hlen hWb bl bm hF1 hF3
          have kz : (k : Int) < 16 := by omega
          have k0 : (0 : Int) ≤ (k : Int) := by omega
          have k1 : (k : Int) < 32 := by omega
          have k2 : (k : Int) + 16 < 32 := by omega
          have k3 : (0 : Int) ≤ (k : Int) + 16 := by omega
          have n0 : ((k : Int) + 16).toNat = k + 16 := by omega
          have v1 : IntKind.i64.wrap ((k : Int) + 16) = (k : Int) + 16 := IntWalk.i64_in _ ⟨by omega, by omega⟩
          have v2 : IntKind.i64.wrap (38 * y) = 38 * y := IntWalk.i64_in _ ⟨by omega, by omega⟩
          have v3 : IntKind.i64.wrap (x + 38 * y) = x + 38 * y := IntWalk.i64_in _ ⟨by omega, by omega⟩
          have HL : Hid (l.length = 16 ∧ m.length = 16 ∧ W.length = 32 ∧ (foldL W).length = 16) := ⟨hl, hm, hWl, hF2⟩
          clear hl hm hWl hF2
          go_wp2
          go_region
          all_goals
            go_wp2
            go_roundw
            case rel => exact ⟨k + 1, by omega, by go_num, by rw [← HS.out]; exact (hA.set k _).drew, (hZ2.other (by simp; omega) _).drew, (hW2.other (by simp; omega) _).drew, (hnx2.setCell (by simp; omega) _).drew⟩
            case measure => simp [intOf]; omega
        · obtain rfl : k = 16 := by omega
          have e : (foldL W).take 16 ++ zeros.drop 16 = foldL W := by
            rw [List.take_of_length_le (by omega), List.drop_of_length_le (by show 16 ≤ 16; omega), List.append_nil]
          rw [e] at hA
          clear e
          have hE := carried_eq (foldL W) hF2 hF3
          have HM : Hid (cv (val (foldL W)) % P = (val l * val m) % P) := by rw [← hF1]; exact cv_mod _
          have HB : Hid (0 ≤ cv (val (foldL W)) ∧ cv (val (foldL W)) < 115792089237316195423570985008687907853269984665640564039457584007913129639936) := hE.2
          clear hE hF1 hC hWb
          have sz2 := hnx2.size
          have hzl2 := hZ2.lt
          generalize foldL W = L at *
          go_wp2_with (first | (refine wpList_load_arr rfl 37 (.tmp 10) rfl g rfl L _ hA Tryd.underlying37 rfl (by rw [hF2]; exact hi) ?_) | (go_at_call 36; refine (carried_any L hF2 hF3 _).mono ?_; rintro e w5 ⟨rfl, hb5⟩) | (refine wpList_store_arr rfl 37 (.tmp 4) (.tmp 50) rfl (w.heap.size + 1 + 1) _ rfl rfl zeros (hZ2.below hb5 hzl2) (by rw [dg_length]; rfl) hi ?_; intro W5 hW5))
          exact bodyPost_ret (results_arr Tryd.results24 _ rfl hW5.arr _ Tryd.underlying37 rfl (by rw [dg_length]; exact hi)) rfl ⟨⟨_, HB.out.1, HB.out.2, HM.out, rfl⟩, hW5.below _ _ (by omega) (hnx2.trans (hb5.mono sz2))⟩
end Go.Proofs.YtdpokjhoedhadaaDoor.num
