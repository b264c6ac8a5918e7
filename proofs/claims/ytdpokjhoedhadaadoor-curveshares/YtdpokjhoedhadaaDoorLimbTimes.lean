/-
  THE WALK OF package elem's numbers: times.
-/
import Derived.Test.YtdpokjhoedhadaaDoorLimbFolded
namespace Go.Proofs.YtdpokjhoedhadaaDoor.limb
open Go.RowKit
open Go.Proofs.YtdpokjhoedhadaaDoor.num (P N nB nB_bd mem_getD)

def zeros16 : List Int := List.replicate 16 0

set_option maxRecDepth 100000 in
set_option maxHeartbeats 1600000 in
theorem times_list (l m : List Int) (hl : l.length = 8) (hm : m.length = 8) (bl : ok l) (bm : ok m) (w : World) :
    Calls Tryd.prog 62 #[.agg (ints l), .agg (ints m)] w fun e w' => e = .returned (.agg (ints (dg 8 ((val l * val m) % P)))) ∧ Below w.heap.size w w' := by
  have hL : Arr (((w.alloc (.cells (ints l) 59)).alloc (.cells (ints m) 59)).alloc (.cells (ints zeros) 59)) w.heap.size 59 l := ((Arr.new w 59 l).alloc _).alloc _
  have hM : Arr (((w.alloc (.cells (ints l) 59)).alloc (.cells (ints m) 59)).alloc (.cells (ints zeros) 59)) (w.heap.size + 1) 59 m := by
    have h := Arr.new (w.alloc (.cells (ints l) 59)) 59 m
    rw [World.size_alloc] at h
    exact h.alloc _
  have hZ : Arr (((w.alloc (.cells (ints l) 59)).alloc (.cells (ints m) 59)).alloc (.cells (ints zeros) 59)) (w.heap.size + 1 + 1) 59 zeros := by
    have h := Arr.new ((w.alloc (.cells (ints l) 59)).alloc (.cells (ints m) 59)) 59 zeros
    rw [World.size_alloc, World.size_alloc] at h
    exact h
  have hX : Below w.heap.size w (((w.alloc (.cells (ints l) 59)).alloc (.cells (ints m) 59)).alloc (.cells (ints zeros) 59)) := (((Below.refl _ _).alloc (Nat.le_refl _) _).alloc (by simp) _).alloc (by simp; omega) _
  have hXs : (((w.alloc (.cells (ints l) 59)).alloc (.cells (ints m) 59)).alloc (.cells (ints zeros) 59)).heap.size = w.heap.size + 3 := by simp
  go_enter Tryd.func62, Tryd.ntmps62
  go_wp2_with (refine wpList_load_arr rfl 59 (.tmp 2) rfl w.heap.size rfl l _ (hL.alloc _) Tryd.underlying59 rfl (by rw [hl]; exact infoNR) ?_)
  go_loopw [12] (fun v wr => ∃ (i : Nat) (W : List Int), i ≤ 8 ∧ v = .int .i64 i ∧ Conv l m W i 0 0 ∧ Arr wr (w.heap.size + 1) 59 m ∧ Arr wr (w.heap.size + 1 + 1) 59 zeros ∧ Arr wr (w.heap.size + 1 + 1 + 1) 84 W ∧ Below w.heap.size w wr) (fun v _ => 8 - (intOf v).toNat)
  case atStart =>
    refine ⟨0, zeros16, by omega, rfl, conv_start l m, hM.alloc _, hZ.alloc _, ?_, hX.alloc (by rw [hXs]; omega) _⟩
    have h := Arr.new (((w.alloc (.cells (ints l) 59)).alloc (.cells (ints m) 59)).alloc (.cells (ints zeros) 59)) 84 zeros16
    rw [hXs] at h
    exact h
  case round =>
    clear hL hM hZ hX hXs
    obtain ⟨i, W, hi16, rfl, hC, hM, hZ, hW, hnx⟩ := hrel
    by_cases hlt : i < 8
    · have hd : decide ((i : Int) < 8) = true := by simp; omega
      have hix := idx l hl i hlt
      have bx := ok_get bl i
      obtain ⟨bx0, bx1⟩ := bx
      obtain ⟨x, hx⟩ : ∃ x, l.getD i 0 = x := ⟨_, rfl⟩
      rw [hx] at hix bx0 bx1
      have HX : Hid (l.getD i 0 = x) := hx
      clear hx
      go_wp2_with (refine wpList_load_arr rfl 59 (.tmp 3) rfl (w.heap.size + 1) rfl m _ hM Tryd.underlying59 rfl (by rw [hm]; exact infoNR) ?_)
      go_loopw [17, 8] (fun v c wq => ∃ (k : Nat) (W : List Int) (cc : Int), k ≤ 8 ∧ v = .int .i64 k ∧ c = .int .u64 cc ∧ Conv l m W i k cc ∧ Arr wq (w.heap.size + 1) 59 m ∧ Arr wq (w.heap.size + 1 + 1) 59 zeros ∧ Arr wq (w.heap.size + 1 + 1 + 1) 84 W ∧ Below w.heap.size w wq) (fun v _ _ => 8 - (intOf v).toNat)
      case atStart => exact ⟨0, W, 0, by omega, rfl, rfl, hC, hM, hZ, hW, hnx⟩
      case round =>
        clear hC hM hZ hW hnx
        obtain ⟨k, V, c, hk16, rfl, rfl, hC, hM, hZ, hV, hnx⟩ := hrel
        have bc := hC.carry
        by_cases hk2 : k < 8
        · have hiy := idx m hm k hk2
          have hN := conv_step hC hlt hk2 hm bl bm
          have hVl := hC.length
          have hc := hV.cell (i + k) (by omega)
          have hf := hV.frozen (i + k)
          have bv := ok_get hC.ok (i + k)
          have by_ := ok_get bm k
          have bp := prod_bd _ _ bx0 bx1 by_.1 by_.2
          rw [HX.out] at hN
          have HN : Hid _ := hN
          clear hN hVl
          generalize m.getD k 0 = y at *
          generalize V.getD (i + k) 0 = z at *
          obtain ⟨bv0, bv1⟩ := bv
          obtain ⟨bp0, bp1⟩ := bp
          obtain ⟨by0, by1⟩ := by_
          obtain ⟨bc0, bc1⟩ := bc
          have n0 : ((i : Int) + (k : Int)).toNat = i + k := by omega
          have p0 : (0 : Int) ≤ (i : Int) + (k : Int) := by omega
          have p1 : (i : Int) + (k : Int) < 16 := by omega
          have v2 : IntKind.u64.wrap (x * y) = x * y := IntWalk.u64_in _ ⟨by omega, by omega⟩
          have v3 : IntKind.u64.wrap (x * y + z) = x * y + z := IntWalk.u64_in _ ⟨by omega, by omega⟩
          have v4 : IntKind.u64.wrap (c + (x * y + z)) = c + (x * y + z) := IntWalk.u64_in _ ⟨by omega, by omega⟩
          clear bl bm
          go_wp2
          go_roundw
          case rel => exact ⟨k + 1, _, _, by omega, by go_num, rfl, HN.out, hM.other (by simp) _, hZ.other (by simp) _, hV.set _ _, hnx.setCell (by simp; omega) _⟩
          case measure => simp [intOf]; omega
        · obtain rfl : k = 8 := by omega
          have hN := conv_row hC hlt hl hm
          have hVl := hC.length
          have hc := hV.cell (i + 8) (by omega)
          have hf := hV.frozen (i + 8)
          obtain ⟨bc0, bc1⟩ := bc
          have n0 : ((i : Int) + 8).toNat = i + 8 := by omega
          have p0 : (0 : Int) ≤ (i : Int) + 8 := by omega
          have p1 : (i : Int) + 8 < 16 := by omega
          clear bl bm
          go_wp2
          go_roundw
          case rel => exact ⟨i + 1, _, by omega, by go_num, hN, hM.other (by simp) _, hZ.other (by simp) _, hV.set _ _, hnx.setCell (by simp; omega) _⟩
          case measure => simp [intOf]; omega
    · obtain rfl : i = 8 := by omega
      have hWl := hC.length
      have hfo := folded_any W hWl hC.ok
      rw [conv_end hC hl] at hfo
      have hdr := dg_length 8 ((val l * val m) % P)
      obtain ⟨R, hR⟩ : ∃ R, dg 8 ((val l * val m) % P) = R := ⟨_, rfl⟩
      rw [hR] at hfo hdr
      have HR : Hid (dg 8 ((val l * val m) % P) = R) := hR
      clear hR
      have sz := hnx.size
      have hzl := hZ.lt
      go_wp2_with (first | (refine wpList_load_arr rfl 84 (.tmp 5) rfl (w.heap.size + 1 + 1 + 1) rfl W _ hW Tryd.underlying84 rfl (by rw [hWl]; exact infoWIDE) ?_) | (go_at_call 74; refine (hfo _).mono ?_; rintro e w5 ⟨rfl, hb5⟩) | (refine wpList_store_arr rfl 59 (.tmp 4) (.tmp 51) rfl (w.heap.size + 1 + 1) R rfl rfl zeros (hZ.below hb5 hzl) (by rw [hdr]; rfl) infoNR ?_; intro W5 hW5))
      exact bodyPost_ret (results_arr Tryd.results62 _ rfl hW5.arr _ Tryd.underlying59 rfl (by rw [hdr]; exact infoNR)) rfl ⟨by rw [HR.out], hW5.below _ _ (by omega) (hnx.trans (hb5.mono sz))⟩
/-- A product, modulo P. -/
theorem times_any (u v : Int) (u0 : 0 ≤ u) (u1 : u < 115792089237316195423570985008687907853269984665640564039457584007913129639936) (v0 : 0 ≤ v) (v1 : v < 115792089237316195423570985008687907853269984665640564039457584007913129639936) (w : World) :
    Calls Tryd.prog 62 #[.agg (ints (dg 8 u)), .agg (ints (dg 8 v))] w fun e w' => e = .returned (.agg (ints (dg 8 ((u * v) % P)))) ∧ Below w.heap.size w w' := by
  have h := times_list (dg 8 u) (dg 8 v) (dg_length _ _) (dg_length _ _) (dg_ok _ _) (dg_ok _ _) w
  rw [val_dg8 u u0 u1, val_dg8 v v0 v1] at h
  exact h
end Go.Proofs.YtdpokjhoedhadaaDoor.limb
