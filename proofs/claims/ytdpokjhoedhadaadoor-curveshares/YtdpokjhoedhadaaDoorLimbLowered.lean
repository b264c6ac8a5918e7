/-
  THE WALK OF package elem's numbers: lowered.
-/
import Derived.Test.YtdpokjhoedhadaaDoorLimbRaised
import Derived.Laws.BitsAllLaws
namespace Go.Proofs.YtdpokjhoedhadaaDoor.limb
open Go.RowKit
open Go.Proofs.YtdpokjhoedhadaaDoor.num (P N nB nB_bd mem_getD)

theorem wraps_u32 (n : Int) (h0 : 0 ≤ n) (h1 : n < 2 ^ 32) : IntKind.u32.wrap n = n := by rw [IntKind.wrap_u32]; omega
theorem mask31 (x : Int) (h0 : 0 ≤ x) (h1 : x < 4294967296) : bits .and .u32 x 2147483647 = x % 2147483648 := bits_mask .u32 32 (by decide) wraps_u32 31 (by decide) x h0 h1

theorem ints_set (l : List Int) (k : Nat) (x : Int) : (ints l).setIfInBounds k (.int .u32 x) = ints (l.set k x) := by
  apply Array.ext'
  simp [ints, List.map_set]

set_option maxRecDepth 100000 in
set_option maxHeartbeats 800000 in
theorem lowered_list (D D1 D2 D3 D4 : List Int) (T T2 top c2 c3 : Int) (b : Bool) (hD : D.length = 8) (hD1 : D1 = D.set 7 (T % 2147483648)) (hD2 : D2.length = 8) (hD3 : D3.length = 8) (hD4 : D4 = D3.set 7 (T2 % 2147483648)) (hT : D.getD 7 0 = T) (hT2 : D3.getD 7 0 = T2)
    (t0 : 0 ≤ T) (t1 : T < 4294967296) (s0 : 0 ≤ T2) (s1 : T2 < 4294967296) (htop : T / 2147483648 = top) (hb : (T2 / 2147483648 == 0) = b)
    (hr1 : ∀ w, Calls Tryd.prog 77 #[.agg (ints D1), .int .u32 (19 * top)] w fun e w' => e = .returned (.tuple #[.agg (ints D2), .int .u32 c2]) ∧ Below w.heap.size w w')
    (hr2 : ∀ w, Calls Tryd.prog 77 #[.agg (ints D2), .int .u32 19] w fun e w' => e = .returned (.tuple #[.agg (ints D3), .int .u32 c3]) ∧ Below w.heap.size w w') (w : World) :
    Calls Tryd.prog 70 #[.agg (ints D)] w fun e w' => e = .returned (.agg (ints (if b then D2 else D4))) ∧ Below w.heap.size w w' := by
  have hL : Arr ((w.alloc (.cells (ints D) 59)).alloc (.cells #[.int .u32 0, .int .u32 0, .int .u32 0, .int .u32 0, .int .u32 0, .int .u32 0, .int .u32 0, .int .u32 0] 59)) w.heap.size 59 D := (Arr.new w 59 D).alloc _
  have hc := hL.cell 7 (by omega)
  have hf := hL.frozen 7
  rw [hT] at hc
  have hm1 := mask31 T t0 t1
  have hm2 := mask31 T2 s0 s1
  have hset := ints_set D 7 (T % 2147483648)
  rw [← hD1] at hset
  have hl1 : D1.length = 8 := by rw [hD1, List.length_set]; exact hD
  have hl4 : D4.length = 8 := by rw [hD4, List.length_set]; exact hD3
  have hL1 : Arr ((w.alloc (.cells (ints D1) 59)).alloc (.cells #[.int .u32 0, .int .u32 0, .int .u32 0, .int .u32 0, .int .u32 0, .int .u32 0, .int .u32 0, .int .u32 0] 59)) w.heap.size 59 D1 := (Arr.new w 59 D1).alloc _
  have hZ1 : Arr ((w.alloc (.cells (ints D1) 59)).alloc (.cells #[.int .u32 0, .int .u32 0, .int .u32 0, .int .u32 0, .int .u32 0, .int .u32 0, .int .u32 0, .int .u32 0] 59)) (w.heap.size + 1) 59 zeros := by
    have h := Arr.new (w.alloc (.cells (ints D1) 59)) 59 zeros
    rw [World.size_alloc] at h
    exact h
  have hX1 : Below w.heap.size w ((w.alloc (.cells (ints D1) 59)).alloc (.cells #[.int .u32 0, .int .u32 0, .int .u32 0, .int .u32 0, .int .u32 0, .int .u32 0, .int .u32 0, .int .u32 0] 59)) := ((Below.refl _ _).alloc (Nat.le_refl _) _).alloc (by simp) _
  have hs1 : ((w.alloc (.cells (ints D1) 59)).alloc (.cells #[.int .u32 0, .int .u32 0, .int .u32 0, .int .u32 0, .int .u32 0, .int .u32 0, .int .u32 0, .int .u32 0] 59)).heap.size = w.heap.size + 1 + 1 := by simp
  have t2 : 0 ≤ 19 * top := by omega
  have t3 : 19 * top < 4294967296 := by omega
  have t4 : 19 * top ≤ 4294967295 := by omega
  have HL : Hid (D.length = 8 ∧ D1 = D.set 7 (T % 2147483648) ∧ D4 = D3.set 7 (T2 % 2147483648)) := ⟨hD, hD1, hD4⟩
  clear hD hD1 hD4 hT hL
  go_enter Tryd.func70, Tryd.ntmps70
  go_wp2_with (refine wpList_load_arr rfl 59 (.tmp 1) rfl w.heap.size rfl D1 _ hL1 Tryd.underlying59 rfl (by rw [hl1]; exact infoNR) ?_)
  refine (hr1 _).mono ?_
  rintro e w2 ⟨rfl, hb2⟩
  have hL2 := hL1.below hb2 (by rw [hs1]; omega)
  have hZ2 := hZ1.below hb2 (by rw [hs1]; omega)
  have hX2 := hX1.trans (hb2.mono (by rw [hs1]; omega))
  have hs2 := hb2.size
  rw [hs1] at hs2
  clear hb2 hL1 hZ1 hX1 hs1
  go_wp2_with (first | (refine wpList_store_arr rfl 59 (.tmp 1) (.tmp 18) rfl w.heap.size D2 rfl rfl D1 hL2 (by rw [hD2, hl1]) (by rw [hl1]; exact infoNR) ?_; intro W3 hW3) | (refine wpList_load_arr rfl 59 (.tmp 1) rfl w.heap.size rfl D2 _ hW3.arr Tryd.underlying59 rfl (by rw [hD2]; exact infoNR) ?_))
  refine (hr2 _).mono ?_
  rintro e w4 ⟨rfl, hb4⟩
  have hs3 := hW3.size
  have hL4 := hW3.arr.below hb4 (by rw [hs3]; omega)
  have hZ4 := (hW3.other _ _ _ (by omega) hZ2).below hb4 (by rw [hs3]; omega)
  have hX4 := (hW3.below _ _ (Nat.le_refl _) hX2).trans (hb4.mono (by rw [hs3]; omega))
  have hs4 := hb4.size
  rw [hs3] at hs4
  have hg : w.heap.size + 1 + 1 ≤ w4.heap.size := by omega
  clear hb4 hL2 hZ2 hX2 hs2 hs4 hs3 hW3
  have hN4 := Arr.new w4 59 zeros
  have hL5 := hL4.alloc (.cells (ints zeros) 59)
  have hZ5 := hZ4.alloc (.cells (ints zeros) 59)
  have hX5 := hX4.alloc (show w.heap.size ≤ w4.heap.size by omega) (.cells (ints zeros) 59)
  have hS5 : (w4.alloc (.cells (ints zeros) 59)).heap.size = w4.heap.size + 1 := by simp
  clear hL4 hZ4 hX4
  have hset4 := ints_set D3 7 (T2 % 2147483648)
  rw [← HL.out.2.2] at hset4
  cases b with
  | true =>
    go_wp2_with (first | (refine wpList_store_arr rfl 59 (.tmp 4) (.tmp 23) rfl w4.heap.size D3 rfl rfl zeros hN4 (by rw [hD3]; rfl) infoNR ?_; intro W5 hW5; have hc5 := hW5.arr.cell 7 (by omega); rw [hT2] at hc5) | (refine wpList_load_arr rfl 59 (.tmp 1) rfl w.heap.size rfl D2 _ (hW5.other _ _ _ (by omega) hL5) Tryd.underlying59 rfl (by rw [hD2]; exact infoNR) ?_) | (refine wpList_store_arr rfl 59 (.tmp 2) (.tmp 29) rfl (w.heap.size + 1) D2 rfl rfl zeros (hW5.other _ _ _ (by omega) hZ5) (by rw [hD2]; rfl) infoNR ?_; intro W6 hW6))
    exact bodyPost_ret (results_arr Tryd.results70 _ rfl hW6.arr _ Tryd.underlying59 rfl (by rw [hD2]; exact infoNR)) rfl ⟨rfl, hW6.below _ _ (by omega) (hW5.below _ _ (by omega) hX5)⟩
  | false =>
    go_wp2_with (first | (refine wpList_store_arr rfl 59 (.tmp 4) (.tmp 23) rfl w4.heap.size D3 rfl rfl zeros hN4 (by rw [hD3]; rfl) infoNR ?_; intro W5 hW5; have hc5 := hW5.arr.cell 7 (by omega); have hf5 := hW5.arr.frozen 7; rw [hT2] at hc5; have hA6 := hW5.arr.set 7 (T2 % 2147483648); rw [← HL.out.2.2] at hA6) | (refine wpList_load_arr rfl 59 (.tmp 4) rfl w4.heap.size rfl D4 _ hA6 Tryd.underlying59 rfl (by rw [hl4]; exact infoNR) ?_) | (refine wpList_store_arr rfl 59 (.tmp 2) (.tmp 34) rfl (w.heap.size + 1) D4 rfl rfl zeros ((hW5.other _ _ _ (by omega) hZ5).other (by simp; omega) _) (by rw [hl4]; rfl) infoNR ?_; intro W6 hW6))
    exact bodyPost_ret (results_arr Tryd.results70 _ rfl hW6.arr _ Tryd.underlying59 rfl (by rw [hl4]; exact infoNR)) rfl ⟨rfl, hW6.below _ _ (by omega) ((hW5.below _ _ (by omega) hX5).setCell (by simp; omega) _)⟩

/-- What is left modulo P. -/
theorem lowered_any (v : Int) (h0 : 0 ≤ v) (h1 : v < 115792089237316195423570985008687907853269984665640564039457584007913129639936) (w : World) :
    Calls Tryd.prog 70 #[.agg (ints (dg 8 v))] w fun e w' => e = .returned (.agg (ints (dg 8 (v % P)))) ∧ Below w.heap.size w w' := by
  have hl := low_eq v h0 h1
  have ht := top_eq v h0 h1
  have hg := ok_get (dg_ok 8 v) 7
  obtain ⟨u, hu⟩ : ∃ u, u = v % 57896044618658097711785492504343953926634992332820282019728792003956564819968 + 19 * (v / 57896044618658097711785492504343953926634992332820282019728792003956564819968) := ⟨_, rfl⟩
  have u0 : 0 ≤ u := by omega
  have u1 : u + 19 < 115792089237316195423570985008687907853269984665640564039457584007913129639936 := by omega
  simp only [← hu] at hl
  have ht2 := top_eq (u + 19) (by omega) u1
  have hg2 := ok_get (dg_ok 8 (u + 19)) 7
  have hr1 := raised_any (dg 8 (v % 57896044618658097711785492504343953926634992332820282019728792003956564819968)) (dg_length _ _) (dg_ok _ _) (19 * (v / 57896044618658097711785492504343953926634992332820282019728792003956564819968)) (by omega) (by omega)
  have hr2 := raised_any (dg 8 u) (dg_length _ _) (dg_ok _ _) 19 (by omega) (by omega)
  rw [val_dg8 _ (by omega) (by omega), ← hu] at hr1
  rw [val_dg8 _ (by omega) (by omega)] at hr2
  have := lowered_list (dg 8 v) _ (dg 8 u) (dg 8 (u + 19)) _ _ _ _ _ _ _ (dg_length _ _) ht.2.symm (dg_length _ _) (dg_length _ _) ht2.2.symm rfl rfl hg.1 hg.2 hg2.1 hg2.2 ht.1 rfl hr1 hr2 w
  refine this.mono ?_
  rintro e w' ⟨rfl, hb⟩
  refine ⟨?_, hb⟩
  rw [ht2.1]
  by_cases h : u + 19 < 57896044618658097711785492504343953926634992332820282019728792003956564819968
  · rw [hl.1 h, show ((u + 19) / 57896044618658097711785492504343953926634992332820282019728792003956564819968 == 0) = true from by simp; omega]
    rfl
  · rw [hl.2 h, show ((u + 19) / 57896044618658097711785492504343953926634992332820282019728792003956564819968 == 0) = false from by simp; omega, show (u + 19) % 57896044618658097711785492504343953926634992332820282019728792003956564819968 = u + 19 - 57896044618658097711785492504343953926634992332820282019728792003956564819968 from by omega]
    rfl
end Go.Proofs.YtdpokjhoedhadaaDoor.limb
