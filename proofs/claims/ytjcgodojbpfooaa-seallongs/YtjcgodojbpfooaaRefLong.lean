/-
  THE WALKS OF the document's own numbers of ten pieces: carried, plus, times, longOf.
-/
import Derived.Test.YtjcgodojbpfooaaPlainPolyRef
import Derived.Test.YtjcgodojbpfooaaWu
import Derived.Test.YtjcgodojbpfooaaProg
import Derived.WalkKit
import Derived.ProofKit
import Derived.Deep.RegionHeld3
import Derived.Deep.MidRow
import Derived.Deep.QuietTactic
import Derived.BigQuiet
import Derived.BigRegion
import Derived.WalkSmall
import Derived.PlainAid
namespace Go.Proofs.Ytjcgodojbpfooaa.lon
open Go.RowKit
open Go.Proofs.Ytjcgodojbpfooaa.u64
open Go.Proofs.Ytjcgodojbpfooaa.pol

def z10 : List Nat := [0, 0, 0, 0, 0, 0, 0, 0, 0, 0]
theorem infoLG : (Try.prog.info? 63).map (·.size) = some 10 := by kernel_rfl
theorem infoU64 : (Try.prog.info? 46).map (fun i => (i.zero, i.size, i.bytes)) = some (some (.int .u64 0), 1, 8) := by kernel_rfl
theorem idx10 (l : List Nat) (hl : l.length = 10) (k : Nat) (hk : k < 10) (w : World) : (Instr.index 63 (.agg (wu l).toArray) (.int .i64 (k : Int))).run Try.prog w = .ok (.int .u64 ((l.getD k 0 : Nat) : Int)) w := by
  obtain ⟨j0, hj, _, hj1, _⟩ := info_parts infoU64
  exact run_index_wu Try.underlying63 Try.underlying46 hj hj1 l k hk (by omega) w

set_option maxRecDepth 100000 in
set_option maxHeartbeats 1600000 in
theorem carried_any (l : List Nat) (hl : l.length = 10) (hs : ∀ a ∈ l, a ≤ 562949953421312) (w : World) :
    Calls Try.prog 76 #[.agg (wu l).toArray] w fun e w' => e = .returned (.agg (wu (dg 8192 10 (fin (val 8192 l)))).toArray) ∧ Below w.heap.size w w' := by
  have hB : 0 < 8192 := by decide
  go_enter Try.func76, Try.ntmps76
  go_wp2
  go_loopw [6] (fun i wr => ∃ r : Nat, r ≤ 3 ∧ i = .int .i64 r ∧ Arr wr w.heap.size 63 (turns r l) ∧ Arr wr (w.heap.size + 1) 63 z10 ∧ Below w.heap.size w wr) (fun i _ => 3 - (intOf i).toNat)
  case atStart =>
    refine ⟨0, by omega, rfl, (Arr.new w 63 l).alloc _, ?_, ((Below.refl _ _).alloc (Nat.le_refl _) _).alloc (by simp) _⟩
    have h := Arr.new (w.alloc (.cells (wu l).toArray 63)) 63 z10
    rw [World.size_alloc] at h
    exact h
  case round =>
    obtain ⟨r, hr, rfl, hA, hZ, hnx⟩ := hrel
    by_cases hlt : r < 3
    · have hd : decide ((r : Int) < 3) = true := by simp; omega
      have hL := turns_length r l
      rw [hl] at hL
      have hS := turns_le r l hs
      have HT : Hid (turns (r + 1) l = turn (turns r l)) := rfl
      generalize turns r l = L at *
      go_wp2
      go_loopw [3, 8] (fun c i wq => ∃ k : Nat, k ≤ 10 ∧ i = .int .i64 k ∧ c = .int .u64 ((cout 8192 (L.take k) 0 : Nat) : Int) ∧ Arr wq w.heap.size 63 (carry 8192 (L.take k) 0 ++ L.drop k) ∧ Arr wq (w.heap.size + 1) 63 z10 ∧ Below w.heap.size w wq) (fun _ i _ => 10 - (intOf i).toNat)
      case atStart => exact ⟨0, by omega, rfl, rfl, hA, hZ, hnx⟩
      case round =>
        clear hA hZ hnx
        obtain ⟨k, hk, rfl, rfl, hA, hZ, hnx⟩ := hrel
        by_cases hk2 : k < 10
        · have HST := carry_step hB L L 0 k (by omega) rfl
          have hcl : (carry 8192 (L.take k) 0).length = k := by rw [carry_length hB, List.length_take]; omega
          have hc := hA.cell k (by rw [part_length _ _ _ hcl (by omega)]; omega)
          have hf := hA.frozen k
          rw [part_getD _ _ _ hcl] at hc
          have ba := getD_le hS k
          have bc := over10 L hS k
          clear hcl
          generalize L.getD k 0 = a at *
          generalize cout 8192 (L.take k) 0 = c at *
          have HS : Hid _ := HST
          clear HST
          obtain ⟨x, hx⟩ : ∃ x, x = a + c := ⟨_, rfl⟩
          rw [← hx] at HS
          have e1 : IntKind.u64.wrap ((a : Int) + (c : Int)) = (x : Int) := by rw [show (a : Int) + (c : Int) = (x : Int) from by omega]; exact wrap64u x (by omega)
          have e2 : (x : Int) % 8192 = ((x % 8192 : Nat) : Int) := by omega
          have e3 : (x : Int) / 8192 = ((x / 8192 : Nat) : Int) := by omega
          have x0 : (0 : Int) ≤ (x : Int) := by omega
          have e4 : IntKind.u64.wrap ((x / 8192 : Nat) : Int) = ((x / 8192 : Nat) : Int) := wrap64u _ (by omega)
          generalize x % 8192 = y at *
          generalize x / 8192 = z at *
          have kz : (k : Int) < 10 := by omega
          have k0 : (0 : Int) ≤ (k : Int) := by omega
          have HL : Hid (L.length = 10 ∧ k < 10) := ⟨hL, hk2⟩
          clear hL hS hx hl hs ba bc
          go_wp2
          go_roundw
          case rel => exact ⟨k + 1, HL.out.2, by go_num, by rw [HS.out.2], by rw [← HS.out.1]; exact hA.set k _, hZ.other (by simp) _, hnx.setCell (by simp) _⟩
          case measure => have := HL.out.2; simp [intOf]; omega
        · obtain rfl : k = 10 := by omega
          rw [List.take_of_length_le (by omega), List.drop_of_length_le (by omega), List.append_nil] at hA
          rw [List.take_of_length_le (by omega)]
          have hcl : (carry 8192 L 0).length = 10 := by rw [carry_length hB, hL]
          have hc := hA.cell 0 (by omega)
          have hf := hA.frozen 0
          have bc := over10_all L hS
          have ba := getD_le (carry_le L 0) 0
          have HP : Hid (turn L = (carry 8192 L 0).set 0 ((carry 8192 L 0).getD 0 0 + 5 * cout 8192 L 0)) := rfl
          clear hcl
          generalize (carry 8192 L 0).getD 0 0 = a at *
          generalize cout 8192 L 0 = c at *
          obtain ⟨c5, hc5⟩ : ∃ c5, c5 = 5 * c := ⟨_, rfl⟩
          obtain ⟨y, hy⟩ : ∃ y, y = a + c5 := ⟨_, rfl⟩
          rw [← hc5, ← hy] at HP
          have e1 : IntKind.u64.wrap (5 * (c : Int)) = (c5 : Int) := by rw [show 5 * (c : Int) = (c5 : Int) from by omega]; exact wrap64u c5 (by omega)
          have e2 : IntKind.u64.wrap ((a : Int) + (c5 : Int)) = (y : Int) := by rw [show (a : Int) + (c5 : Int) = (y : Int) from by omega]; exact wrap64u y (by omega)
          have HR : Hid (r < 3) := hlt
          have rb : (r : Int) < 3 := by omega
          clear hc5 hy ba bc hS hL hl hs
          go_wp2
          go_roundw
          case rel => exact ⟨r + 1, HR.out, by go_num, by rw [HT.out, HP.out]; exact hA.set 0 _, hZ.other (by simp) _, hnx.setCell (by simp) _⟩
          case measure => have := HR.out; simp [intOf]; omega
    · obtain rfl : r = 3 := by omega
      rw [turns_3 l hl hs] at hA
      have hD := dg_length 8192 10 (fin (val 8192 l))
      obtain ⟨D, hDD⟩ : ∃ D, dg 8192 10 (fin (val 8192 l)) = D := ⟨_, rfl⟩
      rw [hDD] at hA hD
      have HD : Hid (dg 8192 10 (fin (val 8192 l)) = D) := hDD
      clear hDD
      go_wp2_with (first | (refine wpList_load_arr rfl 63 (.tmp 1) rfl w.heap.size rfl hA _ Try.underlying63 rfl (by rw [hD]; exact infoLG) ?_) | (refine wpList_store_arr rfl 63 (.tmp 2) (.tmp 30) rfl (w.heap.size + 1) D rfl rfl hZ (by rw [hD]; rfl) infoLG ?_; intro W hW))
      exact bodyPost_ret (results_arr Try.results76 _ rfl hW.arr _ Try.underlying63 rfl (by rw [hD]; exact infoLG)) rfl ⟨by rw [HD.out], hW.below _ _ (by omega) hnx⟩

set_option maxRecDepth 100000 in
set_option maxHeartbeats 800000 in
theorem plus_any (l m : List Nat) (hl : l.length = 10) (hm : m.length = 10) (bl : ∀ a ∈ l, a ≤ 8191) (bm : ∀ a ∈ m, a ≤ 8191) (w : World) :
    Calls Try.prog 62 #[.agg (wu l).toArray, .agg (wu m).toArray] w fun e w' => e = .returned (.agg (wu (dg 8192 10 (fin (val 8192 l + val 8192 m)))).toArray) ∧ Below w.heap.size w w' := by
  have hL : Arr (((w.alloc (.cells (wu l).toArray 63)).alloc (.cells (wu m).toArray 63)).alloc (.cells (wu z10).toArray 63)) w.heap.size 63 l := ((Arr.new w 63 l).alloc _).alloc _
  have hM : Arr (((w.alloc (.cells (wu l).toArray 63)).alloc (.cells (wu m).toArray 63)).alloc (.cells (wu z10).toArray 63)) (w.heap.size + 1) 63 m := by
    have h := Arr.new (w.alloc (.cells (wu l).toArray 63)) 63 m
    rw [World.size_alloc] at h
    exact h.alloc _
  have hZ : Arr (((w.alloc (.cells (wu l).toArray 63)).alloc (.cells (wu m).toArray 63)).alloc (.cells (wu z10).toArray 63)) (w.heap.size + 1 + 1) 63 z10 := by
    have h := Arr.new ((w.alloc (.cells (wu l).toArray 63)).alloc (.cells (wu m).toArray 63)) 63 z10
    rw [World.size_alloc, World.size_alloc] at h
    exact h
  have hX : Below w.heap.size w (((w.alloc (.cells (wu l).toArray 63)).alloc (.cells (wu m).toArray 63)).alloc (.cells (wu z10).toArray 63)) := (((Below.refl _ _).alloc (Nat.le_refl _) _).alloc (by simp) _).alloc (by simp; omega) _
  have hP := plusL_length l m (by omega)
  go_enter Try.func62, Try.ntmps62
  go_wp2
  go_loopw [6] (fun i wr => ∃ k : Nat, k ≤ 10 ∧ i = .int .i64 k ∧ Arr wr w.heap.size 63 ((plusL l m).take k ++ l.drop k) ∧ Arr wr (w.heap.size + 1) 63 m ∧ Arr wr (w.heap.size + 1 + 1) 63 z10 ∧ Below w.heap.size w wr) (fun i _ => 10 - (intOf i).toNat)
  case atStart => exact ⟨0, by omega, rfl, hL, hM, hZ, hX⟩
  case round =>
    clear hL hM hZ hX
    obtain ⟨k, hk, rfl, hA, hM, hZ, hnx⟩ := hrel
    by_cases hlt : k < 10
    · have hcl : ((plusL l m).take k).length = k := by rw [List.length_take]; omega
      have hc := hA.cell k (by rw [part_length _ _ _ hcl (by omega)]; omega)
      have hf := hA.frozen k
      rw [part_getD _ _ _ hcl] at hc
      have hcm := hM.cell k (by omega)
      have HST := set_part ((plusL l m).take k) l k ((plusL l m).getD k 0) hcl (by omega)
      rw [← get_take _ _ (by omega), plusL_get l m k (by omega) (by omega)] at HST
      have ba := getD_le bl k
      have bb := getD_le bm k
      generalize l.getD k 0 = a at *
      generalize m.getD k 0 = b at *
      obtain ⟨x, hx⟩ : ∃ x, x = a + b := ⟨_, rfl⟩
      rw [← hx] at HST
      have HS : Hid _ := HST
      have e1 : IntKind.u64.wrap ((a : Int) + (b : Int)) = (x : Int) := by rw [show (a : Int) + (b : Int) = (x : Int) from by omega]; exact wrap64u x (by omega)
      have kz : (k : Int) < 10 := by omega
      have k0 : (0 : Int) ≤ (k : Int) := by omega
      have HL : Hid (k < 10) := hlt
      clear HST hcl bl bm hl hm hP hx ba bb
      go_wp2
      go_region
      all_goals
        go_wp2
        go_roundw
        case rel => exact ⟨k + 1, HL.out, by go_num, by rw [← HS.out]; exact (hA.set k _).drew, (hM.other (by simp) _).drew, (hZ.other (by simp; omega) _).drew, (hnx.setCell (by simp) _).drew⟩
        case measure => have := HL.out; simp [intOf]; omega
    · obtain rfl : k = 10 := by omega
      rw [List.take_of_length_le (by omega), List.drop_of_length_le (by omega), List.append_nil] at hA
      have hcr := carried_any (plusL l m) (by omega) (fun a ha => by have := plusL_le (by omega) bl bm a ha; omega)
      rw [val_plus _ _ _ (by omega)] at hcr
      rw [hl] at hP
      have hd := dg_length 8192 10 (fin (val 8192 l + val 8192 m))
      obtain ⟨L, hLe⟩ : ∃ L, plusL l m = L := ⟨_, rfl⟩
      rw [hLe] at hA hcr hP
      obtain ⟨D, hD⟩ : ∃ D, dg 8192 10 (fin (val 8192 l + val 8192 m)) = D := ⟨_, rfl⟩
      rw [hD] at hcr hd
      have HD : Hid (dg 8192 10 (fin (val 8192 l + val 8192 m)) = D) := hD
      have sz := hnx.size
      have hzl := hZ.lt
      clear hLe hD bl bm
      go_wp2_with (first | (refine wpList_load_arr rfl 63 (.tmp 2) rfl w.heap.size rfl hA _ Try.underlying63 rfl (by rw [hP]; exact infoLG) ?_) | (go_at_call 76; (with_reducible refine (hcr _).mono ?_); rintro e w5 ⟨rfl, hb5⟩) | (refine wpList_store_arr rfl 63 (.tmp 4) (.tmp 19) rfl (w.heap.size + 1 + 1) D rfl rfl (hZ.below hb5 hzl) (by rw [hd]; rfl) infoLG ?_; intro W5 hW5))
      exact bodyPost_ret (results_arr Try.results62 _ rfl hW5.arr _ Try.underlying63 rfl (by rw [hd]; exact infoLG)) rfl ⟨by rw [HD.out], hW5.below _ _ (by omega) (hnx.trans (hb5.mono sz))⟩

set_option maxRecDepth 100000 in
set_option maxHeartbeats 1600000 in
theorem times_any (l m : List Nat) (hl : l.length = 10) (hm : m.length = 10) (bl : ∀ a ∈ l, a ≤ 8191) (bm : ∀ a ∈ m, a ≤ 8191) (w : World) :
    Calls Try.prog 63 #[.agg (wu l).toArray, .agg (wu m).toArray] w fun e w' => e = .returned (.agg (wu (dg 8192 10 (mulR l m))).toArray) ∧ Below w.heap.size w w' := by
  have hL : Arr (((w.alloc (.cells (wu l).toArray 63)).alloc (.cells (wu m).toArray 63)).alloc (.cells (wu z10).toArray 63)) w.heap.size 63 l := ((Arr.new w 63 l).alloc _).alloc _
  have hM : Arr (((w.alloc (.cells (wu l).toArray 63)).alloc (.cells (wu m).toArray 63)).alloc (.cells (wu z10).toArray 63)) (w.heap.size + 1) 63 m := by
    have h := Arr.new (w.alloc (.cells (wu l).toArray 63)) 63 m
    rw [World.size_alloc] at h
    exact h.alloc _
  have hZ : Arr (((w.alloc (.cells (wu l).toArray 63)).alloc (.cells (wu m).toArray 63)).alloc (.cells (wu z10).toArray 63)) (w.heap.size + 1 + 1) 63 z10 := by
    have h := Arr.new ((w.alloc (.cells (wu l).toArray 63)).alloc (.cells (wu m).toArray 63)) 63 z10
    rw [World.size_alloc, World.size_alloc] at h
    exact h
  have hX : Below w.heap.size w (((w.alloc (.cells (wu l).toArray 63)).alloc (.cells (wu m).toArray 63)).alloc (.cells (wu z10).toArray 63)) := (((Below.refl _ _).alloc (Nat.le_refl _) _).alloc (by simp) _).alloc (by simp; omega) _
  have hXs : (((w.alloc (.cells (wu l).toArray 63)).alloc (.cells (wu m).toArray 63)).alloc (.cells (wu z10).toArray 63)).heap.size = w.heap.size + 3 := by simp
  go_enter Try.func63, Try.ntmps63
  go_wp2_with (refine wpList_load_arr rfl 63 (.tmp 2) rfl w.heap.size rfl (hL.alloc _) _ Try.underlying63 rfl (by rw [hl]; exact infoLG) ?_)
  go_loopw [11] (fun v wr => ∃ (i : Nat) (W : List Nat), i ≤ 10 ∧ v = .int .i64 i ∧ Hid (W = allR l m i) ∧ ConvR l m W i 0 ∧ Arr wr (w.heap.size + 1) 63 m ∧ Arr wr (w.heap.size + 1 + 1) 63 z10 ∧ Arr wr (w.heap.size + 1 + 1 + 1) 63 W ∧ Below w.heap.size w wr) (fun v _ => 10 - (intOf v).toNat)
  case atStart =>
    refine ⟨0, z10, by omega, rfl, rfl, convR_start l m, hM.alloc _, hZ.alloc _, ?_, hX.alloc (by rw [hXs]; omega) _⟩
    have h := Arr.new (((w.alloc (.cells (wu l).toArray 63)).alloc (.cells (wu m).toArray 63)).alloc (.cells (wu z10).toArray 63)) 63 z10
    rw [hXs] at h
    exact h
  case round =>
    clear hL hM hZ hX hXs
    obtain ⟨i, W, hi5, rfl, HW, hC, hM, hZ, hW, hnx⟩ := hrel
    by_cases hlt : i < 10
    · have hd : decide ((i : Int) < 10) = true := by simp; omega
      have hix := idx10 l hl i hlt
      have bx := getD_le bl i
      obtain ⟨x, hx⟩ : ∃ x, l.getD i 0 = x := ⟨_, rfl⟩
      rw [hx] at hix bx
      have HX : Hid (l.getD i 0 = x) := hx
      clear hx
      go_wp2_with (refine wpList_load_arr rfl 63 (.tmp 3) rfl (w.heap.size + 1) rfl hM _ Try.underlying63 rfl (by rw [hm]; exact infoLG) ?_)
      go_loopw [16] (fun v wq => ∃ (k : Nat) (V : List Nat), k ≤ 10 ∧ v = .int .i64 k ∧ Hid (V = rowR l m W i k) ∧ ConvR l m V i k ∧ Arr wq (w.heap.size + 1) 63 m ∧ Arr wq (w.heap.size + 1 + 1) 63 z10 ∧ Arr wq (w.heap.size + 1 + 1 + 1) 63 V ∧ Below w.heap.size w wq) (fun v _ => 10 - (intOf v).toNat)
      case atStart => exact ⟨0, W, by omega, rfl, rfl, hC, hM, hZ, hW, hnx⟩
      case round =>
        clear hC hM hZ hW hnx
        obtain ⟨k, V, hk5, rfl, HV, hC, hM, hZ, hV, hnx⟩ := hrel
        by_cases hk2 : k < 10
        · have hiy := idx10 m hm k hk2
          have hN := convR_step hC hlt hk2 hm bl bm
          have HVN : Hid (one1 l m V i k = rowR l m W i (k + 1)) := by
            show _ = _
            rw [HV.out]; rfl
          have hVl := hC.length
          have by_ := getD_le bm k
          have hle := convR_le hC (by omega) (by omega)
          have d10 : (i : Int) + (k : Int) < 10 ∨ ¬ (i : Int) + (k : Int) < 10 := by omega
          by_cases c10 : i + k < 10
          · have HO : Hid (one1 l m V i k = V.set (i + k) (V.getD (i + k) 0 + l.getD i 0 * m.getD k 0)) := by
              show _ = _
              unfold one1
              rw [if_pos c10]
            rw [HO.out] at hN HVN
            have hc := hV.cell (i + k) (by omega)
            have hf := hV.frozen (i + k)
            have bv := getD_le hle (i + k)
            have bp := prod_le bx by_
            rw [HX.out] at hN HVN
            obtain ⟨p, hp⟩ : ∃ p, p = x * m.getD k 0 := ⟨_, rfl⟩
            rw [← hp] at hN bp HVN
            generalize m.getD k 0 = y at *
            generalize V.getD (i + k) 0 = z at *
            obtain ⟨q, hq⟩ : ∃ q, q = z + p := ⟨_, rfl⟩
            rw [← hq] at hN HVN
            have HN : Hid _ := hN
            have n0 : ((i : Int) + (k : Int)).toNat = i + k := by omega
            have p0 : (0 : Int) ≤ (i : Int) + (k : Int) := by omega
            have p1 : (i : Int) + (k : Int) < 10 := by omega
            have bp2 : p ≤ 67092481 := bp
            have v2 : IntKind.u64.wrap ((x : Int) * (y : Int)) = (p : Int) := by
              rw [show (x : Int) * (y : Int) = (p : Int) from by rw [hp]; simp]; exact wrap64u p (by omega)
            have v3 : IntKind.u64.wrap ((z : Int) + (p : Int)) = (q : Int) := by
              rw [show (z : Int) + (p : Int) = (q : Int) from by omega]; exact wrap64u q (by omega)
            have HK : Hid (k < 10) := hk2
            have kz : (k : Int) < 10 := by omega
            clear bl bm hp hq bp bp2 bv hN hVl hle d10 c10 HO
            go_wp2
            go_roundw
            case rel => exact ⟨k + 1, _, HK.out, by go_num, HVN, HN.out, hM.other (by simp) _, hZ.other (by simp) _, hV.set _ _, hnx.setCell (by simp; omega) _⟩
            case measure => have := HK.out; simp [intOf]; omega
          · have HO : Hid (one1 l m V i k = V.set (i + k - 10) (V.getD (i + k - 10) 0 + 5 * l.getD i 0 * m.getD k 0)) := by
              show _ = _
              unfold one1
              rw [if_neg c10]
            rw [HO.out] at hN HVN
            obtain ⟨j, hj⟩ : ∃ j, j = i + k - 10 := ⟨_, rfl⟩
            rw [← hj] at hN HVN
            have hc := hV.cell j (by omega)
            have hf := hV.frozen j
            have bv := getD_le hle j
            rw [HX.out] at hN HVN
            obtain ⟨x5, hx5⟩ : ∃ x5, x5 = 5 * x := ⟨_, rfl⟩
            rw [← hx5] at hN HVN
            have bp := prod_le (show x5 ≤ 40955 by omega) by_
            obtain ⟨p, hp⟩ : ∃ p, p = x5 * m.getD k 0 := ⟨_, rfl⟩
            rw [← hp] at hN bp HVN
            generalize m.getD k 0 = y at *
            generalize V.getD j 0 = z at *
            obtain ⟨q, hq⟩ : ∃ q, q = z + p := ⟨_, rfl⟩
            rw [← hq] at hN HVN
            have HN : Hid _ := hN
            have n1 : (i : Int) + (k : Int) - 10 = (j : Int) := by omega
            have j0 : (0 : Int) ≤ (j : Int) := by omega
            have j1 : (j : Int) < 10 := by omega
            have p1 : ¬ (i : Int) + (k : Int) < 10 := by omega
            have bp2 : p ≤ 335462405 := bp
            have v1 : IntKind.u64.wrap (5 * (x : Int)) = (x5 : Int) := by
              rw [show 5 * (x : Int) = (x5 : Int) from by omega]; exact wrap64u x5 (by omega)
            have v2 : IntKind.u64.wrap ((x5 : Int) * (y : Int)) = (p : Int) := by
              rw [show (x5 : Int) * (y : Int) = (p : Int) from by rw [hp]; simp]; exact wrap64u p (by omega)
            have v3 : IntKind.u64.wrap ((z : Int) + (p : Int)) = (q : Int) := by
              rw [show (z : Int) + (p : Int) = (q : Int) from by omega]; exact wrap64u q (by omega)
            have HK : Hid (k < 10) := hk2
            have kz : (k : Int) < 10 := by omega
            clear bl bm hp hq bp bp2 bv hN hVl hle d10 c10 HO hx5 hj
            go_wp2
            go_roundw
            case rel => exact ⟨k + 1, _, HK.out, by go_num, HVN, HN.out, hM.other (by simp) _, hZ.other (by simp) _, hV.set _ _, hnx.setCell (by simp; omega) _⟩
            case measure => have := HK.out; simp [intOf]; omega
        · obtain rfl : k = 10 := by omega
          have hN := convR_row hC hlt hl hm
          have HWN : Hid (V = allR l m (i + 1)) := by
            show _ = _
            rw [HV.out, HW.out]; rfl
          clear bl bm
          go_wp2
          go_roundw
          case rel => exact ⟨i + 1, _, by omega, by go_num, HWN, hN, hM, hZ, hV, hnx⟩
          case measure => simp [intOf]; omega
    · obtain rfl : i = 10 := by omega
      have hWl := hC.length
      have hcr := carried_any W hWl (fun a ha => by have := convR_le hC (by omega) (by omega) a ha; omega)
      have HF : Hid (mulR l m = fin (val 8192 W)) := by
        show _ = _
        rw [HW.out]; rfl
      have hdr := dg_length 8192 10 (fin (val 8192 W))
      obtain ⟨D, hD⟩ : ∃ D, dg 8192 10 (fin (val 8192 W)) = D := ⟨_, rfl⟩
      rw [hD] at hcr hdr
      have HD : Hid (dg 8192 10 (mulR l m) = D) := by
        show _ = _
        rw [HF.out]; exact hD
      clear hD HF bl bm
      have sz := hnx.size
      have hzl := hZ.lt
      go_wp2_with (first | (refine wpList_load_arr rfl 63 (.tmp 5) rfl (w.heap.size + 1 + 1 + 1) rfl hW _ Try.underlying63 rfl (by rw [hWl]; exact infoLG) ?_) | (go_at_call 76; (with_reducible refine (hcr _).mono ?_); rintro e w5 ⟨rfl, hb5⟩) | (refine wpList_store_arr rfl 63 (.tmp 4) (.tmp 49) rfl (w.heap.size + 1 + 1) D rfl rfl (hZ.below hb5 hzl) (by rw [hdr]; rfl) infoLG ?_; intro W5 hW5))
      exact bodyPost_ret (results_arr Try.results63 _ rfl hW5.arr _ Try.underlying63 rfl (by rw [hdr]; exact infoLG)) rfl ⟨by rw [HD.out], hW5.below _ _ (by omega) (hnx.trans (hb5.mono sz))⟩
end Go.Proofs.Ytjcgodojbpfooaa.lon
