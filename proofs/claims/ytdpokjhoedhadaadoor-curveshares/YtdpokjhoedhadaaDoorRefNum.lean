/-
  THE WALKS OF the document's own numbers of sixteen pieces.
-/
import Derived.Test.YtdpokjhoedhadaaDoorProg
import Derived.Test.YtdpokjhoedhadaaDoorPlainNum
import Derived.Test.YtdpokjhoedhadaaDoorArr
import Derived.WalkKit
import Derived.ProofKit
import Derived.Deep.RegionHeld3
import Derived.Deep.MidRow
import Derived.Deep.QuietTactic
import Derived.BigQuiet
import Derived.WalkSmall
import Derived.PlainAid
import Derived.Outline
namespace Go.Proofs.YtdpokjhoedhadaaDoor.num
open Go.RowKit

set_option maxHeartbeats 400000 in
theorem rest_any (n : Int) (h0 : -4611686018427387904 ≤ n) (h1 : n ≤ 4611686018427387904) (w : World) :
    Calls Tryd.prog 39 #[.int .i64 n, .int .i64 65536] w fun e w' => e = .returned (.int .i64 (n % 65536)) ∧ w' = w := by
  have hd := Int.tmod_def n 65536
  by_cases hn : 0 ≤ n
  · have e : n.tmod 65536 = n % 65536 := Int.tmod_eq_emod_of_nonneg hn
    have h2 : ¬ n % 65536 < 0 := by omega
    clear hd
    go_enter Tryd.func39, Tryd.ntmps39
    go_wp2
    go_ret
    exact ⟨rfl, rfl⟩
  · have e0 : n.tmod 65536 = -((-n) % 65536) := by rw [← Int.tmod_eq_emod_of_nonneg (by omega), Int.neg_tmod, Int.neg_neg]
    clear hd
    by_cases h : n % 65536 = 0
    · have e : n.tmod 65536 = 0 := by omega
      clear e0
      rw [h]
      go_enter Tryd.func39, Tryd.ntmps39
      go_wp2
      go_ret
      exact ⟨rfl, rfl⟩
    · obtain ⟨m, hm⟩ : ∃ m, n.tmod 65536 = m := ⟨_, rfl⟩
      have e1 : m + 65536 = n % 65536 := by omega
      have e2 : m < 0 := by omega
      have e3 : -65536 < m := by omega
      clear e0
      rw [← e1]
      clear e1 h
      go_enter Tryd.func39, Tryd.ntmps39
      go_wp2
      go_ret
      exact ⟨rfl, rfl⟩

def zeros : List Int := List.replicate 16 0
/-- r turns. -/
def turns : Nat → List Int → List Int
  | 0, l => l
  | r + 1, l => passL (turns r l)
theorem turns_length (r : Nat) (l : List Int) (h : l.length = 16) : (turns r l).length = 16 := by
  induction r with
  | zero => exact h
  | succ r ih => rw [turns, passL_length, ih]
theorem turns_small (r : Nat) (l : List Int) (h : small l) : small (turns r l) := by
  induction r with
  | zero => exact h
  | succ r ih => exact small_passL _ ih

theorem carry_step (L : List Int) (k : Nat) (hk : k < L.length) : (carry (L.take k) 0 ++ L.drop k).set k ((L.getD k 0 + cout (L.take k) 0) % 65536) = carry (L.take (k + 1)) 0 ++ L.drop (k + 1) ∧ cout (L.take (k + 1)) 0 = (L.getD k 0 + cout (L.take k) 0) / 65536 := by
  have h1 : (carry (L.take k) 0).length = k := by rw [carry_length, List.length_take, Nat.min_eq_left (by omega)]
  have h2 : L.getD k 0 = L[k] := by rw [List.getD_eq_getElem?_getD, List.getElem?_eq_getElem hk]; rfl
  rw [List.take_succ_eq_append_getElem hk, carry_snoc, cout_snoc, h2]
  refine ⟨?_, rfl⟩
  rw [List.set_append_right _ _ (by omega), h1, Nat.sub_self, List.drop_eq_getElem_cons hk, List.set_cons_zero, List.append_assoc]
  rfl

set_option maxRecDepth 100000 in
set_option maxHeartbeats 800000 in
theorem carried_any (l : List Int) (hl : l.length = 16) (hs : small l) (w : World) :
    Calls Tryd.prog 36 #[.agg (ints l)] w fun e w' => e = .returned (.agg (ints (dg 16 (cv (val l))))) ∧ Below w.heap.size w w' := by
  go_enter Tryd.func36, Tryd.ntmps36
  go_wp2
  go_loopw [6] (fun i wr => ∃ r : Nat, r ≤ 3 ∧ i = .int .i64 r ∧ Arr wr w.heap.size 37 (turns r l) ∧ Arr wr (w.heap.size + 1) 37 zeros ∧ Below w.heap.size w wr) (fun i _ => 3 - (intOf i).toNat)
  case atStart =>
    refine ⟨0, by omega, rfl, (Arr.new w 37 l).alloc _, ?_, ((Below.refl _ _).alloc (Nat.le_refl _) _).alloc (by simp) _⟩
    have h := Arr.new (w.alloc (.cells (ints l) 37)) 37 zeros
    rw [World.size_alloc] at h
    exact h
  case round =>
    obtain ⟨r, hr, rfl, hA, hZ, hnx⟩ := hrel
    by_cases hlt : r < 3
    · have hd : decide ((r : Int) < 3) = true := by simp; omega
      have hL := turns_length r l hl
      have hS := turns_small r l hs
      have HT : Hid (turns (r + 1) l = passL (turns r l)) := rfl
      generalize turns r l = L at *
      go_wp2
      go_loopw [3, 8] (fun c i wq => ∃ k : Nat, k ≤ 16 ∧ i = .int .i64 k ∧ c = .int .i64 (cout (L.take k) 0) ∧ Arr wq w.heap.size 37 (carry (L.take k) 0 ++ L.drop k) ∧ Arr wq (w.heap.size + 1) 37 zeros ∧ Below w.heap.size w wq) (fun _ i _ => 16 - (intOf i).toNat)
      case atStart => exact ⟨0, by omega, rfl, rfl, hA, hZ, hnx⟩
      case round =>
        obtain ⟨k, hk, rfl, rfl, hA2, hZ2, hnx2⟩ := hrel
        by_cases hk2 : k < 16
        · have hlen : (carry (L.take k) 0 ++ L.drop k).length = 16 := by rw [List.length_append, carry_length, ← List.length_append, List.take_append_drop, hL]
          have hget : (carry (L.take k) 0 ++ L.drop k).getD k 0 = L.getD k 0 := by
            have h1 : (carry (L.take k) 0).length = k := by rw [carry_length, List.length_take, hL, Nat.min_eq_left hk]
            rw [List.getD_eq_getElem?_getD, List.getElem?_append_right (by omega), h1, Nat.sub_self, List.getElem?_drop, Nat.add_zero, List.getD_eq_getElem?_getD]
          have hc := hA2.cell k (by omega)
          rw [hget] at hc
          have hf := hA2.frozen k
          have bd := cout_bd (L.take k) 0 (fun a ha => hS a (List.mem_of_mem_take ha)) (by omega) (by omega)
          have be := hS (L.getD k 0) (by rw [List.getD_eq_getElem?_getD, List.getElem?_eq_getElem (by omega)]; exact List.getElem_mem _)
          have kz : (k : Int) < 16 := by omega
          have k0 : (0 : Int) ≤ (k : Int) := by omega
          have hst := carry_step L k (by omega)
          have HST : Hid ((carry (L.take k) 0 ++ L.drop k).set k ((L.getD k 0 + cout (L.take k) 0) % 65536) = carry (L.take (k + 1)) 0 ++ L.drop (k + 1) ∧ cout (L.take (k + 1)) 0 = (L.getD k 0 + cout (L.take k) 0) / 65536) := hst
          clear hlen hget hst
          generalize L.getD k 0 = a at *
          generalize cout (L.take k) 0 = c at *
          obtain ⟨bd0, bd1⟩ := bd
          obtain ⟨be0, be1⟩ := be
          have qd : (a + c - (a + c) % 65536).tdiv 65536 = (a + c) / 65536 := by
            rw [show a + c - (a + c) % 65536 = (a + c) / 65536 * 65536 from by omega, Int.mul_tdiv_cancel _ (by decide)]
          go_wp2_with (go_at_call 39; refine (rest_any _ (by omega) (by omega) _).mono ?_; rintro e w' ⟨rfl, hw⟩; rw [hw]; clear hw w')
          go_roundw
          case rel => exact ⟨k + 1, by omega, by go_num, by rw [HST.out.2], by rw [← HST.out.1]; exact hA2.set k _, hZ2.other (by simp) _, hnx2.setCell (Nat.le_refl _) _⟩
          case measure => simp [intOf]; omega
        · obtain rfl : k = 16 := by omega
          rw [List.take_of_length_le (by omega), List.drop_of_length_le (by omega), List.append_nil] at hA2
          rw [List.take_of_length_le (by omega)]
          have hlen : (carry L 0).length = 16 := by rw [carry_length, hL]
          have hc := hA2.cell 0 (by omega)
          have hf := hA2.frozen 0
          have bd := cout_bd L 0 hS (by omega) (by omega)
          obtain ⟨bd0, bd1⟩ := bd
          have HP : Hid (passL L = (carry L 0).set 0 ((carry L 0).getD 0 0 + 38 * cout L 0)) := rfl
          have bg : 0 ≤ (carry L 0).getD 0 0 ∧ (carry L 0).getD 0 0 ≤ 65535 := by
            have h : (carry L 0).getD 0 0 ∈ carry L 0 := by rw [List.getD_eq_getElem?_getD, List.getElem?_eq_getElem (by omega)]; exact List.getElem_mem _
            rw [carry_dg] at h
            rw [carry_dg]
            exact dg_bd _ _ _ h
          obtain ⟨bg0, bg1⟩ := bg
          clear hlen
          generalize (carry L 0).getD 0 0 = a at *
          generalize cout L 0 = c at *
          go_wp2
          go_roundw
          case rel => exact ⟨r + 1, by omega, by go_num, by rw [HT.out, HP.out]; exact hA2.set 0 _, hZ2.other (by simp) _, hnx2.setCell (Nat.le_refl _) _⟩
          case measure => simp [intOf]; omega
    · obtain rfl : r = 3 := by omega
      have hE := carried_eq l hl hs
      have e3 : turns 3 l = dg 16 (cv (val l)) := hE.1
      rw [e3] at hA
      clear e3 hE
      have hi : (Tryd.prog.info? 37).map (·.size) = some 16 := by kernel_rfl
      have hD : (dg 16 (cv (val l))).length = 16 := dg_length _ _
      obtain ⟨D, hDD⟩ : ∃ D, dg 16 (cv (val l)) = D := ⟨_, rfl⟩
      rw [hDD] at hA hD
      have HD : Hid (dg 16 (cv (val l)) = D) := hDD
      clear hDD
      go_wp2_with (first | (refine wpList_load_arr rfl 37 (.tmp 1) rfl w.heap.size rfl D _ hA Tryd.underlying37 rfl (by rw [hD]; exact hi) ?_) | (refine wpList_store_arr rfl 37 (.tmp 2) (.tmp 34) rfl (w.heap.size + 1) D rfl rfl zeros hZ (by rw [hD]; rfl) hi ?_; intro W hW))
      exact bodyPost_ret (results_arr Tryd.results36 _ rfl hW.arr _ Tryd.underlying37 rfl (by rw [hD]; exact hi)) rfl ⟨by rw [HD.out], hW.below _ _ (by omega) hnx⟩

theorem fill_step (l z : List Int) (k : Nat) (hl : k < l.length) (hz : z.length = l.length) : (l.take k ++ z.drop k).set k (l.getD k 0) = l.take (k + 1) ++ z.drop (k + 1) := by
  have h2 : l.getD k 0 = l[k] := by rw [List.getD_eq_getElem?_getD, List.getElem?_eq_getElem hl]; rfl
  have h1 : (l.take k).length = k := by rw [List.length_take, Nat.min_eq_left (by omega)]
  rw [h2, List.take_succ_eq_append_getElem hl, List.set_append_right _ _ (by omega), h1, Nat.sub_self, List.drop_eq_getElem_cons (show k < z.length by omega), List.set_cons_zero, List.append_assoc]
  rfl

set_option maxRecDepth 100000 in
set_option maxHeartbeats 800000 in
theorem numOf_any (s : ByteArray) (hs : s.size = 32) (w : World) :
    Calls Tryd.prog 23 #[.string s] w fun e w' => e = .returned (.agg (ints (dg 16 (N s)))) ∧ Below w.heap.size w w' := by
  have hN := (numL_dg s hs).1
  have hi : (Tryd.prog.info? 37).map (·.size) = some 16 := by kernel_rfl
  go_enter Tryd.func23, Tryd.ntmps23
  go_wp2
  go_loopw [5] (fun i wr => ∃ k : Nat, k ≤ 16 ∧ i = .int .i64 k ∧ Arr wr (w.heap.size + 1) 37 ((numL s).take k ++ zeros.drop k) ∧ Arr wr w.heap.size 37 zeros ∧ Below w.heap.size w wr) (fun i _ => 16 - (intOf i).toNat)
  case atStart =>
    refine ⟨0, by omega, rfl, ?_, (Arr.new w 37 zeros).alloc _, ((Below.refl _ _).alloc (Nat.le_refl _) _).alloc (by simp) _⟩
    have h := Arr.new (w.alloc (.cells (ints zeros) 37)) 37 zeros
    rw [World.size_alloc] at h
    exact h
  case round =>
    obtain ⟨k, hk, rfl, hA, hZ, hnx⟩ := hrel
    by_cases hlt : k < 16
    · have hb := PlainAid.get_bt s
      have x0 := PlainAid.bt_nonneg s (2 * k)
      have x1 := PlainAid.bt_le s (2 * k)
      have y0 := PlainAid.bt_nonneg s (2 * k + 1)
      have y1 := PlainAid.bt_le s (2 * k + 1)
      have HST := fill_step (numL s) zeros k (by rw [numL_length]; exact hlt) (by rw [numL_length]; rfl)
      rw [numL_get s k hlt] at HST
      have HS : Hid (((numL s).take k ++ zeros.drop k).set k (PlainAid.bt s (2 * k) + 256 * PlainAid.bt s (2 * k + 1)) = (numL s).take (k + 1) ++ zeros.drop (k + 1)) := HST
      clear HST hN
      have hlen : ((numL s).take k ++ zeros.drop k).length = 16 := by
        have hz : zeros.length = 16 := rfl
        rw [List.length_append, List.length_take, List.length_drop, numL_length, hz]; omega
      have hc := hA.cell k (by omega)
      have hf := hA.frozen k
      clear hlen
      generalize ((numL s).take k ++ zeros.drop k).getD k 0 = old at *
      have kz : (k : Int) < 16 := by omega
      have k0 : (0 : Int) ≤ (k : Int) := by omega
      have p0 : 2 * (k : Int) < (s.size : Int) := by omega
      have p1 : 2 * (k : Int) + 1 < (s.size : Int) := by omega
      have p2 : (0 : Int) ≤ 2 * (k : Int) := by omega
      have p3 : (0 : Int) ≤ 2 * (k : Int) + 1 := by omega
      have n0 : (2 * (k : Int)).toNat = 2 * k := by omega
      have n1 : (2 * (k : Int) + 1).toNat = 2 * k + 1 := by omega
      have q0 : IntKind.i64.wrap (2 * (k : Int)) = 2 * (k : Int) := IntWalk.i64_in _ ⟨by omega, by omega⟩
      have q1 : IntKind.i64.wrap (2 * (k : Int) + 1) = 2 * (k : Int) + 1 := IntWalk.i64_in _ ⟨by omega, by omega⟩
      have s0 : 2 * k < s.size := by omega
      have s1 : 2 * k + 1 < s.size := by omega
      have HS32 : Hid (s.size = 32) := hs
      clear hs
      go_wp2
      have v0 : IntKind.i64.wrap (PlainAid.bt s (2 * k)) = PlainAid.bt s (2 * k) := IntWalk.i64_in _ ⟨by omega, by omega⟩
      have v1 : IntKind.i64.wrap (PlainAid.bt s (2 * k + 1)) = PlainAid.bt s (2 * k + 1) := IntWalk.i64_in _ ⟨by omega, by omega⟩
      have v2 : IntKind.i64.wrap (256 * PlainAid.bt s (2 * k + 1)) = 256 * PlainAid.bt s (2 * k + 1) := IntWalk.i64_in _ ⟨by omega, by omega⟩
      have v3 : IntKind.i64.wrap (PlainAid.bt s (2 * k) + 256 * PlainAid.bt s (2 * k + 1)) = PlainAid.bt s (2 * k) + 256 * PlainAid.bt s (2 * k + 1) := IntWalk.i64_in _ ⟨by omega, by omega⟩
      go_region_held3 (fun _ => True) (trivial) (fail)
      all_goals
        go_wp2
        go_roundw
        case rel => exact ⟨k + 1, by omega, by go_num, by rw [← HS.out]; exact (hA.set k _).drew, (hZ.other (by simp) _).drew, (hnx.setCell (by simp) _).drew⟩
        case measure => simp [intOf]; omega
    · obtain rfl : k = 16 := by omega
      have e : (numL s).take 16 ++ zeros.drop 16 = dg 16 (N s) := by
        rw [List.take_of_length_le (by rw [numL_length]; omega), List.drop_of_length_le (by show 16 ≤ 16; omega), List.append_nil, hN]
      rw [e] at hA
      have hD : (dg 16 (N s)).length = 16 := dg_length _ _
      clear e hN
      obtain ⟨D, hDD⟩ : ∃ D, dg 16 (N s) = D := ⟨_, rfl⟩
      rw [hDD] at hA hD
      have HD : Hid (dg 16 (N s) = D) := hDD
      clear hDD
      go_wp2_with (first | (refine wpList_load_arr rfl 37 (.tmp 3) rfl (w.heap.size + 1) rfl D _ hA Tryd.underlying37 rfl (by rw [hD]; exact hi) ?_) | (refine wpList_store_arr rfl 37 (.tmp 2) (.tmp 24) rfl w.heap.size D rfl rfl zeros hZ (by rw [hD]; rfl) hi ?_; intro W hW))
      exact bodyPost_ret (results_arr Tryd.results23 _ rfl hW.arr _ Tryd.underlying37 rfl (by rw [hD]; exact hi)) rfl ⟨by rw [HD.out], hW.below _ _ (Nat.le_refl _) hnx⟩

set_option maxRecDepth 100000 in
set_option maxHeartbeats 800000 in
theorem plus_list (l m : List Int) (t : Int) (hl : l.length = 16) (hm : m.length = 16) (bl : ∀ a ∈ l, 0 ≤ a ∧ a ≤ 65535) (bm : ∀ a ∈ m, 0 ≤ a ∧ a ≤ 65535) (t0 : -131072 ≤ t) (t1 : t ≤ 131072) (w : World) :
    Calls Tryd.prog 48 #[.agg (ints l), .agg (ints m), .int .i64 t] w fun e w' => e = .returned (.agg (ints (dg 16 (cv (val l + t * val m))))) ∧ Below w.heap.size w w' := by
  have hi : (Tryd.prog.info? 37).map (·.size) = some 16 := by kernel_rfl
  have hS := plusL_small l m t t0 t1 bl bm (by omega)
  have hP := plusL_length l m t (by omega)
  have HV : Hid (val (plusL l m t) = val l + t * val m) := val_plus l m t (by omega)
  go_enter Tryd.func48, Tryd.ntmps48
  go_wp2
  go_loopw [8] (fun i wr => ∃ k : Nat, k ≤ 16 ∧ i = .int .i64 k ∧ Arr wr w.heap.size 37 ((plusL l m t).take k ++ l.drop k) ∧ Arr wr (w.heap.size + 1) 37 m ∧ Arr wr (w.heap.size + 1 + 1) 37 zeros ∧ Below w.heap.size w wr) (fun i _ => 16 - (intOf i).toNat)
  case atStart =>
    refine ⟨0, by omega, rfl, ((Arr.new w 37 l).alloc _).alloc _, ?_, ?_, (((Below.refl _ _).alloc (Nat.le_refl _) _).alloc (by simp) _).alloc (by simp; omega) _⟩
    · have h := Arr.new (w.alloc (.cells (ints l) 37)) 37 m
      rw [World.size_alloc] at h
      exact h.alloc _
    · have h := Arr.new ((w.alloc (.cells (ints l) 37)).alloc (.cells (ints m) 37)) 37 zeros
      rw [World.size_alloc, World.size_alloc] at h
      exact h
  case round =>
    obtain ⟨k, hk, rfl, hA, hM, hZ, hnx⟩ := hrel
    by_cases hlt : k < 16
    · have HST := fill_step (plusL l m t) l k (by omega) (by omega)
      rw [plusL_get l m t k (by omega) (by omega)] at HST
      have HS : Hid (((plusL l m t).take k ++ l.drop k).set k (l.getD k 0 + t * m.getD k 0) = (plusL l m t).take (k + 1) ++ l.drop (k + 1)) := HST
      clear HST
      have hlen : ((plusL l m t).take k ++ l.drop k).length = 16 := by
        rw [List.length_append, List.length_take, List.length_drop]; omega
      have hc := hA.cell k (by omega)
      have hg : ((plusL l m t).take k ++ l.drop k).getD k 0 = l.getD k 0 := by
        have h1 : ((plusL l m t).take k).length = k := by rw [List.length_take]; omega
        rw [List.getD_eq_getElem?_getD, List.getElem?_append_right (by omega), h1, Nat.sub_self, List.getElem?_drop, Nat.add_zero, List.getD_eq_getElem?_getD]
      rw [hg] at hc
      have hf := hA.frozen k
      have hcm := hM.cell k (by omega)
      have ba := bl _ (mem_getD l k (by omega))
      have bb := bm _ (mem_getD m k (by omega))
      have bt := mul_bd t _ t0 t1 bb.1 bb.2
      clear hlen hg bl bm hS
      generalize l.getD k 0 = a at *
      generalize m.getD k 0 = b at *
      obtain ⟨ba0, ba1⟩ := ba
      obtain ⟨bt0, bt1⟩ := bt
      have kz : (k : Int) < 16 := by omega
      have k0 : (0 : Int) ≤ (k : Int) := by omega
      have v2 : IntKind.i64.wrap (t * b) = t * b := IntWalk.i64_in _ ⟨by omega, by omega⟩
      have v3 : IntKind.i64.wrap (a + t * b) = a + t * b := IntWalk.i64_in _ ⟨by omega, by omega⟩
      clear hl hm hP
      go_wp2
      go_region
      all_goals
        go_wp2
        go_roundw
        case rel => exact ⟨k + 1, by omega, by go_num, by rw [← HS.out]; exact (hA.set k _).drew, (hM.other (by simp) _).drew, (hZ.other (by simp; omega) _).drew, (hnx.setCell (by simp) _).drew⟩
        case measure => simp [intOf]; omega
    · obtain rfl : k = 16 := by omega
      have e : (plusL l m t).take 16 ++ l.drop 16 = plusL l m t := by
        rw [List.take_of_length_le (by omega), List.drop_of_length_le (by omega), List.append_nil]
      rw [e] at hA
      rw [hl] at hP
      clear e
      have sz := hnx.size
      have hzl := hZ.lt
      generalize plusL l m t = L at *
      go_wp2_with (first | (refine wpList_load_arr rfl 37 (.tmp 3) rfl w.heap.size rfl L _ hA Tryd.underlying37 rfl (by rw [hP]; exact hi) ?_) | (go_at_call 36; refine (carried_any L hP hS _).mono ?_; rintro e w5 ⟨rfl, hb5⟩) | (refine wpList_store_arr rfl 37 (.tmp 6) (.tmp 23) rfl (w.heap.size + 1 + 1) _ rfl rfl zeros (hZ.below hb5 hzl) (by rw [dg_length]; rfl) hi ?_; intro W hW))
      exact bodyPost_ret (results_arr Tryd.results48 _ rfl hW.arr _ Tryd.underlying37 rfl (by rw [dg_length]; exact hi)) rfl ⟨by rw [HV.out], hW.below _ _ (by omega) (hnx.trans (hb5.mono sz))⟩
end Go.Proofs.YtdpokjhoedhadaaDoor.num
