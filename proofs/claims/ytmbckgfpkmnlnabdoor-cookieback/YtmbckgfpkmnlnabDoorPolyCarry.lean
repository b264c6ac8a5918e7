/-
  THE WALKS OF package poly's numbers: carried, plus.
-/
import Derived.Test.YtmbckgfpkmnlnabDoorPlainLong
import Derived.Test.YtmbckgfpkmnlnabDoorWu
import Derived.Test.YtmbckgfpkmnlnabDoorProg
import Derived.WalkKit
import Derived.ProofKit
import Derived.Deep.RegionHeld3
import Derived.Deep.MidRow
import Derived.Deep.QuietTactic
import Derived.BigQuiet
import Derived.BigRegion
import Derived.WalkSmall
import Derived.PlainAid
namespace Go.Proofs.YtmbckgfpkmnlnabDoor.pol
open Go.RowKit
open Go.Proofs.YtmbckgfpkmnlnabDoor.u64

def z5 : List Nat := [0, 0, 0, 0, 0]
theorem infoNR : (Tryd.prog.info? 97).map (·.size) = some 5 := by kernel_rfl
theorem infoU64 : (Tryd.prog.info? 60).map (fun i => (i.zero, i.size, i.bytes)) = some (some (.int .u64 0), 1, 8) := by kernel_rfl
theorem idx5 (l : List Nat) (hl : l.length = 5) (k : Nat) (hk : k < 5) (w : World) : (Instr.index 97 (.agg (wu l).toArray) (.int .i64 (k : Int))).run Tryd.prog w = .ok (.int .u64 ((l.getD k 0 : Nat) : Int)) w := by
  obtain ⟨j0, hj, _, hj1, _⟩ := info_parts infoU64
  exact run_index_wu Tryd.underlying97 Tryd.underlying60 hj hj1 l k hk (by omega) w
theorem mask26 (a : Nat) (ha : a < 18446744073709551616) : bits .and .u64 (a : Int) 67108863 = ((a % 67108864 : Nat) : Int) := mask64 a 26 ha (by decide)

set_option maxRecDepth 100000 in
set_option maxHeartbeats 800000 in
theorem carried_any (l : List Nat) (hl : l.length = 5) (hs : ∀ a ∈ l, a ≤ 4611686018427387904) (w : World) :
    Calls Tryd.prog 76 #[.agg (wu l).toArray] w fun e w' => e = .returned (.tuple #[.agg (wu (dg 67108864 5 (val 67108864 l))).toArray, .int .u64 ((val 67108864 l / 67108864 ^ 5 : Nat) : Int)]) ∧ Below w.heap.size w w' := by
  have hB : 0 < 67108864 := by decide
  have hL : Arr ((w.alloc (.cells (wu l).toArray 97)).alloc (.cells (wu z5).toArray 97)) w.heap.size 97 l := (Arr.new w 97 l).alloc _
  have hZ : Arr ((w.alloc (.cells (wu l).toArray 97)).alloc (.cells (wu z5).toArray 97)) (w.heap.size + 1) 97 z5 := by
    have h := Arr.new (w.alloc (.cells (wu l).toArray 97)) 97 z5
    rw [World.size_alloc] at h
    exact h
  have hX : Below w.heap.size w ((w.alloc (.cells (wu l).toArray 97)).alloc (.cells (wu z5).toArray 97)) := ((Below.refl _ _).alloc (Nat.le_refl _) _).alloc (by simp) _
  have hb : ∀ k, cout 67108864 (l.take k) 0 ≤ 137438953472 := fun k => cout_le hB _ _ _ (fun a ha => by have := hs a (List.mem_of_mem_take ha); omega) (by omega)
  go_enter Tryd.func76, Tryd.ntmps76
  go_wp2_with (refine wpList_load_arr rfl 97 (.tmp 1) rfl w.heap.size rfl hL _ Tryd.underlying97 rfl (by rw [hl]; exact infoNR) ?_)
  go_loopw [8, 4] (fun i c wr => ∃ k : Nat, k ≤ 5 ∧ i = .int .i64 k ∧ c = .int .u64 ((cout 67108864 (l.take k) 0 : Nat) : Int) ∧ Arr wr w.heap.size 97 (carry 67108864 (l.take k) 0 ++ l.drop k) ∧ Arr wr (w.heap.size + 1) 97 z5 ∧ Below w.heap.size w wr) (fun i _ _ => 5 - (intOf i).toNat)
  case atStart => exact ⟨0, by omega, rfl, rfl, hL, hZ, hX⟩
  case round =>
    clear hL hZ hX
    obtain ⟨k, hk, rfl, rfl, hA, hZ, hnx⟩ := hrel
    by_cases hlt : k < 5
    · have hix := idx5 l hl k hlt
      have HST := carry_step hB l l 0 k (by omega) rfl
      have hcl : (carry 67108864 (l.take k) 0).length = k := by rw [carry_length hB, List.length_take]; omega
      have hc := hA.cell k (by rw [part_length _ _ _ hcl (by omega)]; omega)
      have hf := hA.frozen k
      rw [part_getD _ _ _ hcl] at hc
      have ba := getD_le hs k
      have bc := hb k
      clear hb hcl
      generalize l.getD k 0 = a at *
      generalize cout 67108864 (l.take k) 0 = c at *
      have HS : Hid _ := HST
      clear HST
      obtain ⟨x, hx⟩ : ∃ x, x = a + c := ⟨_, rfl⟩
      rw [← hx] at HS
      have e1 : (c : Int) + (a : Int) = (x : Int) := by omega
      have x1 : (x : Int) < 18446744073709551616 := by omega
      have e2 := mask26 x (by omega)
      have e3 : (x : Int) / 67108864 = ((x / 67108864 : Nat) : Int) := by omega
      generalize x % 67108864 = y at *
      generalize x / 67108864 = z at *
      have kz : (k : Int) < 5 := by omega
      have k0 : (0 : Int) ≤ (k : Int) := by omega
      have HL : Hid (l.length = 5) := hl
      clear hl hs hx
      go_wp2
      go_roundw
      case rel => exact ⟨k + 1, by omega, by go_num, by rw [HS.out.2], by rw [← HS.out.1]; exact hA.set k _, hZ.other (by simp) _, hnx.setCell (by simp) _⟩
      case measure => simp [intOf]; omega
    · obtain rfl : k = 5 := by omega
      rw [List.take_of_length_le (by omega), List.drop_of_length_le (by omega), List.append_nil, carry_dg hB, hl, Nat.add_zero] at hA
      rw [List.take_of_length_le (by omega), cout_eq hB, hl]
      have hd := dg_length 67108864 5 (val 67108864 l)
      clear hb
      obtain ⟨D, hD⟩ : ∃ D, dg 67108864 5 (val 67108864 l) = D := ⟨_, rfl⟩
      obtain ⟨c, hc⟩ : ∃ c, (val 67108864 l + 0) / 67108864 ^ 5 = c := ⟨_, rfl⟩
      rw [hD] at hA hd
      rw [hc]
      have HD : Hid (dg 67108864 5 (val 67108864 l) = D) := hD
      have HC : Hid (val 67108864 l / 67108864 ^ 5 = c) := hc
      clear hD hc
      go_wp2_with (first | (refine wpList_load_arr rfl 97 (.tmp 1) rfl w.heap.size rfl hA _ Tryd.underlying97 rfl (by rw [hd]; exact infoNR) ?_) | (refine wpList_store_arr rfl 97 (.tmp 2) (.tmp 22) rfl (w.heap.size + 1) _ rfl rfl hZ (by rw [hd]; rfl) infoNR ?_; intro W hW))
      exact bodyPost_ret (results_arr_tmp Tryd.results76 _ rfl rfl hW.arr _ Tryd.underlying97 rfl (by rw [hd]; exact infoNR)) rfl ⟨by rw [HD.out, HC.out]; rfl, hW.below _ _ (by omega) hnx⟩

set_option maxRecDepth 100000 in
set_option maxHeartbeats 800000 in
theorem plus_any (l m : List Nat) (hl : l.length = 5) (hm : m.length = 5) (bl : ∀ a ∈ l, a ≤ 4611686018427387904) (bm : ∀ a ∈ m, a ≤ 4611686018427387904) (w : World) :
    Calls Tryd.prog 69 #[.agg (wu l).toArray, .agg (wu m).toArray] w fun e w' => e = .returned (.agg (wu (plusL l m)).toArray) ∧ Below w.heap.size w w' := by
  have hL : Arr (((w.alloc (.cells (wu l).toArray 97)).alloc (.cells (wu m).toArray 97)).alloc (.cells (wu z5).toArray 97)) w.heap.size 97 l := ((Arr.new w 97 l).alloc _).alloc _
  have hM : Arr (((w.alloc (.cells (wu l).toArray 97)).alloc (.cells (wu m).toArray 97)).alloc (.cells (wu z5).toArray 97)) (w.heap.size + 1) 97 m := by
    have h := Arr.new (w.alloc (.cells (wu l).toArray 97)) 97 m
    rw [World.size_alloc] at h
    exact h.alloc _
  have hZ : Arr (((w.alloc (.cells (wu l).toArray 97)).alloc (.cells (wu m).toArray 97)).alloc (.cells (wu z5).toArray 97)) (w.heap.size + 1 + 1) 97 z5 := by
    have h := Arr.new ((w.alloc (.cells (wu l).toArray 97)).alloc (.cells (wu m).toArray 97)) 97 z5
    rw [World.size_alloc, World.size_alloc] at h
    exact h
  have hX : Below w.heap.size w (((w.alloc (.cells (wu l).toArray 97)).alloc (.cells (wu m).toArray 97)).alloc (.cells (wu z5).toArray 97)) := (((Below.refl _ _).alloc (Nat.le_refl _) _).alloc (by simp) _).alloc (by simp; omega) _
  have hP := plusL_length l m (by omega)
  go_enter Tryd.func69, Tryd.ntmps69
  go_wp2_with (refine wpList_load_arr rfl 97 (.tmp 3) rfl (w.heap.size + 1) rfl hM _ Tryd.underlying97 rfl (by rw [hm]; exact infoNR) ?_)
  go_loopw [8] (fun i wr => ∃ k : Nat, k ≤ 5 ∧ i = .int .i64 k ∧ Arr wr w.heap.size 97 ((plusL l m).take k ++ l.drop k) ∧ Arr wr (w.heap.size + 1 + 1) 97 z5 ∧ Below w.heap.size w wr) (fun i _ => 5 - (intOf i).toNat)
  case atStart => exact ⟨0, by omega, rfl, hL, hZ, hX⟩
  case round =>
    clear hL hM hZ hX
    obtain ⟨k, hk, rfl, hA, hZ, hnx⟩ := hrel
    by_cases hlt : k < 5
    · have hix := idx5 m hm k hlt
      have hcl : ((plusL l m).take k).length = k := by rw [List.length_take]; omega
      have hc := hA.cell k (by rw [part_length _ _ _ hcl (by omega)]; omega)
      have hf := hA.frozen k
      rw [part_getD _ _ _ hcl] at hc
      have HST := set_part ((plusL l m).take k) l k ((plusL l m).getD k 0) hcl (by omega)
      rw [← get_take _ _ (by omega), plusL_get l m k (by omega) (by omega)] at HST
      have ba := getD_le bl k
      have bb := getD_le bm k
      clear hcl bl bm
      generalize l.getD k 0 = a at *
      generalize m.getD k 0 = b at *
      obtain ⟨x, hx⟩ : ∃ x, x = a + b := ⟨_, rfl⟩
      rw [← hx] at HST
      have HS : Hid _ := HST
      clear HST
      have e1 : (a : Int) + (b : Int) = (x : Int) := by omega
      have x1 : (x : Int) < 18446744073709551616 := by omega
      have kz : (k : Int) < 5 := by omega
      have k0 : (0 : Int) ≤ (k : Int) := by omega
      have HL : Hid (l.length = 5) := hl
      clear hl hm hP hx
      go_wp2
      go_roundw
      case rel => exact ⟨k + 1, by omega, by go_num, by rw [← HS.out]; exact hA.set k _, hZ.other (by simp; omega) _, hnx.setCell (by simp) _⟩
      case measure => simp [intOf]; omega
    · obtain rfl : k = 5 := by omega
      rw [List.take_of_length_le (by omega), List.drop_of_length_le (by omega), List.append_nil] at hA
      rw [hl] at hP
      obtain ⟨D, hD⟩ : ∃ D, plusL l m = D := ⟨_, rfl⟩
      rw [hD] at hA hP
      have HD : Hid (plusL l m = D) := hD
      clear hD
      go_wp2_with (first | (refine wpList_load_arr rfl 97 (.tmp 2) rfl w.heap.size rfl hA _ Tryd.underlying97 rfl (by rw [hP]; exact infoNR) ?_) | (refine wpList_store_arr rfl 97 (.tmp 4) (.tmp 19) rfl (w.heap.size + 1 + 1) _ rfl rfl hZ (by rw [hP]; rfl) infoNR ?_; intro W hW))
      exact bodyPost_ret (results_arr Tryd.results69 _ rfl hW.arr _ Tryd.underlying97 rfl (by rw [hP]; exact infoNR)) rfl ⟨by rw [HD.out], hW.below _ _ (by omega) hnx⟩
end Go.Proofs.YtmbckgfpkmnlnabDoor.pol
