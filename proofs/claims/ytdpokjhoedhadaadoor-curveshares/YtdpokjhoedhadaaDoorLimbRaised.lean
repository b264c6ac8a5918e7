/-
  THE WALK OF package elem's numbers: raised.
-/
import Derived.Test.YtdpokjhoedhadaaDoorProg
import Derived.Test.YtdpokjhoedhadaaDoorPlainLimb
import Derived.Test.YtdpokjhoedhadaaDoorArrLimb
import Derived.WalkKit
import Derived.ProofKit
import Derived.Deep.RegionHeld3
import Derived.Deep.MidRow
import Derived.Deep.QuietTactic
import Derived.BigQuiet
import Derived.WalkSmall
import Derived.PlainAid
import Derived.Outline
namespace Go.Proofs.YtdpokjhoedhadaaDoor.limb
open Go.RowKit

def zeros : List Int := List.replicate 8 0
theorem infoNR : (Tryd.prog.info? 59).map (·.size) = some 8 := by kernel_rfl
theorem infoU32 : (Tryd.prog.info? 57).map (fun i => (i.zero, i.size, i.bytes)) = some (some (.int .u32 0), 1, 4) := by kernel_rfl
theorem idx (l : List Int) (hl : l.length = 8) (k : Nat) (hk : k < 8) (w : World) : (Instr.index 59 (.agg (ints l)) (.int .i64 (k : Int))).run Tryd.prog w = .ok (.int .u32 (l.getD k 0)) w := by
  obtain ⟨j0, hj, _, hj1, _⟩ := info_parts infoU32
  exact run_index_ints Tryd.underlying59 Tryd.underlying57 hj hj1 l k hk (by omega) w

set_option maxRecDepth 100000 in
set_option maxHeartbeats 800000 in
theorem raised_any (l : List Int) (hl : l.length = 8) (hs : ok l) (x : Int) (x0 : 0 ≤ x) (x1 : x < 4294967296) (w : World) :
    Calls Tryd.prog 77 #[.agg (ints l), .int .u32 x] w fun e w' => e = .returned (.tuple #[.agg (ints (dg 8 (val l + x))), .int .u32 ((val l + x) / 115792089237316195423570985008687907853269984665640564039457584007913129639936)]) ∧ Below w.heap.size w w' := by
  have hL : Arr ((w.alloc (.cells (ints l) 59)).alloc (.cells (ints zeros) 59)) w.heap.size 59 l := (Arr.new w 59 l).alloc _
  have hZ : Arr ((w.alloc (.cells (ints l) 59)).alloc (.cells (ints zeros) 59)) (w.heap.size + 1) 59 zeros := by
    have h := Arr.new (w.alloc (.cells (ints l) 59)) 59 zeros
    rw [World.size_alloc] at h
    exact h
  have hX : Below w.heap.size w ((w.alloc (.cells (ints l) 59)).alloc (.cells (ints zeros) 59)) := ((Below.refl _ _).alloc (Nat.le_refl _) _).alloc (by simp) _
  have hb : ∀ k, 0 ≤ cout (l.take k) x ∧ cout (l.take k) x ≤ 4294967296 := fun k => cout_bd _ _ 0 4294967296 (fun a ha => by have := hs a (List.mem_of_mem_take ha); omega) x0 (by omega)
  go_enter Tryd.func77, Tryd.ntmps77
  go_wp2_with (refine wpList_load_arr rfl 59 (.tmp 2) rfl w.heap.size rfl l _ hL Tryd.underlying59 rfl (by rw [hl]; exact infoNR) ?_)
  go_loopw [12, 6] (fun i c wr => ∃ k : Nat, k ≤ 8 ∧ i = .int .i64 k ∧ c = .int .u64 (cout (l.take k) x) ∧ Arr wr w.heap.size 59 (carry (l.take k) x ++ l.drop k) ∧ Arr wr (w.heap.size + 1) 59 zeros ∧ Below w.heap.size w wr) (fun i _ _ => 8 - (intOf i).toNat)
  case atStart => exact ⟨0, by omega, rfl, by simp [cout], hL, hZ, hX⟩
  case round =>
    clear hL hZ hX
    obtain ⟨k, hk, rfl, rfl, hA, hZ, hnx⟩ := hrel
    by_cases hlt : k < 8
    · have hix := idx l hl k hlt
      have HST := carry_step l l x k (by omega) rfl
      have hp := part_get l l x k (by omega) rfl
      have hc := hA.cell k (by rw [hp.2]; omega)
      have hf := hA.frozen k
      rw [hp.1] at hc
      have ba := ok_get hs k
      have bc := hb k
      clear hp hb
      generalize l.getD k 0 = a at *
      generalize cout (l.take k) x = c at *
      have HS : Hid _ := HST
      clear HST
      obtain ⟨ba0, ba1⟩ := ba
      obtain ⟨bc0, bc1⟩ := bc
      have kz : (k : Int) < 8 := by omega
      have k0 : (0 : Int) ≤ (k : Int) := by omega
      have HL : Hid (l.length = 8) := hl
      clear hl hs
      rw [Int.add_comm a c] at HS
      go_wp2
      go_roundw
      case rel => exact ⟨k + 1, by omega, by go_num, by rw [HS.out.2], by rw [← HS.out.1]; exact hA.set k _, hZ.other (by simp) _, hnx.setCell (by simp) _⟩
      case measure => simp [intOf]; omega
    · obtain rfl : k = 8 := by omega
      have hE := part_end l l x rfl
      rw [hl] at hE
      have h8 := cout8 l x hl
      rw [hE.1, h8.2] at hA
      rw [hE.2, h8.1]
      have hv := val8 l hl hs
      have hd := dg_length 8 (val l + x)
      have hcb : 0 ≤ (val l + x) / 115792089237316195423570985008687907853269984665640564039457584007913129639936 ∧ (val l + x) / 115792089237316195423570985008687907853269984665640564039457584007913129639936 < 4294967296 := by omega
      clear hE h8 hb hv
      generalize hD : dg 8 (val l + x) = D at *
      generalize hC : (val l + x) / 115792089237316195423570985008687907853269984665640564039457584007913129639936 = c at *
      have HD : Hid (dg 8 (val l + x) = D) := hD
      have HC : Hid ((val l + x) / 115792089237316195423570985008687907853269984665640564039457584007913129639936 = c) := hC
      clear hD hC
      obtain ⟨c0, c1⟩ := hcb
      go_wp2_with (first | (refine wpList_load_arr rfl 59 (.tmp 2) rfl w.heap.size rfl D _ hA Tryd.underlying59 rfl (by rw [hd]; exact infoNR) ?_) | (refine wpList_store_arr rfl 59 (.tmp 4) (.tmp 27) rfl (w.heap.size + 1) _ rfl rfl zeros hZ (by rw [hd]; rfl) infoNR ?_; intro W hW))
      exact bodyPost_ret (results_arr_tmp Tryd.results77 _ rfl rfl hW.arr _ Tryd.underlying59 rfl (by rw [hd]; exact infoNR)) rfl ⟨by rw [HD.out, HC.out]; rfl, hW.below _ _ (by omega) hnx⟩
end Go.Proofs.YtdpokjhoedhadaaDoor.limb
