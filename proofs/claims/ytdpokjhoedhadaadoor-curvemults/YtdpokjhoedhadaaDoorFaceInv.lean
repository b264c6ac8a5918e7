/-
  THE WALKS OF package elem's Inv.
-/
import Derived.Test.YtdpokjhoedhadaaDoorLimbOne
import Derived.Test.YtdpokjhoedhadaaDoorLimbTab
namespace Go.Proofs.YtdpokjhoedhadaaDoor.limb
open Go.RowKit
open Go.Proofs.YtdpokjhoedhadaaDoor.num (P N nB nB_bd mem_getD leB emod_mul einv einv_val)

theorem pow_mod (x : Int) (n : Nat) : (x % P) ^ n % P = x ^ n % P := by
  induction n with
  | zero => rw [Int.pow_zero, Int.pow_zero]
  | succ n ih =>
    rw [Int.pow_succ, Int.pow_succ]
    exact emod_mul _ _ _ _ _ ih (by rw [Int.emod_emod_of_dvd _ (Int.dvd_refl _)])
/-- 2^255 - 21, in limbs. -/
def lessL : List Int := [4294967275, 4294967295, 4294967295, 4294967295, 4294967295, 4294967295, 4294967295, 2147483647]
theorem lessL_eq : lessL = dg 8 (einv : Int) := by rw [einv_val]; decide

set_option maxRecDepth 100000 in
theorem inv1_list (l r : List Int) (hl : l.length = 8) (hr : r.length = 8) (hp : ∀ W, Calls Tryd.prog 64 #[.agg (ints l), .agg (ints lessL)] W fun e w' => e = .returned (.agg (ints r)) ∧ Below W.heap.size W w') (w : World) (hT : Tab w 0 lessL) :
    Calls Tryd.prog 63 #[.agg (ints l)] w fun e w' => e = .returned (.agg (ints r)) ∧ Below w.heap.size w w' := by
  have hL : Arr ((w.alloc (.cells (ints l) 59)).alloc (.cells (ints zeros) 59)) w.heap.size 59 l := (Arr.new w 59 l).alloc _
  have hZ : Arr ((w.alloc (.cells (ints l) 59)).alloc (.cells (ints zeros) 59)) (w.heap.size + 1) 59 zeros := by
    have h := Arr.new (w.alloc (.cells (ints l) 59)) 59 zeros
    rw [World.size_alloc] at h
    exact h
  have hX : Below w.heap.size w ((w.alloc (.cells (ints l) 59)).alloc (.cells (ints zeros) 59)) := ((Below.refl _ _).alloc (Nat.le_refl _) _).alloc (by simp) _
  have hM : Tab ((w.alloc (.cells (ints l) 59)).alloc (.cells (ints zeros) 59)) 0 lessL := hT.below hX hT.lt
  have hzl := hZ.lt
  have sz := hX.size
  go_enter Tryd.func63, Tryd.ntmps63
  go_wp2_with (first | (refine wpList_load_arr rfl 59 (.tmp 1) rfl w.heap.size rfl l _ hL Tryd.underlying59 rfl (by rw [hl]; exact infoNR) ?_) | (refine wpList_load_tab rfl 59 (.global 0) rfl 0 rfl lessL rfl _ hM Tryd.underlying59 rfl infoNR ?_) | (go_at_call 64; refine (hp _).mono ?_; rintro e w5 ⟨rfl, hb5⟩) | (refine wpList_store_arr rfl 59 (.tmp 2) (.tmp 5) rfl (w.heap.size + 1) r rfl rfl zeros (hZ.below hb5 hzl) (by rw [hr]; rfl) infoNR ?_; intro W5 hW5))
  exact bodyPost_ret (results_arr Tryd.results63 _ rfl hW5.arr _ Tryd.underlying59 rfl (by rw [hr]; exact infoNR)) rfl ⟨rfl, hW5.below _ _ (by omega) (hX.trans (hb5.mono sz))⟩
end Go.Proofs.YtdpokjhoedhadaaDoor.limb
namespace Go.Proofs.YtdpokjhoedhadaaDoor.num
open Go.RowKit
open Go.Proofs.YtdpokjhoedhadaaDoor.limb (ofOne_any one_good one_bad power_any mod_bd enter_of pow_mod lessL_eq inv1_list)
theorem inv_good (a : ByteArray) (ha : a.size = 32) (w : World) (hT : limb.Tab w 0 limb.lessL) :
    Calls Tryd.prog 47 #[.string a] w fun e w' => e = .returned (.tuple #[.string (text (N a ^ einv)), .int .i64 0]) ∧ Below w.heap.size w w' := by
  have hX : Below w.heap.size w (w.alloc (.cells #[.func (.func 63) #[] #[]] 60)) := (Below.refl _ _).alloc (Nat.le_refl _) _
  have hdc : ∀ W, Calls Tryd.prog 64 #[.agg (limb.ints (limb.dg 8 (N a % P))), .agg (limb.ints limb.lessL)] W fun e w' => e = .returned (.agg (limb.ints (limb.dg 8 (N a ^ einv % P)))) ∧ Below W.heap.size W w' := fun W => by
    have h := power_any (N a % P) (mod_bd _).1 (mod_bd _).2 einv (by have := einv_val; unfold P at this; omega) W
    rw [← lessL_eq, pow_mod] at h
    exact h
  have h1 := one_good a ha 63 #[] (N a ^ einv) w.heap.size (w.alloc (.cells #[.func (.func 63) #[] #[]] 60)) (enter_of Tryd.func63 (by kernel_rfl) rfl) (by simp) (fun W hbW => inv1_list (limb.dg 8 (N a % P)) (limb.dg 8 (N a ^ einv % P)) (limb.dg_length _ _) (limb.dg_length _ _) hdc W ((hT.below hX hT.lt).below hbW (Nat.lt_of_lt_of_le hT.lt hX.size)))
  have H : Hid (a.size = 32) := ha
  clear ha hdc
  go_enter Tryd.func47, Tryd.ntmps47
  go_wp2_with (first | (go_at_call 41; refine (ofOne_any _ _ _ _).mono ?_; rintro e w1 ⟨rfl, rfl⟩) | (go_at_call 56; refine h1.mono ?_; rintro e w2 ⟨rfl, hb2⟩))
  go_ret2
  exact ⟨rfl, hX.trans (hb2.mono (by simp))⟩
theorem inv_bad (a : ByteArray) (ha : a.size ≠ 32) (w : World) :
    Calls Tryd.prog 47 #[.string a] w fun e w' => e = .returned (.tuple #[.string ⟨#[]⟩, .int .i64 1]) ∧ Below w.heap.size w w' := by
  have h1 := one_bad a ha (.pointer (some ⟨w.heap.size, 0, none⟩)) (w.alloc (.cells #[.func (.func 63) #[] #[]] 60))
  have hX : Below w.heap.size w (w.alloc (.cells #[.func (.func 63) #[] #[]] 60)) := (Below.refl _ _).alloc (Nat.le_refl _) _
  have H : Hid (a.size ≠ 32) := ha
  clear ha
  go_enter Tryd.func47, Tryd.ntmps47
  go_wp2_with (first | (go_at_call 41; refine (ofOne_any _ _ _ _).mono ?_; rintro e w1 ⟨rfl, rfl⟩) | (go_at_call 56; refine h1.mono ?_; rintro e w2 ⟨rfl, rfl⟩))
  go_ret2
  exact ⟨rfl, hX⟩
end Go.Proofs.YtdpokjhoedhadaaDoor.num
