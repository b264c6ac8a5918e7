/-
  THE WALKS OF package elem's Low.
-/
import Derived.Test.YtdpokjhoedhadaaDoorLimbOne
namespace Go.Proofs.YtdpokjhoedhadaaDoor.limb
open Go.RowKit
open Go.Proofs.YtdpokjhoedhadaaDoor.num (P N nB nB_bd mem_getD leB)

set_option maxRecDepth 100000 in
theorem same_any (l : List Int) (hl : l.length = 8) (w : World) :
    Calls Tryd.prog 42 #[.agg (ints l)] w fun e w' => e = .returned (.agg (ints l)) ∧ Below w.heap.size w w' := by
  have hL : Arr ((w.alloc (.cells (ints l) 59)).alloc (.cells (ints zeros) 59)) w.heap.size 59 l := (Arr.new w 59 l).alloc _
  have hZ : Arr ((w.alloc (.cells (ints l) 59)).alloc (.cells (ints zeros) 59)) (w.heap.size + 1) 59 zeros := by
    have h := Arr.new (w.alloc (.cells (ints l) 59)) 59 zeros
    rw [World.size_alloc] at h
    exact h
  have hX : Below w.heap.size w ((w.alloc (.cells (ints l) 59)).alloc (.cells (ints zeros) 59)) := ((Below.refl _ _).alloc (Nat.le_refl _) _).alloc (by simp) _
  go_enter Tryd.func42, Tryd.ntmps42
  go_wp2_with (first | (refine wpList_load_arr rfl 59 (.tmp 1) rfl w.heap.size rfl l _ hL Tryd.underlying59 rfl (by rw [hl]; exact infoNR) ?_) | (refine wpList_store_arr rfl 59 (.tmp 2) (.tmp 3) rfl (w.heap.size + 1) l rfl rfl zeros hZ (by rw [hl]; rfl) infoNR ?_; intro W5 hW5))
  exact bodyPost_ret (results_arr Tryd.results42 _ rfl hW5.arr _ Tryd.underlying59 rfl (by rw [hl]; exact infoNR)) rfl ⟨rfl, hW5.below _ _ (by omega) hX⟩
end Go.Proofs.YtdpokjhoedhadaaDoor.limb
namespace Go.Proofs.YtdpokjhoedhadaaDoor.num
open Go.RowKit
open Go.Proofs.YtdpokjhoedhadaaDoor.limb (ofOne_any one_good one_bad same_any enter_of)
theorem low_good (a : ByteArray) (ha : a.size = 32) (w : World) :
    Calls Tryd.prog 30 #[.string a] w fun e w' => e = .returned (.tuple #[.string (text (N a)), .int .i64 0]) ∧ Below w.heap.size w w' := by
  have h1 := one_good a ha 42 #[] (N a) w.heap.size (w.alloc (.cells #[.func (.func 42) #[] #[]] 60)) (enter_of Tryd.func42 (by kernel_rfl) rfl) (by simp) (fun W _ => same_any (limb.dg 8 (N a % P)) (limb.dg_length _ _) W)
  have hX : Below w.heap.size w (w.alloc (.cells #[.func (.func 42) #[] #[]] 60)) := (Below.refl _ _).alloc (Nat.le_refl _) _
  have H : Hid (a.size = 32) := ha
  clear ha
  go_enter Tryd.func30, Tryd.ntmps30
  go_wp2_with (first | (go_at_call 41; refine (ofOne_any _ _ _ _).mono ?_; rintro e w1 ⟨rfl, rfl⟩) | (go_at_call 56; refine h1.mono ?_; rintro e w2 ⟨rfl, hb2⟩))
  go_ret2
  exact ⟨rfl, hX.trans (hb2.mono (by simp))⟩
theorem low_bad (a : ByteArray) (ha : a.size ≠ 32) (w : World) :
    Calls Tryd.prog 30 #[.string a] w fun e w' => e = .returned (.tuple #[.string ⟨#[]⟩, .int .i64 1]) ∧ Below w.heap.size w w' := by
  have h1 := one_bad a ha (.pointer (some ⟨w.heap.size, 0, none⟩)) (w.alloc (.cells #[.func (.func 42) #[] #[]] 60))
  have hX : Below w.heap.size w (w.alloc (.cells #[.func (.func 42) #[] #[]] 60)) := (Below.refl _ _).alloc (Nat.le_refl _) _
  have H : Hid (a.size ≠ 32) := ha
  clear ha
  go_enter Tryd.func30, Tryd.ntmps30
  go_wp2_with (first | (go_at_call 41; refine (ofOne_any _ _ _ _).mono ?_; rintro e w1 ⟨rfl, rfl⟩) | (go_at_call 56; refine h1.mono ?_; rintro e w2 ⟨rfl, rfl⟩))
  go_ret2
  exact ⟨rfl, hX⟩
end Go.Proofs.YtdpokjhoedhadaaDoor.num
