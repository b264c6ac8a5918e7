/-
  THE WALK OF the document's own Clamp.
-/
import Derived.Test.YtdpokjhoedhadaaDoorChr
import Derived.PlainAid
import Derived.Test.YtdpokjhoedhadaaDoorUp
import Derived.Laws.DeepStrings4
namespace Go.Proofs.YtdpokjhoedhadaaDoor.num
open Go.RowKit

/-- Clamped. -/
def clampB (k : ByteArray) : ByteArray := ⟨#[UInt8.ofNat (PlainAid.bt k 0 / 8 * 8).toNat]⟩ ++ k.extract 1 31 ++ ⟨#[UInt8.ofNat (PlainAid.bt k 31 % 64 + 64).toNat]⟩

theorem clamp_bad (k : ByteArray) (h : k.size ≠ 32) (w : World) :
    Calls Tryd.prog 20 #[.string k] w fun e w' => e = .returned (.tuple #[.string ⟨#[]⟩, .int .i64 1]) ∧ w' = w := by
  have t1 : ((k.size : Int) != 32) = true := by rw [bne_iff_ne]; omega
  clear h
  go_enter Tryd.func20, Tryd.ntmps20
  go_wp2
  go_ret2
  exact ⟨rfl, rfl⟩

set_option maxHeartbeats 1600000 in
theorem clamp_good (k : ByteArray) (h : k.size = 32) (w : World) :
    Calls Tryd.prog 20 #[.string k] w fun e w' => e = .returned (.tuple #[.string (clampB k), .int .i64 0]) ∧ Below w.heap.size w w' := by
  have t1 : ((k.size : Int) != 32) = false := by rw [bne_eq_false_iff_eq]; omega
  have hb := PlainAid.get_bt k
  have i0 : 0 < k.size := by omega
  have i1 : 31 < k.size := by omega
  have j0 : (0 : Int) < (k.size : Int) := by omega
  have j1 : (31 : Int) < (k.size : Int) := by omega
  have b0 := PlainAid.bt_nonneg k 0
  have b1 := PlainAid.bt_le k 0
  have b2 := PlainAid.bt_nonneg k 31
  have b3 := PlainAid.bt_le k 31
  have q0 : (PlainAid.bt k 0).tdiv 8 = PlainAid.bt k 0 / 8 := Int.tdiv_eq_ediv_of_nonneg b0
  have q1 : (PlainAid.bt k 31).tmod 64 = PlainAid.bt k 31 % 64 := Int.tmod_eq_emod_of_nonneg b2
  have hsl : ∀ u : World, (Instr.slice 9 (.string k) (some (.int .i64 1)) (some (.int .i64 31)) none).run Tryd.prog u = .ok (.string (k.extract 1 31)) u := fun u => by
    have hh := run_slice_string_if (P := Tryd.prog) u 9 k .i64 .i64 1 31 Tryd.underlying9
    rw [if_pos (by omega), if_pos (by omega)] at hh
    exact hh
  have hx : (k.extract 1 31).size = 30 := by rw [ByteArray.size_extract]; omega
  have HK : Hid (clampB k = ⟨#[UInt8.ofNat (PlainAid.bt k 0 / 8 * 8).toNat]⟩ ++ k.extract 1 31 ++ ⟨#[UInt8.ofNat (PlainAid.bt k 31 % 64 + 64).toNat]⟩) := rfl
  generalize k.extract 1 31 = x at *
  have f0 := chr_any (PlainAid.bt k 0 / 8 * 8) (by omega) (by omega)
  have f1 := chr_any (PlainAid.bt k 31 % 64 + 64) (by omega) (by omega)
  have y0 : (⟨#[UInt8.ofNat (PlainAid.bt k 0 / 8 * 8).toNat]⟩ : ByteArray).size = 1 := rfl
  have y1 : (⟨#[UInt8.ofNat (PlainAid.bt k 31 % 64 + 64).toNat]⟩ : ByteArray).size = 1 := rfl
  generalize (⟨#[UInt8.ofNat (PlainAid.bt k 0 / 8 * 8).toNat]⟩ : ByteArray) = C0 at *
  generalize (⟨#[UInt8.ofNat (PlainAid.bt k 31 % 64 + 64).toNat]⟩ : ByteArray) = C1 at *
  have F0 : Hid (∀ w, Calls Tryd.prog 21 #[.int .i64 (PlainAid.bt k 0 / 8 * 8)] w fun e w' => e = .returned (.string C0) ∧ Below w.heap.size w w') := f0
  have F1 : Hid (∀ w, Calls Tryd.prog 21 #[.int .i64 (PlainAid.bt k 31 % 64 + 64)] w fun e w' => e = .returned (.string C1) ∧ Below w.heap.size w w') := f1
  clear f0 f1
  clear h
  go_enter Tryd.func20, Tryd.ntmps20
  go_wp2_with fail
  have hne := Up.some w
  refine wp_region_up (by kernel_rfl) (by kernel_rfl) ?_
  repeat (go_big_quiet_step (first | exact calls_up (F0.out _) | exact calls_up (F1.out _)))
  refine wpQuiet_nil ?_
  rintro w' ⟨x, rfl⟩
  go_wp2
  go_ret2
  exact ⟨by rw [HK.out]; rfl, x.2⟩
end Go.Proofs.YtdpokjhoedhadaaDoor.num
