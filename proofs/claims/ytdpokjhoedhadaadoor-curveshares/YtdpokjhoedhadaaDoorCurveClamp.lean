/-
  THE WALKS OF package curve's Clamp and below.
-/
import Derived.Test.YtdpokjhoedhadaaDoorByt
import Derived.Test.YtdpokjhoedhadaaDoorProg
namespace Go.Proofs.YtdpokjhoedhadaaDoor.crv
open Go.RowKit

/-- Clamped. -/
def clampC (k : ByteArray) : ByteArray := ⟨((k.data.toList.set 0 (UInt8.ofNat (PlainAid.bt k 0 / 8 * 8).toNat)).set 31 (UInt8.ofNat (PlainAid.bt k 31 % 64 + 64).toNat)).toArray⟩
theorem clampC_size (k : ByteArray) (h : k.size = 32) : (clampC k).size = 32 := by
  show (clampC k).data.size = 32
  unfold clampC
  rw [List.size_toArray, List.length_set, List.length_set]
  exact h
theorem and248 (x : Int) (h0 : 0 ≤ x) (h1 : x ≤ 255) : bits .and .u8 x 248 = x / 8 * 8 := by
  have h : ∀ n : Fin 256, bits .and .u8 ((n.val : Nat) : Int) 248 = ((n.val : Nat) : Int) / 8 * 8 := by decide +kernel
  have := h ⟨x.toNat, by omega⟩
  rw [show (((⟨x.toNat, by omega⟩ : Fin 256).val : Nat) : Int) = x from by show ((x.toNat : Nat) : Int) = x; omega] at this
  exact this
theorem and127 (x : Int) (h0 : 0 ≤ x) (h1 : x ≤ 255) : bits .and .u8 x 127 = x % 128 := by
  have h : ∀ n : Fin 256, bits .and .u8 ((n.val : Nat) : Int) 127 = ((n.val : Nat) : Int) % 128 := by decide +kernel
  have := h ⟨x.toNat, by omega⟩
  rw [show (((⟨x.toNat, by omega⟩ : Fin 256).val : Nat) : Int) = x from by show ((x.toNat : Nat) : Int) = x; omega] at this
  exact this
theorem or64 (x : Int) (h0 : 0 ≤ x) (h1 : x ≤ 127) : bits .or .u8 x 64 = x % 64 + 64 := by
  have h : ∀ n : Fin 128, bits .or .u8 ((n.val : Nat) : Int) 64 = ((n.val : Nat) : Int) % 64 + 64 := by decide +kernel
  have := h ⟨x.toNat, by omega⟩
  rw [show (((⟨x.toNat, by omega⟩ : Fin 128).val : Nat) : Int) = x from by show ((x.toNat : Nat) : Int) = x; omega] at this
  exact this

theorem bytes_of (k : ByteArray) (w : World) : ∃ (W : World) (cp : Nat), (convert 9 30 (.string k)).run Tryd.prog w = .ok (.slice (some ⟨w.heap.size, 0, none⟩) k.size cp) W ∧ Byt W w.heap.size k.data.toList ∧ Below w.heap.size w W := by
  refine ⟨_, _, run_bytes_of_string (P := Tryd.prog) w 9 30 5 k Tryd.underlying9 Tryd.underlying30 Tryd.underlying5, Byt.new w.drew 5 _ k, ((Below.refl _ _).drew).alloc (Nat.le_refl _) _⟩
theorem clamp_bad (k : ByteArray) (h : k.size ≠ 32) (w : World) :
    Calls Tryd.prog 16 #[.string k] w fun e w' => e = .returned (.tuple #[.string ⟨#[]⟩, .int .i64 1]) ∧ w' = w := by
  have t1 : ((k.size : Int) != 32) = true := by rw [bne_iff_ne]; omega
  clear h
  go_enter Tryd.func16, Tryd.ntmps16
  go_wp2
  go_ret2
  exact ⟨rfl, rfl⟩
set_option maxHeartbeats 800000 in
theorem clamp_good (k : ByteArray) (h : k.size = 32) (w : World) :
    Calls Tryd.prog 16 #[.string k] w fun e w' => e = .returned (.tuple #[.string (clampC k), .int .i64 0]) ∧ Below w.heap.size w w' := by
  have t1 : ((k.size : Int) != 32) = false := by rw [bne_eq_false_iff_eq]; omega
  obtain ⟨W, cp, hcv, hB, hX⟩ := bytes_of k w
  rw [h] at hcv
  have c0 := hB.get 0 (by omega)
  have c31 := hB.get 31 (by omega)
  have f0 := hB.free 0 (by simp; omega)
  have f31 := hB.free 31 (by simp; omega)
  have b0 := PlainAid.bt_nonneg k 0
  have b1 := PlainAid.bt_le k 0
  have b2 := PlainAid.bt_nonneg k 31
  have b3 := PlainAid.bt_le k 31
  have m0 := and248 _ b0 b1
  have m1 := and127 _ b2 b3
  have m2 := or64 (PlainAid.bt k 31 % 128) (by omega) (by omega)
  rw [show PlainAid.bt k 31 % 128 % 64 = PlainAid.bt k 31 % 64 from by omega] at m2
  have hB3 := ((hB.set 0 (PlainAid.bt k 0 / 8 * 8) (by omega) (by omega)).set 31 (PlainAid.bt k 31 % 128) (by omega) (by omega)).set 31 (PlainAid.bt k 31 % 64 + 64) (by omega) (by omega)
  have hk : (k.data.toList.set 0 (UInt8.ofNat (PlainAid.bt k 0 / 8 * 8).toNat)).length = 32 := by rw [List.length_set]; exact h
  rw [List.set_set] at hB3
  have hc2 := hB3.conv (P := Tryd.prog) (n := 32) (cp := cp) (by rw [List.length_set]; exact hk) Tryd.underlying30 Tryd.underlying5 Tryd.underlying9
  rw [show (ByteArray.mk _) = clampC k from rfl] at hc2
  clear hB3 hk hB
  have HX : Hid (Below w.heap.size w W) := hX
  clear hX
  generalize PlainAid.bt k 0 / 8 * 8 = x0 at *
  generalize PlainAid.bt k 31 % 64 + 64 = x2 at *
  generalize PlainAid.bt k 31 % 128 = x1 at *
  clear b0 b1 b2 b3
  go_enter Tryd.func16, Tryd.ntmps16
  go_wp2_with fail
  go_ret2
  exact ⟨rfl, ((HX.out.setCell (Nat.le_refl _) _).setCell (Nat.le_refl _) _).setCell (Nat.le_refl _) _⟩

/-- Without the highest bit. -/
def belowC (u : ByteArray) : ByteArray := ⟨(u.data.toList.set 31 (UInt8.ofNat (PlainAid.bt u 31 % 128).toNat)).toArray⟩
theorem belowC_size (k : ByteArray) (h : k.size = 32) : (belowC k).size = 32 := by
  show (belowC k).data.size = 32
  unfold belowC
  rw [List.size_toArray, List.length_set]
  exact h
theorem below_any (k : ByteArray) (h : k.size = 32) (w : World) :
    Calls Tryd.prog 19 #[.string k] w fun e w' => e = .returned (.string (belowC k)) ∧ Below w.heap.size w w' := by
  obtain ⟨W, cp, hcv, hB, hX⟩ := bytes_of k w
  rw [h] at hcv
  have c31 := hB.get 31 (by omega)
  have f31 := hB.free 31 (by simp; omega)
  have b2 := PlainAid.bt_nonneg k 31
  have b3 := PlainAid.bt_le k 31
  have m1 := and127 _ b2 b3
  have hB3 := hB.set 31 (PlainAid.bt k 31 % 128) (by omega) (by omega)
  have hc2 := hB3.conv (P := Tryd.prog) (n := 32) (cp := cp) (by rw [List.length_set]; exact h) Tryd.underlying30 Tryd.underlying5 Tryd.underlying32
  rw [show (ByteArray.mk _) = belowC k from rfl] at hc2
  clear hB3 hB
  have HX : Hid (Below w.heap.size w W) := hX
  clear hX
  generalize PlainAid.bt k 31 % 128 = x1 at *
  clear b2 b3
  go_enter Tryd.func19, Tryd.ntmps19
  go_wp2_with fail
  go_ret
  exact ⟨rfl, HX.out.setCell (Nat.le_refl _) _⟩
end Go.Proofs.YtdpokjhoedhadaaDoor.crv
