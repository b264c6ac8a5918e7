/-
  BYTES AND TEXTS: conversions of rows and blocks, slices of texts, xor of bytes. For whatever package.
-/
import Derived.Test.YtmbckgfpkmnlnabDoorRow2
import Derived.Test.YtmbckgfpkmnlnabDoorProg
import Derived.OwnWalk
namespace Go.Proofs.YtmbckgfpkmnlnabDoor.cv
open Go.RowKit

theorem infoU8 : (Tryd.prog.info? 5).map (fun i => (i.zero, i.size, i.bytes)) = some (some (.int .u8 0), 1, 1) := by kernel_rfl
theorem bytes_row (k : ByteArray) (w : World) : ∃ (W : World) (cp : Nat), (convert 9 39 (.string k)).run Tryd.prog w = .ok (.slice (some ⟨w.heap.size, 0, none⟩) k.size cp) W ∧ Row W w.heap.size 1 w.heap.size k.size cp (by8 (nb k)) ∧ Below w.heap.size w W := by
  refine ⟨_, _, run_bytes_of_string (P := Tryd.prog) w 9 39 5 k Tryd.underlying9 Tryd.underlying39 Tryd.underlying5, ?_, ((Below.refl _ _).drew).alloc (Nat.le_refl _) _⟩
  rw [by8_nb]
  exact Row.bytes w.drew 5 _ k w.heap.size (Nat.le_refl _) (grownCap_ge w k.size 0 5)
/-- A row of bytes, as a text. -/
theorem conv_row {w : World} {B g n cap : Nat} {l : List Nat} (h : Row w B 1 g n cap (by8 l)) (ok : ∀ x ∈ l, x < 256) : (convert 39 9 (.slice (some ⟨g, 0, none⟩) n cap)).run Tryd.prog w = .ok (.string (tx l)) w := by
  have hl : (l.map UInt8.ofNat).length = n := by have := h.len; rw [by8_length, Nat.mul_one] at this; rw [List.length_map]; exact this
  subst hl
  refine run_convert_bytes_back w 39 9 5 ⟨g, 0, none⟩ cap (l.map UInt8.ofNat) Tryd.underlying39 Tryd.underlying5 Tryd.underlying9 fun j hj => ?_
  rw [List.length_map] at hj
  rw [Addr.add_mid]
  refine (h.at0 j _ (by8_get l j hj)).trans ?_
  rw [List.getElem_map, List.getD_eq_getElem?_getD, List.getElem?_eq_getElem hj, UInt8.toNat_ofNat_of_lt' (by have := ok _ (List.getElem_mem hj); have : UInt8.size = 256 := rfl; omega)]
  rfl
/-- A block of bytes, as a text. -/
theorem conv_blk {w : World} {b t n : Nat} {l : List Nat} (h : Blk w b t (by8 l)) (hl : l.length = n) (ok : ∀ x ∈ l, x < 256) (cap : Nat) : (convert 39 9 (.slice (some ⟨b, 0, none⟩) n cap)).run Tryd.prog w = .ok (.string (tx l)) w := by
  have hl' : (l.map UInt8.ofNat).length = n := by rw [List.length_map]; exact hl
  subst hl'
  refine run_convert_bytes_back w 39 9 5 ⟨b, 0, none⟩ cap (l.map UInt8.ofNat) Tryd.underlying39 Tryd.underlying5 Tryd.underlying9 fun j hj => ?_
  rw [List.length_map] at hj
  rw [Addr.add_mid, Nat.zero_add]
  refine (h.cell j _ (by8_get l j hj)).trans ?_
  rw [List.getElem_map, List.getD_eq_getElem?_getD, List.getElem?_eq_getElem hj, UInt8.toNat_ofNat_of_lt' (by have := ok _ (List.getElem_mem hj); have : UInt8.size = 256 := rfl; omega)]
  rfl
theorem sl_to (s : ByteArray) (hi : Nat) (h1 : hi ≤ s.size) (u : World) : (Instr.slice 9 (.string s) none (some (.int .i64 (hi : Int))) none).run Tryd.prog u = .ok (.string (s.extract 0 hi)) u := by
  simp [Instr.slice, run_underlying Tryd.underlying9, Instr.sliceBounds, Instr.sliceBound, asIntOf, h1]
theorem sl_in (s : ByteArray) (lo hi : Nat) (h0 : lo ≤ hi) (h1 : hi ≤ s.size) (u : World) : (Instr.slice 9 (.string s) (some (.int .i64 (lo : Int))) (some (.int .i64 (hi : Int))) none).run Tryd.prog u = .ok (.string (s.extract lo hi)) u := by
  simp [Instr.slice, run_underlying Tryd.underlying9, Instr.sliceBounds, Instr.sliceBound, asIntOf, h0, h1]
theorem sl_from (s : ByteArray) (lo : Nat) (h1 : lo ≤ s.size) (u : World) : (Instr.slice 9 (.string s) (some (.int .i64 (lo : Int))) none none).run Tryd.prog u = .ok (.string (s.extract lo s.size)) u := by
  simp [Instr.slice, run_underlying Tryd.underlying9, Instr.sliceBounds, Instr.sliceBound, asIntOf, h1]
theorem xor8 (a b : Nat) (ha : a < 256) (hb : b < 256) : bits .xor .u8 (a : Int) (b : Int) = ((a ^^^ b : Nat) : Int) := by
  have hx : a ^^^ b < 2 ^ 8 := Nat.xor_lt_two_pow (by omega) (by omega)
  show IntKind.u8.wrap ((BitVec.ofInt 8 (a : Int) ^^^ BitVec.ofInt 8 (b : Int)).toNat : Int) = _
  rw [BitVec.toNat_xor, BitVec.ofInt_natCast, BitVec.ofInt_natCast, BitVec.toNat_ofNat, BitVec.toNat_ofNat, Nat.mod_eq_of_lt (by omega : a < 2 ^ 8), Nat.mod_eq_of_lt (by omega : b < 2 ^ 8)]
  simp [IntKind.wrap, IntKind.bits, IntKind.signed]
  omega
theorem wrap_8 (n : Int) : IntKind.u8.wrap n = n % 256 := by simp [IntKind.wrap, IntKind.bits, IntKind.signed]
theorem wrap_32 (n : Int) : IntKind.u32.wrap n = n % 4294967296 := by simp [IntKind.wrap, IntKind.bits, IntKind.signed]
theorem made_by8 (n : Nat) : (madeCells (Value.int .u8 0).cells (n * 1)).toList = by8 (List.replicate n 0) := by
  have : (Value.int .u8 0).cells = #[Value.int .u8 0] := rfl
  rw [this, Nat.mul_one, toList_madeCells_one, by8, List.map_replicate]
  rfl
theorem own_below {w w' : World} {B base e s n : Nat} {v : Value} {xs : List Value} (h : w.ownsRow base e s v n xs) (hb : Below B w w') (hv : ∀ b, v.ownBlock = some b → b < B) : w'.ownsRow base e s v n xs := by
  refine ⟨h.1, ?_⟩
  rcases h.2 with hn | ⟨g, c, cur, rfl, h2, h3, h4⟩
  · exact .inl hn
  · exact .inr ⟨g, c, cur, rfl, h2, by rw [hb.block g (hv g rfl)]; exact h3, h4⟩
end Go.Proofs.YtmbckgfpkmnlnabDoor.cv
