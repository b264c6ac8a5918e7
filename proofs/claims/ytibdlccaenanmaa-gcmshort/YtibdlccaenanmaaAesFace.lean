/-
  THE WALK OF package aes's Expand.
-/
import Derived.Test.YtibdlccaenanmaaAesExpand
namespace Go.Proofs.Ytibdlccaenanmaa.aes
open Go.RowKit
open Go.Proofs.Ytibdlccaenanmaa.gal

/-- A row of bytes, as a text. -/
theorem conv_row {w : World} {B g n cap : Nat} {l : List Nat} (h : Row w B 1 g n cap (by8 l)) (ok : Ok l) : (convert 41 9 (.slice (some ⟨g, 0, none⟩) n cap)).run Try.prog w = .ok (.string (tx l)) w := by
  have hl : (l.map UInt8.ofNat).length = n := by have := h.len; rw [by8_length, Nat.mul_one] at this; rw [List.length_map]; exact this
  subst hl
  refine run_convert_bytes_back w 41 9 5 ⟨g, 0, none⟩ cap (l.map UInt8.ofNat) Try.underlying41 Try.underlying5 Try.underlying9 fun j hj => ?_
  rw [List.length_map] at hj
  rw [Addr.add_mid]
  refine (h.at0 j _ (by8_get l j hj)).trans ?_
  rw [List.getElem_map, List.getD_eq_getElem?_getD, List.getElem?_eq_getElem hj, UInt8.toNat_ofNat_of_lt' (by have := ok _ (List.getElem_mem hj); have : UInt8.size = 256 := rfl; omega)]
  rfl
/-- What a key is expanded to, as a text. -/
def kE (k : ByteArray) : List Nat := expand (k.size / 4) (nb k)
theorem kE_ok (k : ByteArray) : Ok (kE k) := expand_ok _ _ (nb_lt k)
theorem kE_length (k : ByteArray) (h : k.size = 16 ∨ k.size = 32) : (kE k).length = 16 * (k.size / 4 + 7) := by
  unfold kE
  rw [expand_length _ _ (by rw [nb_length]; omega)]
theorem kE_pre (k : ByteArray) : nb k <+: kE k := expd_pre _ _ _
theorem expanded_any (k : ByteArray) (h : k.size = 16 ∨ k.size = 32) (w : World) :
    Calls Try.prog 67 #[.string k] w fun e w' => ∃ g cap, e = .returned (.slice (some ⟨g, 0, none⟩) (16 * (k.size / 4 + 7)) cap) ∧ Row w' w.heap.size 1 g (16 * (k.size / 4 + 7)) cap (by8 (kE k)) ∧ Below w.heap.size w w' := by
  rcases h with h | h
  · have := expanded_4 k h w
    unfold kE
    rw [h]
    exact this
  · have := expanded_8 k h w
    unfold kE
    rw [h]
    exact this
end Go.Proofs.Ytibdlccaenanmaa.aes
