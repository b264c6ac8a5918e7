/-
  PLAIN: what is marked, by digests by a key. No program is named here.
-/
import Derived.Test.YtmbckgfpkmnlnabDoorPlainBlake
import Derived.Test.YtmbckgfpkmnlnabDoorPlainBox
import Derived.Test.YtmbckgfpkmnlnabDoorSized
namespace Go.Proofs.YtmbckgfpkmnlnabDoor.coo
open Go.RowKit

/-- The key that goes with a public key; a digest of 16 bytes; both marks. -/
def keyT (what pub : ByteArray) : ByteArray := bla.blaT ⟨#[]⟩ (what ++ pub) 32
def mk (key text : ByteArray) : ByteArray := bla.blaT key text 16
def prf (c once : ByteArray) : ByteArray := if c.size = 0 then noughts 16 else mk c once
def m1 (pub text : ByteArray) : ByteArray := mk (keyT ⟨#[109, 97, 114, 107, 45, 45, 45, 45]⟩ pub) text
def once (pub text : ByteArray) : ByteArray := text ++ m1 pub text
def marked (pub c text : ByteArray) : ByteArray := once pub text ++ prf c (once pub text)
theorem keyT_size (what pub : ByteArray) : (keyT what pub).size = 32 := bla.blaT_size _ _ (by decide)
theorem mk_size (key text : ByteArray) : (mk key text).size = 16 := bla.blaT_size _ _ (by decide)
theorem prf_size (c o : ByteArray) : (prf c o).size = 16 := by
  unfold prf
  split
  · exact noughts_size 16
  · exact mk_size _ _
theorem m1_size (pub text : ByteArray) : (m1 pub text).size = 16 := mk_size _ _
theorem once_size (pub text : ByteArray) : (once pub text).size = text.size + 16 := by rw [once, ByteArray.size_append, m1_size]
theorem marked_size (pub c text : ByteArray) : (marked pub c text).size = text.size + 32 := by rw [marked, ByteArray.size_append, once_size, prf_size]
theorem app_to (a b : ByteArray) : (a ++ b).extract 0 a.size = a := by
  apply ByteArray.ext
  rw [ByteArray.data_extract, ByteArray.data_append]
  apply Array.toList_inj.1
  rw [Array.toList_extract, Array.toList_append, List.extract_eq_take_drop, List.drop_zero, Nat.sub_zero]
  exact List.take_left' rfl
theorem app_from (a b : ByteArray) : (a ++ b).extract a.size (a ++ b).size = b := by
  apply ByteArray.ext
  rw [ByteArray.data_extract, ByteArray.data_append]
  apply Array.toList_inj.1
  rw [Array.toList_extract, Array.toList_append, List.extract_eq_take_drop, show List.drop a.size (a.data.toList ++ b.data.toList) = b.data.toList from List.drop_left' (by rw [Array.length_toList]; rfl)]
  exact List.take_of_length_le (by rw [ByteArray.size_append]; show b.data.size ≤ a.data.size + b.data.size - a.data.size; omega)
end Go.Proofs.YtmbckgfpkmnlnabDoor.coo
