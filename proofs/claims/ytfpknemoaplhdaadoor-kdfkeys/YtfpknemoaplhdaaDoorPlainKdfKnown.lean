/-
  PLAIN MATHEMATICS OF keys of keys: one tag that is well known (RFC 4231), reckoned by the kernel. No program is named here.
-/
import Derived.Test.YtfpknemoaplhdaaDoorPlainKdf
import Derived.Test.YtfpknemoaplhdaaDoorPlainShaKnown
namespace Go.Proofs.YtfpknemoaplhdaaDoor.kdf
open Go.RowKit
open sha (shaT two_blocks)

def key1 : ByteArray := ⟨#[11, 11, 11, 11, 11, 11, 11, 11, 11, 11, 11, 11, 11, 11, 11, 11, 11, 11, 11, 11]⟩
def msg1 : ByteArray := ⟨#[72, 105, 32, 84, 104, 101, 114, 101]⟩
def tin : ByteArray := ⟨#[61, 61, 61, 61, 61, 61, 61, 61, 61, 61, 61, 61, 61, 61, 61, 61, 61, 61, 61, 61, 54, 54, 54, 54, 54, 54, 54, 54, 54, 54, 54, 54, 54, 54, 54, 54, 54, 54, 54, 54, 54, 54, 54, 54, 54, 54, 54, 54, 54, 54, 54, 54, 54, 54, 54, 54, 54, 54, 54, 54, 54, 54, 54, 54, 72, 105, 32, 84, 104, 101, 114, 101]⟩
def vi : ByteArray := ⟨#[146, 171, 77, 154, 31, 59, 97, 82, 188, 169, 221, 158, 105, 175, 67, 244, 206, 153, 228, 47, 212, 227, 15, 249, 114, 196, 128, 37, 185, 249, 207, 239]⟩
def bi : List Nat := [61, 61, 61, 61, 61, 61, 61, 61, 61, 61, 61, 61, 61, 61, 61, 61, 61, 61, 61, 61, 54, 54, 54, 54, 54, 54, 54, 54, 54, 54, 54, 54, 54, 54, 54, 54, 54, 54, 54, 54, 54, 54, 54, 54, 54, 54, 54, 54, 54, 54, 54, 54, 54, 54, 54, 54, 54, 54, 54, 54, 54, 54, 54, 54]
def ci : List Nat := [72, 105, 32, 84, 104, 101, 114, 101, 128, 0, 0, 0, 0, 0, 0, 0, 0, 0, 0, 0, 0, 0, 0, 0, 0, 0, 0, 0, 0, 0, 0, 0, 0, 0, 0, 0, 0, 0, 0, 0, 0, 0, 0, 0, 0, 0, 0, 0, 0, 0, 0, 0, 0, 0, 0, 0, 0, 0, 0, 0, 0, 0, 2, 64]
def qi : List Nat := [733091844, 599350265, 3035112844, 4206224980, 301109790, 1340831982, 2559632894, 1689747510]
def ri : List Nat := [2460700058, 523985234, 3165248926, 1773093876, 3466191919, 3571650553, 1925480485, 3120156655]
theorem sha_i : shaT tin = vi := (two_blocks (s := tin) (B1 := bi) (B2 := ci) (R1 := qi) (R := ri) rfl (by decide +kernel) (by decide +kernel) (by decide +kernel) (by decide +kernel)).trans (by decide +kernel)
def tout : ByteArray := ⟨#[87, 87, 87, 87, 87, 87, 87, 87, 87, 87, 87, 87, 87, 87, 87, 87, 87, 87, 87, 87, 92, 92, 92, 92, 92, 92, 92, 92, 92, 92, 92, 92, 92, 92, 92, 92, 92, 92, 92, 92, 92, 92, 92, 92, 92, 92, 92, 92, 92, 92, 92, 92, 92, 92, 92, 92, 92, 92, 92, 92, 92, 92, 92, 92, 146, 171, 77, 154, 31, 59, 97, 82, 188, 169, 221, 158, 105, 175, 67, 244, 206, 153, 228, 47, 212, 227, 15, 249, 114, 196, 128, 37, 185, 249, 207, 239]⟩
def vo : ByteArray := ⟨#[176, 52, 76, 97, 216, 219, 56, 83, 92, 168, 175, 206, 175, 11, 241, 43, 136, 29, 194, 0, 201, 131, 61, 167, 38, 233, 55, 108, 46, 50, 207, 247]⟩
def bo : List Nat := [87, 87, 87, 87, 87, 87, 87, 87, 87, 87, 87, 87, 87, 87, 87, 87, 87, 87, 87, 87, 92, 92, 92, 92, 92, 92, 92, 92, 92, 92, 92, 92, 92, 92, 92, 92, 92, 92, 92, 92, 92, 92, 92, 92, 92, 92, 92, 92, 92, 92, 92, 92, 92, 92, 92, 92, 92, 92, 92, 92, 92, 92, 92, 92]
def co : List Nat := [146, 171, 77, 154, 31, 59, 97, 82, 188, 169, 221, 158, 105, 175, 67, 244, 206, 153, 228, 47, 212, 227, 15, 249, 114, 196, 128, 37, 185, 249, 207, 239, 128, 0, 0, 0, 0, 0, 0, 0, 0, 0, 0, 0, 0, 0, 0, 0, 0, 0, 0, 0, 0, 0, 0, 0, 0, 0, 0, 0, 0, 0, 3, 0]
def qo : List Nat := [669479839, 3646301571, 1456891618, 1602293224, 3965603722, 1430081464, 1023353018, 270748480]
def ro : List Nat := [2956217441, 3638245459, 1554558926, 2936795435, 2283651584, 3380821415, 652818284, 775081975]
theorem sha_o : shaT tout = vo := (two_blocks (s := tout) (B1 := bo) (B2 := co) (R1 := qo) (R := ro) rfl (by decide +kernel) (by decide +kernel) (by decide +kernel) (by decide +kernel)).trans (by decide +kernel)
theorem ti_is : pad shaT key1 54 ++ msg1 = tin := by
  have : pad shaT key1 54 = tx (xd (kk key1) 54) := by unfold pad kb; rw [if_neg (by decide)]
  rw [this]
  decide +kernel
theorem to_is : pad shaT key1 92 ++ vi = tout := by
  have : pad shaT key1 92 = tx (xd (kk key1) 92) := by unfold pad kb; rw [if_neg (by decide)]
  rw [this]
  decide +kernel
theorem known : macT shaT key1 msg1 = vo := by
  unfold macT
  rw [ti_is, sha_i, to_is, sha_o]
end Go.Proofs.YtfpknemoaplhdaaDoor.kdf
