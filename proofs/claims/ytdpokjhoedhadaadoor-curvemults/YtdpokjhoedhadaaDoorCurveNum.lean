/-
  THE WALKS OF package curve's numbers: plus, minus, times, square, inverse.
-/
import Derived.Test.YtdpokjhoedhadaaDoorFaceAdd
import Derived.Test.YtdpokjhoedhadaaDoorFaceSub
import Derived.Test.YtdpokjhoedhadaaDoorFaceMul
import Derived.Test.YtdpokjhoedhadaaDoorFaceInv
namespace Go.Proofs.YtdpokjhoedhadaaDoor.crv
open Go.RowKit
open Go.Proofs.YtdpokjhoedhadaaDoor.num

/-- Both tables of package elem lie there. -/
def Tabs (w : World) : Prop := limb.Tab w 1 limb.primeL ∧ limb.Tab w 0 limb.lessL
theorem Tabs.below {w w' : World} (h : Tabs w) (hb : Below w.heap.size w w') : Tabs w' := ⟨h.1.below hb h.1.lt, h.2.below hb h.2.lt⟩
theorem Tabs.belowB {w w' : World} {B : Nat} (h : Tabs w) (hB : w.heap.size ≤ B) (hb : Below B w w') : Tabs w' := ⟨h.1.below hb (Nat.lt_of_lt_of_le h.1.lt hB), h.2.below hb (Nat.lt_of_lt_of_le h.2.lt hB)⟩
/-- Sums, differences, products and inverses of texts. -/
def tA (a b : ByteArray) : ByteArray := text (N a + N b)
def tS (a b : ByteArray) : ByteArray := text (N a - N b)
def tM (a b : ByteArray) : ByteArray := text (N a * N b)
def tI (a : ByteArray) : ByteArray := text (N a ^ einv)
theorem tA_size (a b : ByteArray) : (tA a b).size = 32 := text_size _
theorem tS_size (a b : ByteArray) : (tS a b).size = 32 := text_size _
theorem tM_size (a b : ByteArray) : (tM a b).size = 32 := text_size _
theorem tI_size (a : ByteArray) : (tI a).size = 32 := text_size _

theorem plus_any (a b : ByteArray) (ha : a.size = 32) (hb : b.size = 32) (w : World) :
    Calls Tryd.prog 43 #[.string a, .string b] w fun e w' => e = .returned (.string (tA a b)) ∧ Below w.heap.size w w' := by
  have h1 := add_good a b ha hb w
  rw [show text (N a + N b) = tA a b from rfl] at h1
  generalize tA a b = t at *
  clear ha hb
  go_enter Tryd.func43, Tryd.ntmps43
  go_wp2_with (go_at_call 59; refine h1.mono ?_; rintro e w2 ⟨rfl, hb2⟩)
  go_ret
  exact ⟨rfl, hb2⟩
theorem minus_any (a b : ByteArray) (ha : a.size = 32) (hb : b.size = 32) (w : World) (hT : Tabs w) :
    Calls Tryd.prog 44 #[.string a, .string b] w fun e w' => e = .returned (.string (tS a b)) ∧ Below w.heap.size w w' := by
  have h1 := sub_good a b ha hb w hT.1
  rw [show text (N a - N b) = tS a b from rfl] at h1
  generalize tS a b = t at *
  clear ha hb hT
  go_enter Tryd.func44, Tryd.ntmps44
  go_wp2_with (go_at_call 60; refine h1.mono ?_; rintro e w2 ⟨rfl, hb2⟩)
  go_ret
  exact ⟨rfl, hb2⟩
theorem times_any (a b : ByteArray) (ha : a.size = 32) (hb : b.size = 32) (w : World) :
    Calls Tryd.prog 32 #[.string a, .string b] w fun e w' => e = .returned (.string (tM a b)) ∧ Below w.heap.size w w' := by
  have h1 := mul_good a b ha hb w
  rw [show text (N a * N b) = tM a b from rfl] at h1
  generalize tM a b = t at *
  clear ha hb
  go_enter Tryd.func32, Tryd.ntmps32
  go_wp2_with (go_at_call 46; refine h1.mono ?_; rintro e w2 ⟨rfl, hb2⟩)
  go_ret
  exact ⟨rfl, hb2⟩
theorem square_any (a : ByteArray) (ha : a.size = 32) (w : World) :
    Calls Tryd.prog 45 #[.string a] w fun e w' => e = .returned (.string (tM a a)) ∧ Below w.heap.size w w' := by
  have h1 := times_any a a ha ha w
  generalize tM a a = t at *
  clear ha
  go_enter Tryd.func45, Tryd.ntmps45
  go_wp2_with (go_at_call 32; refine h1.mono ?_; rintro e w2 ⟨rfl, hb2⟩)
  go_ret
  exact ⟨rfl, hb2⟩
theorem inverse_any (a : ByteArray) (ha : a.size = 32) (w : World) (hT : Tabs w) :
    Calls Tryd.prog 33 #[.string a] w fun e w' => e = .returned (.string (tI a)) ∧ Below w.heap.size w w' := by
  have h1 := inv_good a ha w hT.2
  rw [show text (N a ^ einv) = tI a from rfl] at h1
  generalize tI a = t at *
  clear ha hT
  go_enter Tryd.func33, Tryd.ntmps33
  go_wp2_with (go_at_call 47; refine h1.mono ?_; rintro e w2 ⟨rfl, hb2⟩)
  go_ret
  exact ⟨rfl, hb2⟩
end Go.Proofs.YtdpokjhoedhadaaDoor.crv
