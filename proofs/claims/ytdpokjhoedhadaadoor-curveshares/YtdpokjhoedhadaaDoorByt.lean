/-
  A ROW OF BYTES that a text was turned into: read, written, and turned into a text again.
-/
import Derived.WalkKit
import Derived.PlainAid
import Derived.Laws.IdiomStrings
namespace Go.Proofs.YtdpokjhoedhadaaDoor
open Go.RowKit

/-- Block g begins with these bytes, and they may be written. -/
def Byt (w : World) (g : Nat) (l : List UInt8) : Prop := ∀ j (h : j < l.length), w.cell? ⟨g, j, none⟩ = some (.int .u8 (l[j].toNat : Int)) ∧ w.frozen? ⟨g, j, none⟩ = false
theorem Byt.new (w : World) (t cp : Nat) (s : ByteArray) : Byt (w.alloc (.cells (bytesRow s cp) t ((bytesRow s cp).size, (bytesRow s cp).size + 1))) w.heap.size s.data.toList := fun j h => by
  have hj : j < s.data.size := by simpa using h
  have h1 := bytesRow_at s cp j hj
  have h2 : j < (bytesRow s cp).size := by
    rcases Nat.lt_or_ge j (bytesRow s cp).size with h3 | h3
    · exact h3
    · rw [Array.getElem?_eq_none h3] at h1; cases h1
  refine ⟨?_, ?_⟩
  · rw [World.cell?_alloc_mark, h1]; simp
  · rw [World.frozen?_alloc_mark]; simp; omega
theorem Byt.drew {w : World} {g : Nat} {l : List UInt8} (h : Byt w g l) : Byt w.drew g l := h
theorem byte_int (x : Int) (h0 : 0 ≤ x) (h1 : x < 256) : (((UInt8.ofNat x.toNat).toNat : Nat) : Int) = x := by
  rw [UInt8.toNat_ofNat_of_lt' (by have : UInt8.size = 256 := rfl; omega), Int.toNat_of_nonneg h0]
theorem Byt.set {w : World} {g : Nat} {l : List UInt8} (h : Byt w g l) (i : Nat) (x : Int) (h0 : 0 ≤ x) (h1 : x < 256) : Byt (w.setCell ⟨g, i, none⟩ (.int .u8 x)) g (l.set i (UInt8.ofNat x.toNat)) := fun j hj => by
  have hj' : j < l.length := by simpa using hj
  obtain ⟨a, b⟩ := h j hj'
  refine ⟨?_, by rw [World.frozen?_setCell]; exact b⟩
  by_cases e : i = j
  · subst e
    rw [World.cell?_setCell_same _ _ _ a, List.getElem_set_self, byte_int x h0 h1]
  · rw [World.cell?_setCell_other _ _ _ _ (by intro h2; injection h2; contradiction), a, List.getElem_set_ne e]
theorem Byt.get {w : World} {g : Nat} {s : ByteArray} (h : Byt w g s.data.toList) (k : Nat) (hk : k < s.size) : w.cell? ⟨g, k, none⟩ = some (.int .u8 (PlainAid.bt s k)) := by
  have hk' : k < s.data.toList.length := by simpa using hk
  rw [(h k hk').1, ← PlainAid.get_bt s k hk]
  simp
  rfl
theorem Byt.free {w : World} {g : Nat} {l : List UInt8} (h : Byt w g l) (k : Nat) (hk : k < l.length) : w.frozen? ⟨g, k, none⟩ = false := (h k hk).2
theorem Byt.conv {P : Program} {w : World} {g n cp src dst e : Nat} {l : List UInt8} (h : Byt w g l) (hn : l.length = n) (hs : P.underlying src = some (.slice e)) (he : P.underlying e = some (.int .u8)) (hd : P.underlying dst = some .string) :
    (convert src dst (.slice (some ⟨g, 0, none⟩) n cp)).run P w = .ok (.string ⟨l.toArray⟩) w := by
  subst hn
  refine run_convert_bytes_back w src dst e ⟨g, 0, none⟩ cp l hs he hd fun j hj => ?_
  have hadd : (⟨g, 0, none⟩ : Addr).add j = ⟨g, j, none⟩ := by unfold Addr.add; split <;> simp_all
  rw [hadd]
  exact (h j hj).1
end Go.Proofs.YtdpokjhoedhadaaDoor
