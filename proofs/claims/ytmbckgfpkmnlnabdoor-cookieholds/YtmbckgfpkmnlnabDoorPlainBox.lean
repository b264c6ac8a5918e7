/-
  PLAIN: sealed and opened, whatever hides a text and whatever its tag is.
-/
import Derived.WalkKit
namespace Go.Proofs.YtmbckgfpkmnlnabDoor.box

/-- What is refused: 1 (no key, or no nonce), 2 (too long). -/
def chk (key nonce more text : ByteArray) (most : Nat) : Nat :=
  if key.size = 32 ∧ nonce.size = 12 then (if more.size ≤ 2000 ∧ text.size ≤ most then 0 else 2) else 1
theorem chk_zero {key nonce more text : ByteArray} {most : Nat} (h : chk key nonce more text most = 0) : key.size = 32 ∧ nonce.size = 12 ∧ more.size ≤ 2000 ∧ text.size ≤ most := by
  unfold chk at h
  split at h
  · rename_i h1
    split at h
    · rename_i h2
      exact ⟨h1.1, h1.2, h2.1, h2.2⟩
    · cases h
  · cases h
theorem chk_le (key nonce more text : ByteArray) (most : Nat) : chk key nonce more text most ≤ 2 := by
  unfold chk
  split
  · split <;> omega
  · omega
def sealT (hide tag : ByteArray → ByteArray) (c : Nat) (text : ByteArray) : ByteArray := if c = 0 then hide text ++ tag (hide text) else ⟨#[]⟩
def front (s : ByteArray) : ByteArray := s.extract 0 (s.size - 16)
def back (s : ByteArray) : ByteArray := s.extract (s.size - 16) s.size
theorem front_size (s : ByteArray) : (front s).size = s.size - 16 := by unfold front; rw [ByteArray.size_extract]; omega
theorem back_size (s : ByteArray) (h : 16 ≤ s.size) : (back s).size = 16 := by unfold back; rw [ByteArray.size_extract]; omega
theorem front_back (s : ByteArray) : front s ++ back s = s := by
  apply ByteArray.ext
  unfold front back
  rw [ByteArray.data_append, ByteArray.data_extract, ByteArray.data_extract]
  apply Array.toList_inj.1
  rw [Array.toList_append, Array.toList_extract, Array.toList_extract, List.extract_eq_take_drop, List.extract_eq_take_drop]
  rw [Nat.sub_zero, List.drop_zero, List.take_of_length_le (l := List.drop _ _) (by rw [List.length_drop]; exact Nat.le_refl _), List.take_append_drop]
theorem app_inj {a b c d : ByteArray} (h : a ++ b = c ++ d) (hs : a.size = c.size) : a = c ∧ b = d := by
  have h1 := congrArg (fun x : ByteArray => x.data.toList) h
  simp only [ByteArray.data_append, Array.toList_append] at h1
  have h2 := List.append_inj h1 (by rw [Array.length_toList, Array.length_toList]; exact hs)
  exact ⟨ByteArray.ext (Array.toList_inj.1 h2.1), ByteArray.ext (Array.toList_inj.1 h2.2)⟩
theorem front_app (a b : ByteArray) (hb : b.size = 16) : front (a ++ b) = a ∧ back (a ++ b) = b :=
  app_inj (front_back (a ++ b)) (by rw [front_size, ByteArray.size_append]; omega)
def openE (tag : ByteArray → ByteArray) (c : Nat) (s : ByteArray) : Nat :=
  if c = 0 then (if s.size < 16 then 4 else if tag (front s) = back s then 0 else 6) else c
def openT (hide tag : ByteArray → ByteArray) (c : Nat) (s : ByteArray) : ByteArray := if openE tag c s = 0 then hide (front s) else ⟨#[]⟩
theorem ne_list {a b : ByteArray} (h : a ≠ b) : (a.toList == b.toList) = false := by
  rw [ByteArray.toList_eq, ByteArray.toList_eq, beq_eq_false_iff_ne]
  intro e
  exact h (ByteArray.ext (Array.toList_inj.1 e))
theorem sealed_is (hide tag : ByteArray → ByteArray) (hh : ∀ s, hide (hide s) = s) (s : ByteArray) : hide (hide (front s)) ++ tag (hide (hide (front s))) = s ↔ tag (front s) = back s := by
  rw [hh]
  constructor
  · intro h
    have e : front s ++ tag (front s) = front s ++ back s := by
      rw [front_back]
      exact h
    rw [(app_inj e rfl).2]
  · intro h
    rw [h, front_back]
end Go.Proofs.YtmbckgfpkmnlnabDoor.box
