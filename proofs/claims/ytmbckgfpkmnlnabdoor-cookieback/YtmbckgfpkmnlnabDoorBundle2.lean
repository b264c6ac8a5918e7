/-
  PLAIN: sealed and opened, whatever hides a text and whatever its tag is.
  THE LIBRARY CONTRACT OF strings.Repeat, laid at this dump by the shelf of the kit, in plain words.
-/
import Derived.WalkKit
import Derived.Shelf.Strings.Repeat
import Derived.Test.YtmbckgfpkmnlnabDoorProg
namespace Go.Proofs.YtmbckgfpkmnlnabDoor.box

/-- What is refused: 1 (no key, or no nonce), 2 (too long). -/
def chk (key nonce more text : ByteArray) (most : Nat) : Nat :=
  if key.size = 32 ∧ nonce.size = 12 then (if more.size ≤ 2000 ∧ text.size ≤ most then 0 else 2) else 1
theorem chk_zero {key nonce more text : ByteArray} {most : Nat} (h : chk key nonce more text most = 0) : key.size = 32 ∧ nonce.size = 12 ∧ more.size ≤ 2000 ∧ text.size ≤ most := by
  unfold chk at h
  split at h
  · rename_i h1
    split at h
    · rename_i h2
      exact ⟨h1.1, h1.2, h2.1, h2.2⟩
    · cases h
  · cases h
theorem chk_le (key nonce more text : ByteArray) (most : Nat) : chk key nonce more text most ≤ 2 := by
  unfold chk
  split
  · split <;> omega
  · omega
def sealT (hide tag : ByteArray → ByteArray) (c : Nat) (text : ByteArray) : ByteArray := if c = 0 then hide text ++ tag (hide text) else ⟨#[]⟩
def front (s : ByteArray) : ByteArray := s.extract 0 (s.size - 16)
def back (s : ByteArray) : ByteArray := s.extract (s.size - 16) s.size
theorem front_size (s : ByteArray) : (front s).size = s.size - 16 := by unfold front; rw [ByteArray.size_extract]; omega
theorem back_size (s : ByteArray) (h : 16 ≤ s.size) : (back s).size = 16 := by unfold back; rw [ByteArray.size_extract]; omega
theorem front_back (s : ByteArray) : front s ++ back s = s := by
  apply ByteArray.ext
  unfold front back
  rw [ByteArray.data_append, ByteArray.data_extract, ByteArray.data_extract]
  apply Array.toList_inj.1
  rw [Array.toList_append, Array.toList_extract, Array.toList_extract, List.extract_eq_take_drop, List.extract_eq_take_drop]
  rw [Nat.sub_zero, List.drop_zero, List.take_of_length_le (l := List.drop _ _) (by rw [List.length_drop]; exact Nat.le_refl _), List.take_append_drop]
theorem app_inj {a b c d : ByteArray} (h : a ++ b = c ++ d) (hs : a.size = c.size) : a = c ∧ b = d := by
  have h1 := congrArg (fun x : ByteArray => x.data.toList) h
  simp only [ByteArray.data_append, Array.toList_append] at h1
  have h2 := List.append_inj h1 (by rw [Array.length_toList, Array.length_toList]; exact hs)
  exact ⟨ByteArray.ext (Array.toList_inj.1 h2.1), ByteArray.ext (Array.toList_inj.1 h2.2)⟩
theorem front_app (a b : ByteArray) (hb : b.size = 16) : front (a ++ b) = a ∧ back (a ++ b) = b :=
  app_inj (front_back (a ++ b)) (by rw [front_size, ByteArray.size_append]; omega)
def openE (tag : ByteArray → ByteArray) (c : Nat) (s : ByteArray) : Nat :=
  if c = 0 then (if s.size < 16 then 4 else if tag (front s) = back s then 0 else 6) else c
def openT (hide tag : ByteArray → ByteArray) (c : Nat) (s : ByteArray) : ByteArray := if openE tag c s = 0 then hide (front s) else ⟨#[]⟩
theorem ne_list {a b : ByteArray} (h : a ≠ b) : (a.toList == b.toList) = false := by
  rw [ByteArray.toList_eq, ByteArray.toList_eq, beq_eq_false_iff_ne]
  intro e
  exact h (ByteArray.ext (Array.toList_inj.1 e))
theorem sealed_is (hide tag : ByteArray → ByteArray) (hh : ∀ s, hide (hide s) = s) (s : ByteArray) : hide (hide (front s)) ++ tag (hide (hide (front s))) = s ↔ tag (front s) = back s := by
  rw [hh]
  constructor
  · intro h
    have e : front s ++ tag (front s) = front s ++ back s := by
      rw [front_back]
      exact h
    rw [(app_inj e rfl).2]
  · intro h
    rw [h, front_back]
end Go.Proofs.YtmbckgfpkmnlnabDoor.box
namespace Go.Proofs.YtmbckgfpkmnlnabDoor
open Go.Shelf
def Tryd.lays105_ren : Go.Shelf.Ren := ⟨fun | 105 => 21 | 212 => 27 | 99 => 18 | 165 => 28 | 166 => 29 | 170 => 30 | 169 => 31 | 263 => 37 | 264 => 38 | 206 => 25 | 240 => 39 | 241 => 40 | 276 => 48 | 277 => 49 | n => n, fun | 9 => 9 | 3 => 3 | 4 => 4 | 20 => 20 | 0 => 0 | 46 => 40 | 109 => 41 | 5 => 5 | 72 => 45 | 76 => 49 | 51 => 28 | 146 => 58 | 53 => 60 | 148 => 61 | 70 => 43 | 37 => 39 | 75 => 48 | 127 => 63 | 164 => 71 | 80 => 52 | n => n, fun | n => n⟩
theorem Tryd.lays105 : Go.Proofs.Lays.n105 Tryd.prog Tryd.lays105_ren := {
  mixed := by kernel_rfl
  f99 := Tryd.func18.trans (congrArg some (by kernel_rfl))
  f105 := Tryd.func21.trans (congrArg some (by kernel_rfl))
  f165 := Tryd.func28.trans (congrArg some (by kernel_rfl))
  f166 := Tryd.func29.trans (congrArg some (by kernel_rfl))
  f169 := Tryd.func31.trans (congrArg some (by kernel_rfl))
  f170 := Tryd.func30.trans (congrArg some (by kernel_rfl))
  f206 := Tryd.func25.trans (congrArg some (by kernel_rfl))
  f212 := Tryd.func27.trans (congrArg some (by kernel_rfl))
  f240 := Tryd.func39.trans (congrArg some (by kernel_rfl))
  f241 := Tryd.func40.trans (congrArg some (by kernel_rfl))
  f263 := Tryd.func37.trans (congrArg some (by kernel_rfl))
  f264 := Tryd.func38.trans (congrArg some (by kernel_rfl))
  f276 := Tryd.func48.trans (congrArg some (by kernel_rfl))
  f277 := Tryd.func49.trans (congrArg some (by kernel_rfl))
  t0 := Tryd.underlying0
  a0 := Tryd.isAgg0
  z0 := Tryd.sizeOf0
  v0 := Tryd.zeroValue0
  t3 := Tryd.underlying3
  a3 := Tryd.isAgg3
  z3 := Tryd.sizeOf3
  v3 := Tryd.zeroValue3
  t4 := Tryd.underlying4
  a4 := Tryd.isAgg4
  z4 := Tryd.sizeOf4
  v4 := Tryd.zeroValue4
  t5 := Tryd.underlying5
  a5 := Tryd.isAgg5
  z5 := Tryd.sizeOf5
  v5 := Tryd.zeroValue5
  t9 := Tryd.underlying9
  a9 := Tryd.isAgg9
  z9 := Tryd.sizeOf9
  v9 := Tryd.zeroValue9
  t20 := Tryd.underlying20
  a20 := Tryd.isAgg20
  z20 := Tryd.sizeOf20
  v20 := Tryd.zeroValue20
  t37 := Tryd.underlying39
  a37 := Tryd.isAgg39
  z37 := Tryd.sizeOf39
  v37 := Tryd.zeroValue39
  t46 := Tryd.underlying40
  a46 := Tryd.isAgg40
  z46 := Tryd.sizeOf40
  v46 := Tryd.zeroValue40
  t51 := Tryd.underlying28
  a51 := Tryd.isAgg28
  z51 := Tryd.sizeOf28
  v51 := Tryd.zeroValue28
  t53 := Tryd.underlying60
  a53 := Tryd.isAgg60
  z53 := Tryd.sizeOf60
  v53 := Tryd.zeroValue60
  t70 := Tryd.underlying43
  a70 := Tryd.isAgg43
  z70 := Tryd.sizeOf43
  v70 := Tryd.zeroValue43
  t72 := Tryd.underlying45
  a72 := Tryd.isAgg45
  z72 := Tryd.sizeOf45
  v72 := Tryd.zeroValue45
  t75 := Tryd.underlying48
  a75 := Tryd.isAgg48
  z75 := Tryd.sizeOf48
  v75 := Tryd.zeroValue48
  t76 := Tryd.underlying49
  a76 := Tryd.isAgg49
  z76 := Tryd.sizeOf49
  v76 := Tryd.zeroValue49
  t109 := Tryd.underlying41
  a109 := Tryd.isAgg41
  z109 := Tryd.sizeOf41
  v109 := Tryd.zeroValue41
  t127 := Tryd.underlying63
  a127 := Tryd.isAgg63
  z127 := Tryd.sizeOf63
  v127 := Tryd.zeroValue63
  t146 := Tryd.underlying58
  a146 := Tryd.isAgg58
  z146 := Tryd.sizeOf58
  v146 := Tryd.zeroValue58
  t148 := Tryd.underlying61
  a148 := Tryd.isAgg61
  z148 := Tryd.sizeOf61
  v148 := Tryd.zeroValue61
  t164 := Tryd.underlying71
  a164 := Tryd.isAgg71
  z164 := Tryd.sizeOf71
  v164 := Tryd.zeroValue71 }
theorem Tryd.Builder_Extra_105 : Builder.Extra Tryd.prog Tryd.lays105_ren := {
  sizeBuilder := by kernel_rfl
  liesBuilder := by kernel_rfl
  t5 := Tryd.underlying5
  a5 := Tryd.isAgg5
  z5 := Tryd.sizeOf5
  v5 := Tryd.zeroValue5
  infoByte := by kernel_rfl
  cellsByte := by kernel_rfl
  sizeByte := by kernel_rfl
  neB5 := by decide }
open Go.RowKit Go.Lib in
/-- **strings.Repeat: count ≥ 0, the result within one allocation: count copies of s.** -/
theorem Tryd.strings_Repeat (s : ByteArray) (c : Nat) (w : World) (hc : c ≤ 9223372036854775807) (hlen : s.size * c ≤ 140737488355328) :
    Calls Tryd.prog 21 #[.string s, .int .i64 c] w fun e w' => e = .returned (.string ⟨(Lib.repeatL s.data.toList c).toArray⟩) ∧ Below w.heap.size w w' := Any.strings_Repeat Tryd.lays105 Tryd.Builder_Extra_105 s c w hc hlen
end Go.Proofs.YtmbckgfpkmnlnabDoor
