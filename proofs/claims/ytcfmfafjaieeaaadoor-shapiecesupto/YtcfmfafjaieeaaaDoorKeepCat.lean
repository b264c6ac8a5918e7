/-
  TEXTS ONE BEHIND THE OTHER: all of a list's, and what strings.Join makes of them; a list of texts that came in.
-/
import Derived.Test.YtcfmfafjaieeaaaDoorShelfStr
import Derived.Test.YtcfmfafjaieeaaaDoorRow
import Derived.Test.YtcfmfafjaieeaaaDoorRows
import Derived.WalkKit
import Derived.SliceStrings
namespace Go.Proofs.YtcfmfafjaieeaaaDoor
open Go.RowKit

/-- All, one behind the other. -/
def cat : List ByteArray → ByteArray
  | [] => ⟨#[]⟩
  | s :: l => s ++ cat l
theorem cat_append : ∀ l m : List ByteArray, cat (l ++ m) = cat l ++ cat m
  | [], m => by show cat m = ⟨#[]⟩ ++ cat m; exact ByteArray.empty_append.symm
  | s :: l, m => by show s ++ cat (l ++ m) = s ++ cat l ++ cat m; rw [cat_append l m, ByteArray.append_assoc]
theorem cat_one (s : ByteArray) : cat [s] = s := ByteArray.append_empty
theorem cat_take {l : List ByteArray} {k : Nat} (h : k < l.length) : cat (l.take (k + 1)) = cat (l.take k) ++ l[k] := by
  rw [List.take_succ_eq_append_getElem h, cat_append, cat_one]
def lens : List ByteArray → Nat
  | [] => 0
  | s :: l => s.size + lens l
theorem cat_size : ∀ l : List ByteArray, (cat l).size = lens l
  | [] => rfl
  | s :: l => by show (s ++ cat l).size = s.size + lens l; rw [ByteArray.size_append, cat_size l]
theorem lens_take : ∀ (l : List ByteArray) (k : Nat), lens (l.take k) ≤ lens l
  | [], k => by simp [lens]
  | s :: l, 0 => Nat.zero_le _
  | s :: l, k + 1 => by have := lens_take l k; simp only [List.take_succ_cons, lens]; omega
theorem lens_get : ∀ (l : List ByteArray) (k : Nat) (h : k < l.length), l[k].size ≤ lens l
  | s :: l, 0, _ => by simp only [List.getElem_cons_zero, lens]; omega
  | s :: l, k + 1, h => by have := lens_get l k (by simpa using h); simp only [List.getElem_cons_succ, lens]; omega
/-- Their letters, and they themselves, by the bulk. -/
theorem bulk_strs {H : Type} : ∀ l : List ByteArray, Rows.uptoBulkAll (Go.ChangeShapes.strs (H := H) l) = lens l + l.length
  | [] => rfl
  | s :: l => by
    have ih := bulk_strs (H := H) l
    have e : s.data.toList.length = s.size := by rw [Array.length_toList]; rfl
    show Rows.uptoBulk (DataW.lit (.string s.data.toList)) + Rows.uptoBulkAll (Go.ChangeShapes.strs (H := H) l) = s.size + lens l + (l.length + 1)
    rw [ih]
    simp only [Rows.uptoBulk]
    omega
theorem join_plain (xs : List (List UInt8)) : Lib.join xs [] = xs.flatten := by
  cases xs with
  | nil => rfl
  | cons x r =>
    rw [Lib.join_cons, List.flatten_cons]
    congr 1
    unfold Lib.joinTail
    congr 1
    simp
theorem flat_cat : ∀ l : List ByteArray, (l.map (·.data.toList)).flatten = (cat l).data.toList
  | [] => rfl
  | s :: l => by
    rw [List.map_cons, List.flatten_cons, flat_cat l]
    show _ = (s ++ cat l).data.toList
    rw [ByteArray.data_append]
    simp
theorem join_cat (l : List ByteArray) : (⟨(Lib.join (l.map (·.data.toList)) (⟨#[]⟩ : ByteArray).data.toList).toArray⟩ : ByteArray) = cat l := by
  apply ByteArray.ext
  show (Lib.join (l.map (·.data.toList)) []).toArray = (cat l).data
  rw [join_plain, flat_cat]
/-- strings.Join of a list that came in. -/
theorem join_in (bk o c : Nat) (xs : List ByteArray) (w : World) (hcells : ∀ (j : Nat) x, xs[j]? = some x → w.cell? ⟨bk, o + j, none⟩ = some (.string x)) (hbk : bk < w.heap.size) (hN : xs.length ≤ 140737488355328) (hcap : xs.length ≤ c) (hlen : lens xs ≤ 140737488355328) :
    Calls Tryd.prog 10 #[.slice (some ⟨bk, o, none⟩) xs.length c, .string ⟨#[]⟩] w fun e w' => e = .returned (.string (cat xs)) ∧ Below w.heap.size w w' := by
  have h := Tryd.strings_Join bk o c xs ⟨#[]⟩ w hcells hbk hN hcap (by
    show (Lib.join (xs.map (·.data.toList)) []).length ≤ _
    rw [join_plain, flat_cat, Array.length_toList]
    exact Nat.le_trans (Nat.le_of_eq (cat_size xs)) hlen)
  rw [join_cat] at h
  exact h
/-- strings.Join of nil. -/
theorem join_nil (w : World) : Calls Tryd.prog 10 #[.slice none 0 0, .string ⟨#[]⟩] w fun e w' => e = .returned (.string ⟨#[]⟩) ∧ Below w.heap.size w w' := by
  go_enter Tryd.func10, Tryd.ntmps10
  go_wp2
  go_ret
  exact ⟨rfl, Below.refl _ _⟩
end Go.Proofs.YtcfmfafjaieeaaaDoor
