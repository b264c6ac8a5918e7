/-
  NUMBERS OF 32 BITS AS CELLS, and one of an array's, the array at hand as a value.
  PLAIN: the cells that a Hash is kept in. No program is named here.
-/
import Derived.Test.YtmkhojaddedpfaaDoorRow
import Derived.Test.YtmkhojaddedpfaaDoorPlainSha
import Derived.Test.YtmkhojaddedpfaaDoorBut
namespace Go.Proofs.YtmkhojaddedpfaaDoor
open Go.RowKit

def wd (l : List Nat) : List Value := l.map fun n : Nat => Value.int .u32 (n : Int)
theorem wd_length (l : List Nat) : (wd l).length = l.length := by simp [wd]
theorem wd_get (l : List Nat) (j : Nat) (h : j < l.length) : (wd l)[j]? = some (.int .u32 ((l.getD j 0 : Nat) : Int)) := by
  simp [wd, h]
theorem wd_append (l m : List Nat) : wd (l ++ m) = wd l ++ wd m := by simp [wd]
theorem wd_set (l : List Nat) (j n : Nat) : (wd l).set j (.int .u32 (n : Int)) = wd (l.set j n) := by simp [wd, List.map_set]
theorem wd_take (l : List Nat) (k : Nat) : wd (l.take k) = (wd l).take k := by simp [wd]
theorem wd_drop (l : List Nat) (k : Nat) : wd (l.drop k) = (wd l).drop k := by simp [wd]
theorem wd_one (l : List Nat) : (wd l).toArray.all (·.oneCell') = true := by simp [wd, Value.oneCell']
theorem wd_ones (l : List Nat) : ∀ u ∈ wd l, u.oneCell' = true := by simp [wd, Value.oneCell']
theorem wd_cons (n : Nat) (l : List Nat) : wd (n :: l) = .int .u32 (n : Int) :: wd l := rfl
/-- One of an array's numbers, the array at hand as a value. -/
theorem run_index_wd {P : Program} {ty e : TypeId} {n : Nat} {i0 : TypeInfo} (hu : P.underlying ty = some (.array n e)) (he : P.underlying e = some (.int .u32)) (hi : P.info? e = some i0) (hs : i0.size = 1)
    (l : List Nat) (k : Nat) (hk : k < n) (hl : k < l.length) (w : World) :
    (Instr.index ty (.agg (wd l).toArray) (.int .i64 (k : Int))).run P w = .ok (.int .u32 ((l.getD k 0 : Nat) : Int)) w := by
  have hg : (wd l).toArray[k]? = some (.int .u32 ((l.getD k 0 : Nat) : Int)) := by
    rw [List.getElem?_toArray]; exact wd_get l k hl
  have h0 : (0 : Int) ≤ (k : Int) ∧ (k : Int) < (n : Int) := ⟨by omega, by omega⟩
  simp [Instr.index, asIntOf, run_underlying hu, h0, part, isAgg, run_underlying he, sizeOf, typeInfo, hi, hs]
  rw [if_pos hk, ← List.getElem?_toArray, hg]
  simp [List.getD_eq_getElem?_getD]
end Go.Proofs.YtmkhojaddedpfaaDoor
namespace Go.Proofs.YtmkhojaddedpfaaDoor.sha
open Go.RowKit
open Go.Proofs.YtmkhojaddedpfaaDoor.ghs (tb tb_lt tb_out tb_tx mkl mkl_length mkl_get mkl_congr tx_ext text_ext)

/-- Eight numbers, 64 bytes, and a number of 64 bits. -/
def tri (S R : List Nat) (z : Nat) : List Value := wd S ++ (by8 R ++ [Value.int .u64 (z : Int)])
theorem tri_length {S R : List Nat} (z : Nat) (hS : S.length = 8) (hR : R.length = 64) : (tri S R z).length = 73 := by
  unfold tri
  rw [List.length_append, List.length_append, wd_length, by8_length, hS, hR]
  rfl
theorem tri_get72 {S R : List Nat} (z : Nat) (hS : S.length = 8) (hR : R.length = 64) : (tri S R z)[72]? = some (.int .u64 (z : Int)) := by
  unfold tri
  rw [List.getElem?_append_right (by rw [wd_length, hS]; decide), wd_length, hS, List.getElem?_append_right (by rw [by8_length, hR]; decide), by8_length, hR]
  rfl
theorem tri_set72 {S R : List Nat} (z z' : Nat) (hS : S.length = 8) (hR : R.length = 64) : (tri S R z).set 72 (.int .u64 (z' : Int)) = tri S R z' := by
  unfold tri
  rw [List.set_append_right _ _ (by rw [wd_length, hS]; decide), wd_length, hS, List.set_append_right _ _ (by rw [by8_length, hR]; decide), by8_length, hR]
  rfl
theorem tri_S (S R : List Nat) (z : Nat) : wd S = ((tri S R z).drop 0).take (wd S).length := by
  unfold tri
  rw [List.drop_zero, List.take_left]
theorem tri_R {S R : List Nat} (z : Nat) (hS : S.length = 8) : by8 R = ((tri S R z).drop 8).take (by8 R).length := by
  unfold tri
  rw [List.drop_append_of_le_length (by rw [wd_length, hS]; exact Nat.le_refl _), List.drop_of_length_le (by rw [wd_length, hS]; exact Nat.le_refl _), List.nil_append, List.take_left]
theorem tri_putS {S R : List Nat} (S' : List Nat) (z : Nat) (hS : S.length = 8) (hS' : S'.length = 8) : (tri S R z).take 0 ++ wd S' ++ (tri S R z).drop (0 + (wd S').length) = tri S' R z := by
  unfold tri
  rw [List.take_zero, List.nil_append, Nat.zero_add, wd_length, hS', List.drop_append_of_le_length (by rw [wd_length, hS]; exact Nat.le_refl _), List.drop_of_length_le (by rw [wd_length, hS]; exact Nat.le_refl _), List.nil_append]
theorem tri_take8 {S R : List Nat} (k z : Nat) (hS : S.length = 8) : (tri S R z).take (8 + k) = wd S ++ (by8 R ++ [Value.int .u64 (z : Int)]).take k := by
  unfold tri
  rw [List.take_append, wd_length, hS, List.take_of_length_le (by rw [wd_length, hS]; omega), Nat.add_sub_cancel_left]
theorem tri_drop8 {S R : List Nat} (k z : Nat) (hS : S.length = 8) : (tri S R z).drop (8 + k) = (by8 R ++ [Value.int .u64 (z : Int)]).drop k := by
  unfold tri
  rw [List.drop_append, wd_length, hS, List.drop_of_length_le (by rw [wd_length, hS]; omega), List.nil_append, Nat.add_sub_cancel_left]
theorem tri_copy {S R y : List Nat} (k z : Nat) (hS : S.length = 8) (hR : R.length = 64) (hk : k + y.length ≤ 64) : (tri S R z).take (8 + k) ++ by8 y ++ (tri S R z).drop (8 + k + (by8 y).length) = tri S (R.take k ++ y ++ R.drop (k + y.length)) z := by
  rw [tri_take8 k z hS, Nat.add_assoc, tri_drop8 _ z hS, by8_length]
  unfold tri
  rw [List.take_append_of_le_length (by rw [by8_length, hR]; omega), List.drop_append_of_le_length (by rw [by8_length, hR]; omega), by8_append, by8_append, by8_take, by8_drop]
  simp [List.append_assoc]
theorem tri_putR {S R : List Nat} (R' : List Nat) (z : Nat) (hS : S.length = 8) (hR : R.length = 64) (hR' : R'.length = 64) : (tri S R z).take 8 ++ by8 R' ++ (tri S R z).drop (8 + (by8 R').length) = tri S R' z := by
  have h1 := tri_take8 (S := S) (R := R) 0 z hS
  rw [Nat.add_zero, List.take_zero, List.append_nil] at h1
  rw [h1, tri_drop8 _ z hS, by8_length, hR', List.drop_append, by8_length, hR, List.drop_of_length_le (by rw [by8_length, hR]; exact Nat.le_refl _), List.nil_append]
  unfold tri
  rw [List.append_assoc]
  rfl
/-- What is kept of a text. -/
def hc (s : ByteArray) : List Value := tri (stA (tb s) (s.size / 64)) (restL s) s.size
theorem hc_length (s : ByteArray) : (hc s).length = 73 := tri_length _ (stA_length _ _) (restL_length s)
theorem nb_app (a b : ByteArray) : nb (a ++ b) = nb a ++ nb b := by simp [nb]
theorem text_parts (y : ByteArray) (n : Nat) : y.extract 0 n ++ y.extract n y.size = y := by
  have h := List.take_of_length_le (l := nb y) (i := y.size) (by rw [nb_length]; exact Nat.le_refl _)
  have e : nb (y.extract 0 n ++ y.extract n y.size) = nb y := by
    rw [nb_app, nb_extract, nb_extract, List.drop_zero, h, List.take_append_drop]
  rw [← tx_nb (y.extract 0 n ++ y.extract n y.size), e, tx_nb]
theorem text_none {y : ByteArray} (h : y.size = 0) (x : ByteArray) : x ++ y = x := by
  have : y = ⟨#[]⟩ := by
    obtain ⟨⟨l⟩⟩ := y
    have : l = [] := by
      have h' : l.length = 0 := h
      exact List.length_eq_zero_iff.1 h'
    rw [this]
  rw [this]
  exact ByteArray.append_empty
theorem text_assoc (a b c : ByteArray) : a ++ b ++ c = a ++ (b ++ c) := ByteArray.append_assoc
/-- A store of a part of a block, at the list of a plain region's operations. -/
theorem wpList_store_part {P : Program} {ops : Array Oper} {rest : List Oper} {op : Oper} {a : Act} {w : World} {Q : Exit → Act → World → Prop} (hgd : op.guard = none) (ty : TypeId) (x y : Operand) (ho : op.op = .store ty x y)
    (b o : Nat) (cs : List Value) (hx : a.eval x = .pointer (some ⟨b, o, none⟩)) (hy : a.eval y = .agg cs.toArray) {t : Nat} (l : List Value) (hA : Blk w b t l) (hl : o + cs.length ≤ l.length) (hc : cs.toArray.all (·.oneCell') = true)
    (hi : (P.info? ty).map (·.size) = some cs.length)
    (h : ∀ W, Copied w W b t o l cs → wpList P ops Q rest (a.put op.dst undef) W) : wpList P ops Q (op :: rest) a w := by
  refine wpList_store_mid hgd ty x y ho b o cs.toArray hx hy (fun j hj => ?_) (by rw [hi, List.size_toArray]) hc ?_
  · rw [List.size_toArray] at hj
    rw [hA.cell (o + j) l[o + j] (List.getElem?_eq_getElem (by omega)), hA.frozen]
    exact ⟨rfl, rfl⟩
  · exact h _ (copied_of hA o cs hl)
end Go.Proofs.YtmkhojaddedpfaaDoor.sha
