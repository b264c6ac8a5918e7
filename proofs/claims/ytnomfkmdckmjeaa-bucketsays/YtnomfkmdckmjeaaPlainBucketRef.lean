/-
  THE DOCUMENT's BUCKET, said plainly: the same list, in the same order; where one of it lies.
-/
import Derived.Test.YtnomfkmdckmjeaaPlainBucketFair
namespace Go.Proofs.Ytnomfkmdckmjeaa.bkt
open Go.Maps Go.WideShapes Go.RowKit

theorem pass_app (L M : List Ent) (t : Nat) : pass (L ++ M) t = pass L t ++ pass M t := by
  unfold pass
  rw [List.map_append, List.filter_append]
theorem pass_one (p : Ent) (t : Nat) : pass [p] t = if p.2 + t < 5 then [(p.1, p.2 + t)] else [] := by
  unfold pass
  rw [List.map_cons, List.map_nil, List.filter_cons]
  by_cases c : p.2 + t < 5
  · rw [if_pos (by simpa using c), if_pos c]; rfl
  · rw [if_neg (by simpa using c), if_neg c]; rfl
theorem pass_take {L : List Ent} {k : Nat} (hk : k < L.length) (t : Nat) : pass (L.take (k + 1)) t = pass (L.take k) t ++ (if L[k].2 + t < 5 then [(L[k].1, L[k].2 + t)] else []) := by
  rw [List.take_succ_eq_append_getElem hk, pass_app, pass_one]
/-- Where x is in M: nowhere, or at j. -/
inductive At (M : List Ent) (x : Nat) : Int → Prop
  | none : look M x = none → At M x (-1)
  | at (j : Nat) (hj : j < M.length) : M[j].1 = x → At M x (j : Int)
theorem At.nil (x : Nat) : At [] x (-1) := .none rfl
theorem At.skip {M : List Ent} {x : Nat} {m : Int} (h : At M x m) {p : Ent} (hp : p.1 ≠ x) : At (M ++ [p]) x m := by
  cases h with
  | none h =>
    refine .none ?_
    rw [look_app, h]
    show (if p.1 = x then some p.2 else Option.none) = Option.none
    rw [if_neg hp]
  | «at» j hj h =>
    refine .at j (by rw [List.length_append]; omega) ?_
    rw [List.getElem_append_left hj]
    exact h
theorem At.here (M : List Ent) {x : Nat} {p : Ent} (hp : p.1 = x) : At (M ++ [p]) x (M.length : Int) := by
  refine .at M.length (by simp) ?_
  rw [List.getElem_append_right (Nat.le_refl _)]
  simpa using hp
theorem look_at {M : List Ent} (hn : (M.map (·.1)).Nodup) {x j : Nat} (hj : j < M.length) (h : M[j].1 = x) : look M x = some M[j].2 := by
  refine look_of_mem hn ?_
  rw [← h]
  exact List.getElem_mem hj
theorem upd_at {M : List Ent} (hn : (M.map (·.1)).Nodup) {x j : Nat} (hj : j < M.length) (h : M[j].1 = x) (v : Nat) : upd M x v = M.set j (x, v) := by
  apply List.ext_getElem
  · simp [upd]
  · intro i h1 h2
    have hi : i < M.length := by simpa [upd] using h1
    simp only [upd, List.getElem_map, List.getElem_set]
    by_cases c : j = i
    · subst c
      rw [if_pos h, if_pos rfl]
    · rw [if_neg c, if_neg (fun e => c ?_)]
      have := List.pairwise_iff_getElem.1 hn
      have hi' : i < (M.map (·.1)).length := by simpa using hi
      have hj' : j < (M.map (·.1)).length := by simpa using hj
      rcases Nat.lt_trichotomy j i with q | q | q
      · exact absurd (by simp [h, e]) (this j i hj' hi' q)
      · exact q
      · exact absurd (by simp [h, e]) (this i j hi' hj' q)
def ks (L : List Ent) : List Value := L.map fun p => .int .u32 (p.1 : Int)
def ls (L : List Ent) : List Value := L.map fun p => .int .i64 (p.2 : Int)
theorem ks_len (L : List Ent) : (ks L).length = L.length := by simp [ks]
theorem ls_len (L : List Ent) : (ls L).length = L.length := by simp [ls]
theorem ks_app (L : List Ent) (p : Ent) : ks (L ++ [p]) = ks L ++ [.int .u32 (p.1 : Int)] := by simp [ks]
theorem ls_app (L : List Ent) (p : Ent) : ls (L ++ [p]) = ls L ++ [.int .i64 (p.2 : Int)] := by simp [ls]
theorem ks_set {L : List Ent} {j : Nat} (hj : j < L.length) (v : Nat) : ks (L.set j (L[j].1, v)) = ks L := by
  unfold ks
  apply List.ext_getElem
  · simp
  · intro i h1 h2
    rw [List.getElem_map, List.getElem_map, List.getElem_set]
    split
    · rename_i c; subst c; rfl
    · rfl
theorem ls_set (L : List Ent) (j x v : Nat) : ls (L.set j (x, v)) = (ls L).set j (.int .i64 (v : Int)) := by
  unfold ls
  rw [List.map_set]
theorem ks_get {L : List Ent} {k : Nat} (hk : k < L.length) : (ks L)[k]? = some (.int .u32 (L[k].1 : Int)) := by
  unfold ks
  rw [List.getElem?_map, List.getElem?_eq_getElem hk]
  rfl
theorem ls_get {L : List Ent} {k : Nat} (hk : k < L.length) : (ls L)[k]? = some (.int .i64 (L[k].2 : Int)) := by
  unfold ls
  rw [List.getElem?_map, List.getElem?_eq_getElem hk]
  rfl
end Go.Proofs.Ytnomfkmdckmjeaa.bkt
