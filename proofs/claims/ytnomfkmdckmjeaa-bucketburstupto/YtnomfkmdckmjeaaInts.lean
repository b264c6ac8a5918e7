/-
  LISTS OF INTS: a slice that is only read, in words of its cells; where one of its elements lies.
-/
import Derived.Test.YtnomfkmdckmjeaaProg
import Derived.WalkKit
import Derived.OwnWalk
namespace Go.Proofs.Ytnomfkmdckmjeaa
open Go.RowKit

theorem infoINT : (Try.prog.info? 3).map (fun i => (i.zero, i.size, i.bytes)) = some (some (.int .i64 0), 1, 8) := by kernel_rfl
/-- A slice at an address: it has n ints, which lie below block B. -/
structure Ints (w : World) (B : Nat) (a : Option Addr) (n : Nat) (zs : List Int) : Prop where
  len : zs.length = n
  lies : 0 < n → ∃ b off, a = some ⟨b, off, none⟩ ∧ b < B ∧ ∀ j x, zs[j]? = some x → w.cell? ⟨b, off + j, none⟩ = some (.int .i64 x)
theorem Ints.nil (w : World) (B : Nat) (a : Option Addr) : Ints w B a 0 [] := ⟨rfl, fun h => absurd h (by omega)⟩
theorem Ints.below {w w' : World} {B C n : Nat} {a : Option Addr} {zs : List Int} (h : Ints w B a n zs) (hb : Below C w w') (hB : B ≤ C) : Ints w' B a n zs :=
  ⟨h.len, fun h0 => by
    obtain ⟨b, off, rfl, hlt, hc⟩ := h.lies h0
    exact ⟨b, off, rfl, hlt, fun j x hx => (hb.cell (p := ⟨b, off + j, none⟩) (show b < C by omega)).trans (hc j x hx)⟩⟩
theorem Ints.mono {w : World} {B C n : Nat} {a : Option Addr} {zs : List Int} (h : Ints w B a n zs) (hB : B ≤ C) : Ints w C a n zs :=
  ⟨h.len, fun h0 => by
    obtain ⟨b, off, rfl, hlt, hc⟩ := h.lies h0
    exact ⟨b, off, rfl, by omega, hc⟩⟩
/-- Where element k lies, and what it is. -/
theorem Ints.at {w : World} {B n : Nat} {a : Option Addr} {zs : List Int} (h : Ints w B a n zs) (cap k : Nat) (hk : k < n) (hl : k < zs.length) :
    ∃ b off, (∀ W : World, (Instr.indexAt 27 (.slice a n cap) (.int .i64 (k : Int))).run Try.prog W = .ok (.pointer (some ⟨b, off + k, none⟩)) W) ∧ b < B ∧ w.cell? ⟨b, off + k, none⟩ = some (.int .i64 zs[k]) := by
  obtain ⟨b, off, rfl, hlt, hc⟩ := h.lies (by omega)
  refine ⟨b, off, fun W => ?_, hlt, hc k _ (List.getElem?_eq_getElem hl)⟩
  rw [run_indexAt_slice (h := Try.underlying27), if_pos ⟨by omega, by omega⟩]
  simp [Addr.add, show Try.prog.elem 27 = 3 from by kernel_rfl]
/-- A list of the call's own. -/
theorem Ints.own {w : World} {B n cap : Nat} {a : Option Addr} {xs : List Int} (h : w.ownsRow B 3 1 (.slice a n cap) n (xs.map (Value.int .i64))) : Ints w w.heap.size a n xs := by
  obtain ⟨hl, ⟨h0, h1⟩ | ⟨g, cap', cur, hv, hB, hg, hn, hm, hc, ht⟩⟩ := h
  · rw [List.length_map] at hl
    exact ⟨by omega, fun h => absurd h (by omega)⟩
  · rw [List.length_map] at hl
    injection hv with e1 e2 e3
    subst e1
    refine ⟨by omega, fun h0 => ⟨g, 0, rfl, (Array.getElem?_eq_some_iff.1 hg).1, fun j x hx => ?_⟩⟩
    have hj : j < n := by
      have := (List.getElem?_eq_some_iff.1 hx).1
      omega
    have h1 : (cur.toList.take (n * 1))[j]? = some (.int .i64 x) := by
      rw [ht, List.getElem?_map, hx]
      rfl
    rw [List.getElem?_take, if_pos (by omega)] at h1
    rw [Nat.zero_add, cell_of_row w g j cur 3 (0, 0) hg]
    simpa using h1
theorem take_snoc {zs : List Int} {k : Nat} (h : k < zs.length) : zs.take (k + 1) = zs.take k ++ [zs[k]] := List.take_succ_eq_append_getElem h
end Go.Proofs.Ytnomfkmdckmjeaa
