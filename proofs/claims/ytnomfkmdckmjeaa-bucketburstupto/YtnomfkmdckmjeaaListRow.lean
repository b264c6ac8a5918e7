/-
  A LIST OF INTS AMONG A LAW's ARGUMENTS: what its reading gives (Ints), and how it is read again behind the call.
-/
import Derived.Test.YtnomfkmdckmjeaaFrame
import Derived.Test.YtnomfkmdckmjeaaInts
import Derived.SizedLaws
import Derived.Carry
import Derived.ProofKit
import Derived.Deep.MidRow
namespace Go.Proofs.Ytnomfkmdckmjeaa
open Go.ChangeShapes Go.WideShapes Go.ChangeAt Go.RowKit

theorem laidOut : laidOutB Try.prog = true := by kernel_rfl
theorem cellsINT : Try.prog.cellsOf 3 = 1 := by kernel_rfl
theorem bytesINT : Try.prog.bytesOf 3 = 8 := by kernel_rfl
theorem list_open {H : Type} {enc : TypeId × Value → H} {W : World} {a : Option Addr} {n cap : Nat} {d : DataW H} {p : List MemPlace}
    (h : DataW.Trod enc Try.prog W 0 (fun _ => true) true 27 (.slice a n cap) d p) (hlt : ∀ x ∈ p, x.block < W.heap.size) :
    ∃ zs, Ints W W.heap.size a n zs ∧ (∀ z ∈ zs, (Lit.int .i64 z).wf = true) ∧ ((d = .nil ∧ n = 0) ∨ ∃ es sp, d = .slice es sp ∧ es.length = n) := by
  obtain ⟨f, hf⟩ := h
  rcases open_ints Try.underlying27 Try.underlying3 cellsINT hf with ⟨hcs, hx⟩ | ⟨a', len', cap', zs, hcs, _, hl, hm, hz, hx, hcell, hwz⟩
  · simp [Value.cells] at hcs
    obtain ⟨rfl, rfl, rfl⟩ := hcs
    simp only [Prod.mk.injEq] at hx
    exact ⟨[], Ints.nil _ _ _, fun z h => (nomatch h), .inl ⟨hx.1, rfl⟩⟩
  · simp [Value.cells] at hcs
    obtain ⟨rfl, rfl, rfl⟩ := hcs
    simp only [Prod.mk.injEq] at hx
    obtain ⟨rfl, rfl⟩ := hx
    simp only [if_true] at hz
    refine ⟨zs.take n, ⟨by rw [List.length_take]; omega, fun h0 => ?_⟩, fun z hzm => hwz z (List.mem_of_mem_take hzm), .inr ⟨_, _, rfl, by simp [lits]; omega⟩⟩
    obtain ⟨b, off, spot⟩ := a'
    have hspot : spot = none := by simpa [Addr.add] using World.cell?_spot (hcell 0 (by omega))
    subst hspot
    refine ⟨b, off, rfl, hlt (.cell b off) (MemPlace.mem_row.2 ⟨0, by omega, by simp⟩), fun j x hx => ?_⟩
    have hj : j < n := by
      have := (List.getElem?_eq_some_iff.1 hx).1
      rw [List.length_take] at this
      omega
    rw [List.getElem?_take, if_pos hj] at hx
    have := hcell j (by omega)
    rw [Addr.add_mid] at this
    rw [this, List.getD_eq_getElem?_getD, hx]
    rfl
theorem list_shut {H : Type} {enc : TypeId × Value → H} {W W' : World} {a : Option Addr} {n cap : Nat} {d : DataW H} {p : List MemPlace}
    (h : DataW.Trod enc Try.prog W 0 (fun _ => true) true 27 (.slice a n cap) d p) (hlt : ∀ x ∈ p, x.block < W.heap.size) (hn : Below W.heap.size W W') :
    DataW.Trod enc Try.prog W' 0 (fun b => decide (b < W.heap.size)) true 27 (.slice a n cap) d p :=
  Below.trod laidOut (by kernel_rfl) (of_decide_eq_true (by kernel_rfl)) h hn hlt
end Go.Proofs.Ytnomfkmdckmjeaa
