/-
  A LIST OF uint32 AMONG A LAW's ARGUMENTS: in words of its cells (U32s), where one of them lies, what its reading gives, and how it is read again behind the call.
-/
import Derived.Test.YtmkhojaddedpfaaFrame
import Derived.SizedLaws
import Derived.Carry
import Derived.ProofKit
import Derived.OwnWalk
import Derived.WalkKit
import Derived.Deep.MidRow
namespace Go.Proofs.Ytmkhojaddedpfaa
open Go.ChangeShapes Go.WideShapes Go.ChangeAt Go.RowKit

/-- A slice at an address: it has n numbers, which lie below block B. -/
structure U32s (w : World) (B : Nat) (a : Option Addr) (n : Nat) (zs : List Int) : Prop where
  len : zs.length = n
  lies : 0 < n → ∃ b off, a = some ⟨b, off, none⟩ ∧ b < B ∧ ∀ j x, zs[j]? = some x → w.cell? ⟨b, off + j, none⟩ = some (.int .u32 x)
theorem U32s.nil (w : World) (B : Nat) (a : Option Addr) : U32s w B a 0 [] := ⟨rfl, fun h => absurd h (by omega)⟩
theorem U32s.below {w w' : World} {B C n : Nat} {a : Option Addr} {zs : List Int} (h : U32s w B a n zs) (hb : Below C w w') (hB : B ≤ C) : U32s w' B a n zs :=
  ⟨h.len, fun h0 => by
    obtain ⟨b, off, rfl, hlt, hc⟩ := h.lies h0
    exact ⟨b, off, rfl, hlt, fun j x hx => (hb.cell (p := ⟨b, off + j, none⟩) (show b < C by omega)).trans (hc j x hx)⟩⟩
/-- Where element k lies, and what it is. -/
theorem U32s.at {w : World} {B n : Nat} {a : Option Addr} {zs : List Int} (h : U32s w B a n zs) (cap k : Nat) (hk : k < n) (hl : k < zs.length) :
    ∃ b off, (∀ W : World, (Instr.indexAt 23 (.slice a n cap) (.int .i64 (k : Int))).run Try.prog W = .ok (.pointer (some ⟨b, off + k, none⟩)) W) ∧ b < B ∧ w.cell? ⟨b, off + k, none⟩ = some (.int .u32 zs[k]) := by
  obtain ⟨b, off, rfl, hlt, hc⟩ := h.lies (by omega)
  refine ⟨b, off, fun W => ?_, hlt, hc k _ (List.getElem?_eq_getElem hl)⟩
  rw [run_indexAt_slice (h := Try.underlying23), if_pos ⟨by omega, by omega⟩]
  simp [Addr.add, show Try.prog.elem 23 = 30 from by kernel_rfl]
theorem laidOutV : laidOutB Try.prog = true := by kernel_rfl
theorem cellsU32V : Try.prog.cellsOf 30 = 1 := by kernel_rfl
theorem bytesU32 : Try.prog.bytesOf 30 = 4 := by kernel_rfl
theorem u32_open {H : Type} {enc : TypeId × Value → H} {W : World} {a : Option Addr} {n cap : Nat} {d : DataW H} {p : List MemPlace}
    (h : DataW.Trod enc Try.prog W 0 (fun _ => true) true 23 (.slice a n cap) d p) (hlt : ∀ x ∈ p, x.block < W.heap.size) :
    ∃ zs, U32s W W.heap.size a n zs ∧ (∀ z ∈ zs, (Lit.int .u32 z).wf = true) ∧ ((d = .nil ∧ n = 0) ∨ ∃ es sp, d = .slice es sp ∧ es.length = n) := by
  obtain ⟨f, hf⟩ := h
  rcases open_ints Try.underlying23 Try.underlying30 cellsU32V hf with ⟨hcs, hx⟩ | ⟨a', len', cap', zs, hcs, _, hl, hm, hz, hx, hcell, hwz⟩
  · simp [Value.cells] at hcs
    obtain ⟨rfl, rfl, rfl⟩ := hcs
    simp only [Prod.mk.injEq] at hx
    exact ⟨[], U32s.nil _ _ _, fun z h => (nomatch h), .inl ⟨hx.1, rfl⟩⟩
  · simp [Value.cells] at hcs
    obtain ⟨rfl, rfl, rfl⟩ := hcs
    simp only [Prod.mk.injEq] at hx
    obtain ⟨rfl, rfl⟩ := hx
    simp only [if_true] at hz
    refine ⟨zs.take n, ⟨by rw [List.length_take]; omega, fun h0 => ?_⟩, fun z hzm => hwz z (List.mem_of_mem_take hzm), .inr ⟨_, _, rfl, by simp [lits]; omega⟩⟩
    obtain ⟨b, off, spot⟩ := a'
    have hspot : spot = none := by simpa [Addr.add] using World.cell?_spot (hcell 0 (by omega))
    subst hspot
    refine ⟨b, off, rfl, hlt (.cell b off) (MemPlace.mem_row.2 ⟨0, by omega, by simp⟩), fun j x hx => ?_⟩
    have hj : j < n := by
      have := (List.getElem?_eq_some_iff.1 hx).1
      rw [List.length_take] at this
      omega
    rw [List.getElem?_take, if_pos hj] at hx
    have := hcell j (by omega)
    rw [Addr.add_mid] at this
    rw [this, List.getD_eq_getElem?_getD, hx]
    rfl
theorem u32_shut {H : Type} {enc : TypeId × Value → H} {W W' : World} {a : Option Addr} {n cap : Nat} {d : DataW H} {p : List MemPlace}
    (h : DataW.Trod enc Try.prog W 0 (fun _ => true) true 23 (.slice a n cap) d p) (hlt : ∀ x ∈ p, x.block < W.heap.size) (hn : Below W.heap.size W W') :
    DataW.Trod enc Try.prog W' 0 (fun b => decide (b < W.heap.size)) true 23 (.slice a n cap) d p :=
  Below.trod laidOutV (by kernel_rfl) (of_decide_eq_true (by kernel_rfl)) h hn hlt
end Go.Proofs.Ytmkhojaddedpfaa
