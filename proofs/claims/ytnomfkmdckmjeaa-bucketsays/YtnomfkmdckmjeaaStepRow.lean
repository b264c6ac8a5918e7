/-
  A LIST OF STEPS (souterrainref.Step) AMONG A LAW's ARGUMENTS: what its reading gives (Steps), where one of them lies, and how the list is read again behind the call.
-/
import Derived.Test.YtnomfkmdckmjeaaFrame
import Derived.SizedLaws
import Derived.Carry
import Derived.ProofKit
import Derived.OwnWalk
import Derived.WalkKit
import Derived.Deep.MidRow
import Derived.Deep.Slices
import Derived.ChangeArms
namespace Go.Proofs.Ytnomfkmdckmjeaa
open Go.ChangeShapes Go.WideShapes Go.ChangeAt Go.RowKit

structure StepV where
  kind : Int
  a : Int
  b : Int
  n : Int
  m : Int
  s : ByteArray
  ad : Int
  bi : Int
instance : Inhabited StepV := ⟨⟨0, 0, 0, 0, 0, .empty, 0, 0⟩⟩
def cells8 (x : StepV) : List Value := [.int .i64 x.kind, .int .i64 x.a, .int .i64 x.b, .int .u32 x.n, .int .u32 x.m, .string x.s, .int .u32 x.ad, .int .i64 x.bi]
structure StepV.Fits (x : StepV) : Prop where
  kind : (Lit.int .i64 x.kind).wf = true
  a : (Lit.int .i64 x.a).wf = true
  ad : (Lit.int .u32 x.ad).wf = true
  bi : (Lit.int .i64 x.bi).wf = true
  num : (Lit.int .u32 x.n).wf = true
/-- A slice of n steps, below block B. -/
structure Steps (w : World) (B : Nat) (a : Option Addr) (n : Nat) (zs : List StepV) : Prop where
  len : zs.length = n
  lies : 0 < n → ∃ b off, a = some ⟨b, off, none⟩ ∧ b < B ∧ ∀ j x, zs[j]? = some x → ∀ i v, (cells8 x)[i]? = some v → w.cell? ⟨b, off + j * 8 + i, none⟩ = some v
theorem Steps.below {w w' : World} {B C n : Nat} {a : Option Addr} {zs : List StepV} (h : Steps w B a n zs) (hb : Below C w w') (hB : B ≤ C) : Steps w' B a n zs :=
  ⟨h.len, fun h0 => by
    obtain ⟨b, off, rfl, hlt, hc⟩ := h.lies h0
    exact ⟨b, off, rfl, hlt, fun j x hx i v hv => (hb.cell (p := ⟨b, off + j * 8 + i, none⟩) (show b < C by omega)).trans (hc j x hx i v hv)⟩⟩
set_option maxRecDepth 100000 in
/-- Where step k lies. -/
theorem Steps.at {w : World} {B n : Nat} {a : Option Addr} {zs : List StepV} (h : Steps w B a n zs) (cap k : Nat) (hk : k < n) (hl : k < zs.length) :
    ∃ b o, (∀ W : World, (Instr.indexAt 22 (.slice a n cap) (.int .i64 (k : Int))).run Try.prog W = .ok (.pointer (some ⟨b, o, none⟩)) W) ∧ b < B ∧ ∀ i v, (cells8 zs[k])[i]? = some v → w.cell? ⟨b, o + i, none⟩ = some v := by
  obtain ⟨b, off, rfl, hlt, hc⟩ := h.lies (by omega)
  refine ⟨b, off + k * 8, fun W => ?_, hlt, hc k _ (List.getElem?_eq_getElem hl)⟩
  rw [run_indexAt_slice (h := Try.underlying22), if_pos ⟨by omega, by omega⟩]
  have hi : (Try.prog.info? 34).map (fun i => i.size) = some 8 := by kernel_rfl
  obtain ⟨i0, hi0, hs⟩ := Option.map_eq_some_iff.1 hi
  have hz : (sizeOf 34).run Try.prog W = .ok 8 W := by simp [sizeOf, typeInfo, hi0, hs]
  rw [show Try.prog.elem 22 = 34 from by kernel_rfl, hz]
  by_cases h0 : k = 0
  · subst h0; simp [Addr.add]
  · have h8 : ¬ k * 8 = 0 := by omega
    simp [Addr.add, h8]
set_option maxRecDepth 100000 in
theorem laidOutQ : laidOutB Try.prog = true := by kernel_rfl
set_option maxRecDepth 100000 in
theorem cellsSTEP : Try.prog.cellsOf 34 = 8 := by kernel_rfl
set_option maxRecDepth 100000 in
theorem cellsPREFIX : Try.prog.cellsOf 32 = 2 := by kernel_rfl
set_option maxRecDepth 100000 in
theorem cellsINTQ : Try.prog.cellsOf 3 = 1 := by kernel_rfl
set_option maxRecDepth 100000 in
theorem cellsU32Q : Try.prog.cellsOf 30 = 1 := by kernel_rfl
set_option maxRecDepth 100000 in
theorem cellsSTRQ : Try.prog.cellsOf 9 = 1 := by kernel_rfl
set_option maxRecDepth 100000 in
theorem bytesSTEP : Try.prog.bytesOf 34 = 64 := by kernel_rfl
set_option maxRecDepth 100000 in
theorem step_cells {H : Type} {enc : TypeId × Value → H} {W : World} {f : Nat} {cs : List Value} {x : DataW H × List MemPlace} (h : DataW.trod enc Try.prog W 0 (fun _ => true) true f 34 cs = some x) : ∃ z : StepV, cs = cells8 z ∧ z.Fits := by
  obtain ⟨xs, n, _, _, hlen, hxl, hf⟩ := DataW.trod_struct Try.underlying34 h
  rw [cellsSTEP] at hlen
  match cs, hlen with
  | [c0, c1, c2, c3, c4, c5, c6, c7], _ =>
    match xs, hxl with
    | [x0, x1, x2, x3, x4, x5, x6], _ =>
      have g0 : DataW.trod enc Try.prog W 0 (fun _ => true) true n 3 [c0] = some x0 := by simpa [cellsINTQ] using hf 0 _ rfl
      have g1 : DataW.trod enc Try.prog W 0 (fun _ => true) true n 3 [c1] = some x1 := by simpa [cellsINTQ] using hf 1 _ rfl
      have g2 : DataW.trod enc Try.prog W 0 (fun _ => true) true n 3 [c2] = some x2 := by simpa [cellsINTQ] using hf 2 _ rfl
      have g3 : DataW.trod enc Try.prog W 0 (fun _ => true) true n 30 [c3] = some x3 := by simpa [cellsU32Q] using hf 3 _ rfl
      have g4 : DataW.trod enc Try.prog W 0 (fun _ => true) true n 30 [c4] = some x4 := by simpa [cellsU32Q] using hf 4 _ rfl
      have g5 : DataW.trod enc Try.prog W 0 (fun _ => true) true n 9 [c5] = some x5 := by simpa [cellsSTRQ] using hf 5 _ rfl
      have g6 : DataW.trod enc Try.prog W 0 (fun _ => true) true n 32 [c6, c7] = some x6 := by simpa [cellsPREFIX] using hf 6 _ rfl
      obtain ⟨n0, e0, _, w0⟩ := DataW.trod_int Try.underlying3 g0
      obtain ⟨n1, e1, _, w1⟩ := DataW.trod_int Try.underlying3 g1
      obtain ⟨n2, e2, _, w2⟩ := DataW.trod_int Try.underlying3 g2
      obtain ⟨n3, e3, _, w3⟩ := DataW.trod_int Try.underlying30 g3
      obtain ⟨n4, e4, _, w4⟩ := DataW.trod_int Try.underlying30 g4
      obtain ⟨n5, e5, _, w5⟩ := DataW.trod_string Try.underlying9 g5
      obtain ⟨ys, m, _, _, _, hyl, hg⟩ := DataW.trod_struct Try.underlying32 g6
      match ys, hyl with
      | [y0, y1], _ =>
        have k0 : DataW.trod enc Try.prog W 0 (fun _ => true) true m 30 [c6] = some y0 := by simpa [cellsU32Q] using hg 0 _ rfl
        have k1 : DataW.trod enc Try.prog W 0 (fun _ => true) true m 3 [c7] = some y1 := by simpa [cellsINTQ] using hg 1 _ rfl
        obtain ⟨n6, e6, _, w6⟩ := DataW.trod_int Try.underlying30 k0
        obtain ⟨n7, e7, _, w7⟩ := DataW.trod_int Try.underlying3 k1
        simp only [List.cons.injEq, and_true] at e0 e1 e2 e3 e4 e5 e6 e7
        subst e0 e1 e2 e3 e4 e5 e6 e7
        exact ⟨⟨n0, n1, n2, n3, n4, n5, n6, n7⟩, rfl, ⟨w0, w1, w6, w7, w3⟩⟩
set_option maxRecDepth 100000 in
theorem step_open {H : Type} {enc : TypeId × Value → H} {W : World} {a : Option Addr} {n cap : Nat} {d : DataW H} {p : List MemPlace}
    (h : DataW.Trod enc Try.prog W 0 (fun _ => true) true 22 (.slice a n cap) d p) (hlt : ∀ x ∈ p, x.block < W.heap.size) :
    ∃ zs, Steps W W.heap.size a n zs ∧ (∀ z ∈ zs, z.Fits) ∧ ((d = .nil ∧ n = 0) ∨ ∃ es sp, d = .slice es sp ∧ es.length = n) := by
  obtain ⟨f, hf⟩ := h
  rcases Go.Deep.open_slice Try.underlying22 hf with ⟨hcs, hx⟩ | ⟨a', len', cap', m, k, D, Pl, hcs, _, hl, hm, hmm, hx, hall⟩
  · simp [Value.cells] at hcs
    obtain ⟨rfl, rfl, rfl⟩ := hcs
    simp only [Prod.mk.injEq] at hx
    exact ⟨[], ⟨rfl, fun h => absurd h (by omega)⟩, fun z h => (nomatch h), .inl ⟨hx.1, rfl⟩⟩
  · simp [Value.cells] at hcs
    obtain ⟨rfl, rfl, rfl⟩ := hcs
    simp only [Prod.mk.injEq] at hx
    obtain ⟨rfl, rfl⟩ := hx
    simp only [if_true] at hmm
    subst hmm
    obtain ⟨Z, hZ⟩ := Go.Deep.choose_lt (α := StepV) (n := m) (p := fun i z => z.Fits ∧ ∀ j v, (cells8 z)[j]? = some v → W.cell? ((a'.add (i * 8)).add j) = some v) (fun i hi => by
      obtain ⟨cs', h1, h2⟩ := hall i hi
      rw [cellsSTEP] at h1
      obtain ⟨_, hlen, hcell⟩ := World.cells?_some h1
      obtain ⟨z, rfl, hz⟩ := step_cells h2
      refine ⟨z, hz, fun j v hv => ?_⟩
      have hj : j < 8 := (List.getElem?_eq_some_iff.1 hv).1
      rw [hcell j hj, hv])
    refine ⟨(List.range n).map Z, ⟨by simp, fun h0 => ?_⟩, fun z hz => ?_, .inr ⟨_, _, rfl, by simp⟩⟩
    · have hc0 := (hZ 0 (by omega)).2 0 _ rfl
      obtain ⟨b, off, spot⟩ := a'
      have hspot : spot = none := by simpa [Addr.add] using World.cell?_spot hc0
      subst hspot
      refine ⟨b, off, rfl, hlt (.cell b off) (by
        rw [List.mem_append]
        refine .inl (MemPlace.mem_row.2 ⟨0, ?_, by simp⟩)
        rw [cellsSTEP]
        omega), fun j x hx i v hv => ?_⟩
      have hj : j < n := by
        have := (List.getElem?_eq_some_iff.1 hx).1
        simpa using this
      simp only [List.getElem?_map, List.getElem?_range hj, Option.map_some, Option.some.injEq] at hx
      subst hx
      have := (hZ j (by omega)).2 i v hv
      rw [Addr.add_mid, Addr.add_mid] at this
      exact this
    · simp only [List.mem_map, List.mem_range] at hz
      obtain ⟨i, hi, rfl⟩ := hz
      exact (hZ i (by omega)).1
set_option maxRecDepth 100000 in
theorem step_shut {H : Type} {enc : TypeId × Value → H} {W W' : World} {a : Option Addr} {n cap : Nat} {d : DataW H} {p : List MemPlace}
    (h : DataW.Trod enc Try.prog W 0 (fun _ => true) true 22 (.slice a n cap) d p) (hlt : ∀ x ∈ p, x.block < W.heap.size) (hn : Below W.heap.size W W') :
    DataW.Trod enc Try.prog W' 0 (fun b => decide (b < W.heap.size)) true 22 (.slice a n cap) d p :=
  Below.trod laidOutQ (by kernel_rfl) (of_decide_eq_true (by kernel_rfl)) h hn hlt
end Go.Proofs.Ytnomfkmdckmjeaa
