/-
  THE WALKS OF package bucket: what is kept (a map and a time); New, Left; who goes; the ticks that pass.
-/
import Derived.Test.YtnomfkmdckmjeaaPlainBucket
import Derived.Test.YtnomfkmdckmjeaaRangeStore
import Derived.Test.YtnomfkmdckmjeaaChg
import Derived.Test.YtnomfkmdckmjeaaTail
import Derived.Maps.OwnSet
import Derived.Maps.Ext
import Derived.Carry
namespace Go.Proofs.Ytnomfkmdckmjeaa.bkt
open Go.RowKit Go.Maps
open Go.Proofs.Ytnomfkmdckmjeaa.soft

theorem keyed : Keyed Try.prog 30 := int_keyed Try.underlying30
theorem zeroINT (w : World) : (zeroValue 3).run Try.prog w = .ok (.int .i64 0) w := by kernel_rfl
theorem wfU {x : Nat} (h : x < 4294967296) : (Lit.int .u32 (x : Int)).wf = true := by
  have h0 : IntKind.u32.min = 0 := rfl
  have h1 : IntKind.u32.max = 4294967295 := rfl
  simp [Lit.wf]
  omega
theorem wfI {x : Int} (h0 : -9223372036854775808 ≤ x) (h1 : x ≤ 9223372036854775807) : (Lit.int .i64 x).wf = true := by
  have h2 : IntKind.i64.min = -9223372036854775808 := rfl
  have h3 : IntKind.i64.max = 9223372036854775807 := rfl
  simp [Lit.wf]
  omega
theorem key_of {x : Nat} (h : x < 4294967296) : keyOf Try.prog 30 (.int .u32 (x : Int)) = some (kU x) := keyOf_int_mk Try.underlying30 (wfU h)
/-- Block m is a map that says L. -/
def Map (w : World) (m : Nat) (L : List Ent) : Prop := ∃ D : DataW Unit, w.ownsMap Try.prog 30 (plainElem Try.prog 3) m L.length D ∧ Says D L
theorem own_size {w : World} {m n : Nat} {D : DataW Unit} (h : w.ownsMap Try.prog 30 (plainElem Try.prog 3) m n D) : w.ownsMap Try.prog 30 (plainElem Try.prog 3) m (Maps.size D) D := by
  obtain ⟨es, clock, hb, F, hs, rfl⟩ := h
  refine ⟨es, clock, hb, F, ?_, rfl⟩
  simp [Maps.size, length_sorted]
theorem Map.of {w : World} {m n : Nat} {D : DataW Unit} {L : List Ent} (h : w.ownsMap Try.prog 30 (plainElem Try.prog 3) m n D) (hs : Says D L) : Map w m L := ⟨D, by rw [← hs.size]; exact own_size h, hs⟩
theorem Map.lt {w : World} {m : Nat} {L : List Ent} (h : Map w m L) : m < w.heap.size := by obtain ⟨D, ho, _⟩ := h; exact ho.lt
theorem Map.kept {w w' : World} {m : Nat} {L : List Ent} {row : Option Nat} (h : Map w m L) (hg : w.grownBy w' row) (hne : some m ≠ row) : Map w' m L := by obtain ⟨D, ho, hs⟩ := h; exact ⟨D, ho.kept hg hne, hs⟩
theorem Map.chg {w w' : World} {m : Nat} {L : List Ent} {F : Nat → Prop} (h : Map w m L) (hg : Chg F w w') (hne : ¬ F m) : Map w' m L := by obtain ⟨D, ho, hs⟩ := h; exact ⟨D, hg.map ho hne, hs⟩
theorem Map.below {w w' : World} {m : Nat} {L : List Ent} (h : Map w m L) (hb : Below w.heap.size w w') : Map w' m L := h.chg (F := fun _ => False) (Chg.below hb) id
theorem Map.find {w : World} {m : Nat} {L : List Ent} (h : Map w m L) (hn : (L.map (·.1)).Nodup) {x : Nat} (hx : x < 4294967296) :
    (Instr.lookup 44 (.map (some m)) (.int .u32 (x : Int)) true).run Try.prog w = .ok (.tuple #[.int .i64 (((look L x).getD 0 : Nat) : Int), .bool (look L x).isSome]) w := by
  obtain ⟨D, ho, hs⟩ := h
  obtain ⟨v, ps, hrun, hv⟩ := ho.look_ok keyed Try.underlying44 (zeroINT w) (plainElem_int Try.underlying3 (q := .i64) (a := 0) (by decide)) (key_of hx)
  rw [hs.has hn] at hrun
  rw [hs.at hn] at hv
  obtain ⟨a, rfl, hy, _⟩ := plainElem_int_inv Try.underlying3 hv
  have h1 := congrArg Prod.fst hy
  simp only [] at h1
  injection h1 with h1
  injection h1 with _ h1
  rw [hrun, h1]
theorem Map.find1 {w : World} {m : Nat} {L : List Ent} (h : Map w m L) (hn : (L.map (·.1)).Nodup) {x : Nat} (hx : x < 4294967296) :
    (Instr.lookup 44 (.map (some m)) (.int .u32 (x : Int)) false).run Try.prog w = .ok (.int .i64 (((look L x).getD 0 : Nat) : Int)) w := by
  obtain ⟨D, ho, hs⟩ := h
  obtain ⟨v, ps, hrun, hv⟩ := ho.lookup keyed Try.underlying44 (zeroINT w) (plainElem_int Try.underlying3 (q := .i64) (a := 0) (by decide)) (key_of hx)
  rw [hs.at hn] at hv
  obtain ⟨a, rfl, hy, _⟩ := plainElem_int_inv Try.underlying3 hv
  have h1 := congrArg Prod.fst hy
  simp only [] at h1
  injection h1 with h1
  injection h1 with _ h1
  rw [hrun, h1]
theorem Map.len {w : World} {m : Nat} {L : List Ent} (h : Map w m L) (ty : TypeId) : (Builtin.len_ #[44] ty #[.map (some m)]).run Try.prog w = .ok (.int .i64 (L.length : Int)) w := by
  obtain ⟨D, ho, hs⟩ := h
  have := ho.len Try.underlying44 ty
  rwa [hs.size] at this
/-- A bucket: its block b, its map's block m. -/
structure Bm (w : World) (b m : Nat) (S : St) : Prop where
  blk : Blk w b 46 [.map (some m), .int .i64 (S.t : Int)]
  map : Map w m S.l
  ne : b ≠ m
theorem Bm.chg {w w' : World} {b m : Nat} {S : St} {F : Nat → Prop} (h : Bm w b m S) (hg : Chg F w w') (hb : ¬ F b) (hm : ¬ F m) : Bm w' b m S := ⟨hg.blk h.blk hb, h.map.chg hg hm, h.ne⟩
theorem Bm.below {w w' : World} {b m : Nat} {S : St} (h : Bm w b m S) (hb : Below w.heap.size w w') : Bm w' b m S := h.chg (F := fun _ => False) (Chg.below hb) id id
theorem New_any (w : World) :
    Calls Try.prog 7 #[] w fun e w' => e = .returned (.pointer (some ⟨w.heap.size + 1, 0, none⟩)) ∧ Bm w' (w.heap.size + 1) w.heap.size ⟨0, []⟩ ∧ Below w.heap.size w w' := by
  have hmm := @run_makeMap Try.prog
  go_enter Try.func7, Try.ntmps7
  go_wp2
  go_ret
  refine ⟨rfl, ⟨?_, Map.of ((World.ownsMap_made w _ _ _).alloc _) Says.nil, by omega⟩, ((Below.refl _ _).alloc (Nat.le_refl _) _).alloc (by simp) _⟩
  have := Blk.new (w.alloc (.map #[] 0)) 46 [.map (some w.heap.size), .int .i64 0] _ rfl
  rw [World.size_alloc] at this
  exact this
theorem Left_any (b m : Nat) (S : St) (hk : (S.l.map (·.1)).Nodup) (x : Nat) (hx : x < 4294967296) (w : World) (hB : Bm w b m S) :
    Calls Try.prog 10 #[.pointer (some ⟨b, 0, none⟩), .int .u32 (x : Int)] w fun e w' => e = .returned (.int .i64 (left S.l x : Int)) ∧ w' = w := by
  have c0 := hB.blk.cell 0 _ rfl
  have hl := hB.map.find hk hx
  unfold left
  cases hc : look S.l x with
  | none =>
    rw [hc] at hl
    simp only [Option.getD_none, Option.isSome_none] at hl
    clear hc
    go_enter Try.func10, Try.ntmps10
    go_wp2
    go_ret
    exact ⟨rfl, rfl⟩
  | some v =>
    rw [hc] at hl
    simp only [Option.getD_some, Option.isSome_some] at hl
    clear hc
    go_enter Try.func10, Try.ntmps10
    go_wp2
    go_ret
    exact ⟨rfl, rfl⟩
/-! ### who goes -/
theorem goes_any (k : Value) (v t : Int) (bx : Nat) (W : World) (hx : W.cell? ⟨bx, 0, none⟩ = some (.int .i64 t)) :
    Calls Try.prog 16 (#[k, .int .i64 v] ++ #[.pointer (some ⟨bx, 0, none⟩)]) W fun e w' => e = .returned (.bool (decide (wrap64 (v + t) ≥ 5))) ∧ w' = W := by
  go_enter Try.func16, Try.ntmps16
  go_wp2
  go_ret
  exact ⟨rfl, rfl⟩
end Go.Proofs.Ytnomfkmdckmjeaa.bkt
