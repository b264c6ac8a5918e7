/-
  THE WALKS OF package elem's ofOne, and of the function that it makes.
-/
import Derived.Test.YtdpokjhoedhadaaDoorLimbText
import Derived.Test.YtdpokjhoedhadaaDoorUp
namespace Go.Proofs.YtdpokjhoedhadaaDoor.limb
open Go.RowKit
open Go.Proofs.YtdpokjhoedhadaaDoor.num (P N nB nB_bd mem_getD leB)

/-- A function with a body is entered. -/
theorem enter_of {f : FuncId} {fn : Func} {c : Code} (hf : Tryd.prog.funcs[f]? = some fn) (hn : (fn.name == "runtime.NumGoroutine") = false) (hb : fn.body = some c) (args : Array Value) (w : World) :
    (callFunc f args).run Tryd.prog w = .ok (.enter f args) w := by
  have h1 : fn.name ≠ "runtime.NumGoroutine" := by simpa using hn
  simp [callFunc, hf, h1, hb]

theorem ofOne_any (g : Fn) (fs cs : Array Value) (w : World) :
    Calls Tryd.prog 41 #[.func g fs cs] w fun e w' => e = .returned (.func (.func 56) #[] #[.pointer (some ⟨w.heap.size, 0, none⟩)]) ∧ w' = w.alloc (.cells #[.func g fs cs] 60) := by
  have hmf : ∀ (fn : Fn) (first cap : Array Value) (w : World), (Instr.makeFunc fn first cap).run Tryd.prog w = .ok (.func fn first cap) w := fun _ _ _ _ => rfl
  go_enter Tryd.func41, Tryd.ntmps41
  go_wp2
  go_ret
  exact ⟨rfl, rfl⟩

theorem one_bad (a : ByteArray) (ha : a.size ≠ 32) (p : Value) (w : World) :
    Calls Tryd.prog 56 #[.string a, p] w fun e w' => e = .returned (.tuple #[.string ⟨#[]⟩, .int .i64 1]) ∧ w' = w := by
  have t1 : ((a.size : Int) != 32) = true := by rw [bne_iff_ne]; omega
  clear ha
  go_enter Tryd.func56, Tryd.ntmps56
  go_wp2
  go_ret2
  exact ⟨rfl, rfl⟩

set_option maxRecDepth 100000 in
set_option maxHeartbeats 800000 in
theorem one_good (a : ByteArray) (ha : a.size = 32) (f : FuncId) (caps : Array Value) (v : Int) (B : Nat) (w : World) (he : ∀ (args : Array Value) (W : World), (callFunc f args).run Tryd.prog W = .ok (.enter f args) W) (hc : w.cell? ⟨B, 0, none⟩ = some (.func (.func f) #[] caps))
    (hf : ∀ W, Below w.heap.size w W → Calls Tryd.prog f (#[.agg (ints (dg 8 (N a % P)))] ++ caps) W fun e w' => e = .returned (.agg (ints (dg 8 (v % P)))) ∧ Below W.heap.size W w') :
    Calls Tryd.prog 56 #[.string a, .pointer (some ⟨B, 0, none⟩)] w fun e w' => e = .returned (.tuple #[.string (num.text v), .int .i64 0]) ∧ Below w.heap.size w w' := by
  have t1 : ((a.size : Int) != 32) = false := by rw [bne_eq_false_iff_eq]; omega
  have f0 := read_any a ha
  have f1 := text_any v
  obtain ⟨D, hD⟩ : ∃ D, dg 8 (N a % P) = D := ⟨_, rfl⟩
  obtain ⟨E, hE⟩ : ∃ E, dg 8 (v % P) = E := ⟨_, rfl⟩
  obtain ⟨T, hT⟩ : ∃ T, num.text v = T := ⟨_, rfl⟩
  rw [hD] at f0
  rw [hE, hT] at f1
  rw [hD, hE] at hf
  rw [hT]
  have hB : B < w.heap.size := by
    rcases Nat.lt_or_ge B w.heap.size with h | h
    · exact h
    · unfold World.cell? at hc; simp [Array.getElem?_eq_none h] at hc
  have hl : ∀ x : Up w, x.1.cell? ⟨B, 0, none⟩ = some (.func (.func f) #[] caps) := fun x => (x.2.cell hB).trans hc
  have F0 : Hid (∀ w, Calls Tryd.prog 57 #[.string a] w fun e w' => e = .returned (.agg (ints D)) ∧ Below w.heap.size w w') := f0
  have F1 : Hid (∀ w, Calls Tryd.prog 58 #[.agg (ints E)] w fun e w' => e = .returned (.string T) ∧ Below w.heap.size w w') := f1
  have F2 : Hid (∀ x : Up w, Calls Tryd.prog f (#[.agg (ints D)] ++ caps) x.1 fun e w' => e = .returned (.agg (ints E)) ∧ Below x.1.heap.size x.1 w') := fun x => hf x.1 x.2
  clear f0 f1 hf hD hE hT hc ha
  go_enter Tryd.func56, Tryd.ntmps56
  go_wp2_with fail
  have hne := Up.some w
  refine wp_region_up (by kernel_rfl) (by kernel_rfl) ?_
  repeat (go_big_quiet_step (first | with_reducible exact calls_up (F0.out _) | with_reducible exact calls_up (F1.out _) | with_reducible exact calls_up (F2.out _)))
  refine wpQuiet_nil ?_
  rintro w' ⟨x, rfl⟩
  go_wp2
  go_ret2
  exact ⟨rfl, x.2⟩
end Go.Proofs.YtdpokjhoedhadaaDoor.limb
