/-
  THE WALKS OF package elem's ofTwo, and of the function that it makes.
-/
import Derived.Test.YtdpokjhoedhadaaDoorLimbOne
namespace Go.Proofs.YtdpokjhoedhadaaDoor.limb
open Go.RowKit
open Go.Proofs.YtdpokjhoedhadaaDoor.num (P N nB nB_bd mem_getD leB)

theorem ofTwo_any (g : Fn) (fs cs : Array Value) (w : World) :
    Calls Tryd.prog 61 #[.func g fs cs] w fun e w' => e = .returned (.func (.func 73) #[] #[.pointer (some ⟨w.heap.size, 0, none⟩)]) ∧ w' = w.alloc (.cells #[.func g fs cs] 76) := by
  have hmf : ∀ (fn : Fn) (first cap : Array Value) (w : World), (Instr.makeFunc fn first cap).run Tryd.prog w = .ok (.func fn first cap) w := fun _ _ _ _ => rfl
  go_enter Tryd.func61, Tryd.ntmps61
  go_wp2
  go_ret
  exact ⟨rfl, rfl⟩

theorem two_bad (a b : ByteArray) (h : a.size ≠ 32 ∨ b.size ≠ 32) (p : Value) (w : World) :
    Calls Tryd.prog 73 #[.string a, .string b, p] w fun e w' => e = .returned (.tuple #[.string ⟨#[]⟩, .int .i64 1]) ∧ w' = w := by
  by_cases ha : a.size = 32
  · have t1 : ((a.size : Int) != 32) = false := by rw [bne_eq_false_iff_eq]; omega
    have t2 : ((b.size : Int) != 32) = true := by rw [bne_iff_ne]; omega
    clear h ha
    go_enter Tryd.func73, Tryd.ntmps73
    go_wp2
    go_ret2
    exact ⟨rfl, rfl⟩
  · have t1 : ((a.size : Int) != 32) = true := by rw [bne_iff_ne]; omega
    clear h ha
    go_enter Tryd.func73, Tryd.ntmps73
    go_wp2
    go_ret2
    exact ⟨rfl, rfl⟩

set_option maxRecDepth 100000 in
set_option maxHeartbeats 800000 in
theorem two_good (a b : ByteArray) (ha : a.size = 32) (hb : b.size = 32) (f : FuncId) (caps : Array Value) (v : Int) (B : Nat) (w : World) (he : ∀ (args : Array Value) (W : World), (callFunc f args).run Tryd.prog W = .ok (.enter f args) W) (hc : w.cell? ⟨B, 0, none⟩ = some (.func (.func f) #[] caps))
    (hf : ∀ W, Below w.heap.size w W → Calls Tryd.prog f (#[.agg (ints (dg 8 (N a % P))), .agg (ints (dg 8 (N b % P)))] ++ caps) W fun e w' => e = .returned (.agg (ints (dg 8 (v % P)))) ∧ Below W.heap.size W w') :
    Calls Tryd.prog 73 #[.string a, .string b, .pointer (some ⟨B, 0, none⟩)] w fun e w' => e = .returned (.tuple #[.string (num.text v), .int .i64 0]) ∧ Below w.heap.size w w' := by
  have t1 : ((a.size : Int) != 32) = false := by rw [bne_eq_false_iff_eq]; omega
  have t2 : ((b.size : Int) != 32) = false := by rw [bne_eq_false_iff_eq]; omega
  have f0 := read_any a ha
  have f3 := read_any b hb
  have f1 := text_any v
  obtain ⟨D, hD⟩ : ∃ D, dg 8 (N a % P) = D := ⟨_, rfl⟩
  obtain ⟨D2, hD2⟩ : ∃ D2, dg 8 (N b % P) = D2 := ⟨_, rfl⟩
  obtain ⟨E, hE⟩ : ∃ E, dg 8 (v % P) = E := ⟨_, rfl⟩
  obtain ⟨T, hT⟩ : ∃ T, num.text v = T := ⟨_, rfl⟩
  rw [hD] at f0
  rw [hD2] at f3
  rw [hE, hT] at f1
  rw [hD, hD2, hE] at hf
  rw [hT]
  have hB : B < w.heap.size := by
    rcases Nat.lt_or_ge B w.heap.size with h | h
    · exact h
    · unfold World.cell? at hc; simp [Array.getElem?_eq_none h] at hc
  have hl : ∀ x : Up w, x.1.cell? ⟨B, 0, none⟩ = some (.func (.func f) #[] caps) := fun x => (x.2.cell hB).trans hc
  have F0 : Hid (∀ w, Calls Tryd.prog 57 #[.string a] w fun e w' => e = .returned (.agg (ints D)) ∧ Below w.heap.size w w') := f0
  have F3 : Hid (∀ w, Calls Tryd.prog 57 #[.string b] w fun e w' => e = .returned (.agg (ints D2)) ∧ Below w.heap.size w w') := f3
  have F1 : Hid (∀ w, Calls Tryd.prog 58 #[.agg (ints E)] w fun e w' => e = .returned (.string T) ∧ Below w.heap.size w w') := f1
  have F2 : Hid (∀ x : Up w, Calls Tryd.prog f (#[.agg (ints D), .agg (ints D2)] ++ caps) x.1 fun e w' => e = .returned (.agg (ints E)) ∧ Below x.1.heap.size x.1 w') := fun x => hf x.1 x.2
  clear f0 f1 f3 hf hD hD2 hE hT hc ha hb
  go_enter Tryd.func73, Tryd.ntmps73
  go_wp2_with fail
  have hne := Up.some w
  refine wp_region_up (by kernel_rfl) (by kernel_rfl) ?_
  repeat (go_big_quiet_step (first | with_reducible exact calls_up (F0.out _) | with_reducible exact calls_up (F3.out _) | with_reducible exact calls_up (F1.out _) | with_reducible exact calls_up (F2.out _)))
  refine wpQuiet_nil ?_
  rintro w' ⟨x, rfl⟩
  go_wp2
  go_ret2
  exact ⟨rfl, x.2⟩
end Go.Proofs.YtdpokjhoedhadaaDoor.limb
