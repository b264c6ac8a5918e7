/-
  THE WALKS OF package kdf's face: meant, Sum, Mac, Derive, for suites 1 and 2.
-/
import Derived.Test.YtmkhojaddedpfaaDoorKdfList
import Derived.Test.YtmkhojaddedpfaaDoorBundle3
import Derived.Test.YtmkhojaddedpfaaDoorBlakeSum
import Derived.Test.YtmkhojaddedpfaaDoorShaFace
namespace Go.Proofs.YtmkhojaddedpfaaDoor.kdf
open Go.RowKit

theorem enter_of {f : FuncId} {fn : Func} {c : Code} (hf : Tryd.prog.funcs[f]? = some fn) (hn : (fn.name == "runtime.NumGoroutine") = false) (hb : fn.body = some c) (args : Array Value) (w : World) :
    (callFunc f args).run Tryd.prog w = .ok (.enter f args) w := by
  have h1 : fn.name ≠ "runtime.NumGoroutine" := by simpa using hn
  simp [callFunc, hf, h1, hb]
/-- The function that suite 1 or 2 means. -/
def fid : Nat → FuncId
  | 0 => 20
  | _ + 1 => 22
theorem goes : ∀ r, Goes (fid r)
  | 0 => enter_of Tryd.func20 (by kernel_rfl) rfl
  | _ + 1 => enter_of Tryd.func22 (by kernel_rfl) rfl
theorem m1_any (s : ByteArray) (hs : s.size < 576460752303423488) (w : World) (hT : Tab w) :
    Calls Tryd.prog 20 #[.string s] w fun e w' => e = .returned (.string (dg 0 s)) ∧ Below w.heap.size w w' := by
  have f1 : Calls Tryd.prog 21 #[.string ⟨#[]⟩, .string s, .int .i64 32] w fun e w' => e = .returned (.tuple #[.string (dg 0 s), .int .i64 0]) ∧ Below w.heap.size w w' :=
    bla.Sum_good ⟨#[]⟩ s 32 (by decide) (by decide) (by decide) (by omega) w hT.bla
  generalize dg 0 s = D at *
  go_enter Tryd.func20, Tryd.ntmps20
  go_wp2_with (go_at_call 21; (with_reducible refine f1.mono ?_); rintro e w1 ⟨rfl, hb1⟩)
  go_ret
  exact ⟨rfl, hb1⟩
theorem does {w : World} (hT : Tab w) : ∀ r, Does (fid r) (dg r) w
  | 0 => fun s W hs hW => m1_any s hs W (hT.grown hW)
  | _ + 1 => fun s W hs hW => sha.Sum_any s hs W (hT.grown hW).sha
theorem meant_1 (w : World) : Calls Tryd.prog 14 #[.int .i64 1] w fun e w' => e = .returned (.tuple #[.func (.func 20) #[] #[], .int .i64 0]) ∧ w' = w := by
  go_enter Tryd.func14, Tryd.ntmps14
  go_wp2_with fail
  go_ret2
  exact ⟨rfl, rfl⟩
theorem meant_2 (w : World) : Calls Tryd.prog 14 #[.int .i64 2] w fun e w' => e = .returned (.tuple #[.func (.func 22) #[] #[], .int .i64 0]) ∧ w' = w := by
  go_enter Tryd.func14, Tryd.ntmps14
  go_wp2_with fail
  go_ret2
  exact ⟨rfl, rfl⟩
theorem meant_any : ∀ (r : Nat), r < 2 → ∀ w, Calls Tryd.prog 14 #[.int .i64 ((r + 1 : Nat) : Int)] w fun e w' => e = .returned (.tuple #[.func (.func (fid r)) #[] #[], .int .i64 0]) ∧ w' = w
  | 0, _ => meant_1
  | 1, _ => meant_2
  | r + 2, h => absurd h (by omega)

set_option maxHeartbeats 800000 in
theorem Derive_any (r : Nat) (hr : r < 2) (key s : ByteArray) (hk : key.size < 576460752303423488) (hs : s.size < 500000000000000000) (n : Nat) (h1 : 1 ≤ n) (h3 : n ≤ 3) (w : World) (hT : Tab w) :
    Calls Tryd.prog 6 #[.int .i64 ((r + 1 : Nat) : Int), .string key, .string s, .int .i64 (n : Nat)] w fun e w' =>
      (∃ b, e = .returned (.tuple #[.slice (some ⟨b, 0, none⟩) n n, .int .i64 0]) ∧ w.heap.size ≤ b ∧ Keys (dg r) (macT (dg r) key s) n b w') ∧ Below w.heap.size w w' := by
  have f1 := meant_any r hr
  have f2 := mac_any (fid r) (dg r) (goes r) (dg_size r) key s hk hs w (does hT r)
  have hp : (macT (dg r) key s).size = 32 := macT_size (dg_size r) _ _
  have f3 : ∀ W, Below w.heap.size w W → _ := fun W h => keys_any (fid r) (dg r) (goes r) (dg_size r) (macT (dg r) key s) (by omega) n h3 W (does (hT.grown h) r)
  generalize macT (dg r) key s = P at *
  generalize fid r = F at *
  generalize dg r = D at *
  generalize ((r + 1 : Nat) : Int) = z at *
  have d1 : decide ((n : Int) < 1) = false := by simp; omega
  have d2 : decide ((n : Int) > 3) = false := by simp; omega
  have d2' : decide ((3 : Int) < (n : Int)) = false := by simp; omega
  have c1 : ¬ (n : Int) < 1 := by omega
  have c2 : ¬ (3 : Int) < (n : Int) := by omega
  go_enter Tryd.func6, Tryd.ntmps6
  go_wp2_with (first
    | (go_at_call 14; (with_reducible refine (f1 _).mono ?_); rintro e w1 ⟨rfl, rfl⟩)
    | (go_at_call 16; (with_reducible refine f2.mono ?_); rintro e w2 ⟨rfl, hb2⟩)
    | (go_at_call 15; (with_reducible refine (f3 _ hb2).mono ?_); rintro e w3 ⟨⟨b, rfl, hb, hK⟩, hb3⟩))
  go_ret2
  exact ⟨⟨b, rfl, by have := hb2.size; omega, hK⟩, hb2.trans (hb3.mono hb2.size)⟩
end Go.Proofs.YtmkhojaddedpfaaDoor.kdf
