/-
  THE WALKS OF package elem's Pow.
-/
import Derived.Test.YthabfejpejjenabLimbOne
namespace Go.Proofs.Ythabfejpejjenab.limb
open Go.RowKit
open Go.Proofs.Ythabfejpejjenab.num (P N nB nB_bd mem_getD leB emod_mul)

theorem pow_mod (x : Int) (n : Nat) : (x % P) ^ n % P = x ^ n % P := by
  induction n with
  | zero => rw [Int.pow_zero, Int.pow_zero]
  | succ n ih =>
    rw [Int.pow_succ, Int.pow_succ]
    exact emod_mul _ _ _ _ _ ih (by rw [Int.emod_emod_of_dvd _ (Int.dvd_refl _)])
def twoL (n : Nat) : List Int := [(n : Int) % 4294967296, (n : Int) / 4294967296, 0, 0, 0, 0, 0, 0]
theorem twoL_eq (n : Nat) (h : n < 18446744073709551616) : twoL n = dg 8 (n : Int) := by
  simp only [twoL, dg]
  rw [show (n : Int) / 4294967296 % 4294967296 = (n : Int) / 4294967296 from by omega, show (n : Int) / 4294967296 / 4294967296 = 0 from by omega]
  rfl

set_option maxRecDepth 100000 in
theorem pow1_list (l m r : List Int) (hl : l.length = 8) (hm : m.length = 8) (hr : r.length = 8) (hp : ∀ W, Calls Try.prog 20 #[.agg (ints l), .agg (ints m)] W fun e w' => e = .returned (.agg (ints r)) ∧ Below W.heap.size W w') (B t : Nat) (w : World) (hA : Arr w B t m) :
    Calls Try.prog 19 #[.agg (ints l), .pointer (some ⟨B, 0, none⟩)] w fun e w' => e = .returned (.agg (ints r)) ∧ Below w.heap.size w w' := by
  have hL : Arr ((w.alloc (.cells (ints l) 40)).alloc (.cells (ints zeros) 40)) w.heap.size 40 l := (Arr.new w 40 l).alloc _
  have hZ : Arr ((w.alloc (.cells (ints l) 40)).alloc (.cells (ints zeros) 40)) (w.heap.size + 1) 40 zeros := by
    have h := Arr.new (w.alloc (.cells (ints l) 40)) 40 zeros
    rw [World.size_alloc] at h
    exact h
  have hX : Below w.heap.size w ((w.alloc (.cells (ints l) 40)).alloc (.cells (ints zeros) 40)) := ((Below.refl _ _).alloc (Nat.le_refl _) _).alloc (by simp) _
  have hM : Arr ((w.alloc (.cells (ints l) 40)).alloc (.cells (ints zeros) 40)) B t m := (hA.alloc _).alloc _
  have hzl := hZ.lt
  have sz := hX.size
  go_enter Try.func19, Try.ntmps19
  go_wp2_with (first | (refine wpList_load_arr rfl 40 (.tmp 2) rfl w.heap.size rfl l _ hL Try.underlying40 rfl (by rw [hl]; exact infoNR) ?_) | (refine wpList_load_arr rfl 40 (.tmp 1) rfl B rfl m _ hM Try.underlying40 rfl (by rw [hm]; exact infoNR) ?_) | (go_at_call 20; refine (hp _).mono ?_; rintro e w5 ⟨rfl, hb5⟩) | (refine wpList_store_arr rfl 40 (.tmp 3) (.tmp 6) rfl (w.heap.size + 1) r rfl rfl zeros (hZ.below hb5 hzl) (by rw [hr]; rfl) infoNR ?_; intro W5 hW5))
  exact bodyPost_ret (results_arr Try.results19 _ rfl hW5.arr _ Try.underlying40 rfl (by rw [hr]; exact infoNR)) rfl ⟨rfl, hW5.below _ _ (by omega) (hX.trans (hb5.mono sz))⟩
end Go.Proofs.Ythabfejpejjenab.limb
namespace Go.Proofs.Ythabfejpejjenab.num
open Go.RowKit
open Go.Proofs.Ythabfejpejjenab.limb (ofOne_any one_good one_bad power_any mod_bd enter_of pow_mod twoL twoL_eq pow1_list)
theorem pow_good (a : ByteArray) (n : Nat) (hn : n < 18446744073709551616) (ha : a.size = 32) (w : World) :
    Calls Try.prog 12 #[.string a, .int .u64 n] w fun e w' => e = .returned (.tuple #[.string (text (N a ^ n)), .int .i64 0]) ∧ Below w.heap.size w w' := by
  have hmf : ∀ (fn : Fn) (first cap : Array Value) (w : World), (Instr.makeFunc fn first cap).run Try.prog w = .ok (.func fn first cap) w := fun _ _ _ _ => rfl
  have hl8 : (twoL n).length = 8 := rfl
  have hdc : ∀ W, Calls Try.prog 20 #[.agg (limb.ints (limb.dg 8 (N a % P))), .agg (limb.ints (twoL n))] W fun e w' => e = .returned (.agg (limb.ints (limb.dg 8 (N a ^ n % P)))) ∧ Below W.heap.size W w' := fun W => by
    have h := power_any (N a % P) (mod_bd _).1 (mod_bd _).2 n (Nat.lt_trans hn (by decide)) W
    rw [← twoL_eq n hn, pow_mod] at h
    exact h
  have hN := limb.Arr.new w 40 limb.zeros
  have hX : Below w.heap.size w (w.alloc (.cells (limb.ints limb.zeros) 40)) := (Below.refl _ _).alloc (Nat.le_refl _) _
  have n0 : (0 : Int) ≤ (n : Int) := by omega
  have n1 : (n : Int) < 18446744073709551616 := by omega
  have n2 : 0 ≤ (n : Int) / 4294967296 := by omega
  have n3 : (n : Int) / 4294967296 < 4294967296 := by omega
  have H : Hid (a.size = 32) := ha
  clear ha
  go_enter Try.func12, Try.ntmps12
  go_wp2_with (first | (refine limb.wpList_store_arr rfl 40 (.tmp 6) (.tmp 12) rfl w.heap.size (twoL n) rfl rfl limb.zeros hN rfl limb.infoNR ?_; intro W1 hW1) | (go_at_call 18; refine (ofOne_any _ _ _ _).mono ?_; rintro e w1 ⟨rfl, rfl⟩))
  have hs1 := hW1.size
  rw [World.size_alloc] at hs1
  have h1 := one_good a H.out 19 #[.pointer (some ⟨w.heap.size, 0, none⟩)] (N a ^ n) W1.heap.size (W1.alloc (.cells #[.func (.func 19) #[] #[.pointer (some ⟨w.heap.size, 0, none⟩)]] 42)) (enter_of Try.func19 (by kernel_rfl) rfl) (by simp) (fun W hbW => pow1_list (limb.dg 8 (N a % P)) (twoL n) (limb.dg 8 (N a ^ n % P)) (limb.dg_length _ _) hl8 (limb.dg_length _ _) hdc w.heap.size 40 W ((hW1.arr.alloc _).below hbW (by simp; omega)))
  have hX1 := (hW1.below _ _ (Nat.le_refl _) hX).alloc (show w.heap.size ≤ W1.heap.size by omega) (.cells #[.func (.func 19) #[] #[.pointer (some ⟨w.heap.size, 0, none⟩)]] 42)
  go_wp2_with (go_at_call 31; refine h1.mono ?_; rintro e w2 ⟨rfl, hb2⟩)
  go_ret2
  exact ⟨rfl, hX1.trans (hb2.mono (by simp; omega))⟩
theorem pow_bad (a : ByteArray) (n : Int) (ha : a.size ≠ 32) (w : World) :
    Calls Try.prog 12 #[.string a, .int .u64 n] w fun e w' => e = .returned (.tuple #[.string ⟨#[]⟩, .int .i64 1]) ∧ Below w.heap.size w w' := by
  have hmf : ∀ (fn : Fn) (first cap : Array Value) (w : World), (Instr.makeFunc fn first cap).run Try.prog w = .ok (.func fn first cap) w := fun _ _ _ _ => rfl
  have H : Hid (a.size ≠ 32) := ha
  clear ha
  go_enter Try.func12, Try.ntmps12
  go_wp2_with (first | (go_at_call 18; refine (ofOne_any _ _ _ _).mono ?_; rintro e w1 ⟨rfl, rfl⟩) | (go_at_call 31; refine (one_bad a H.out _ _).mono ?_; rintro e w2 ⟨rfl, rfl⟩))
  go_ret2
  exact ⟨rfl, ((Below.refl _ _).alloc (Nat.le_refl _) _).alloc (by simp) _⟩
end Go.Proofs.Ythabfejpejjenab.num
