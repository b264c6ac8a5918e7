/-
  PolyBits: whatever key, text and number are handed in, the call returns true: of the key's first half just 106 bits count.
-/
import Derived.Test.YtkjjkljpbfjkpaaFrame
import Derived.Test.YtkjjkljpbfjkpaaPolyTag
import Derived.Test.YtkjjkljpbfjkpaaPlainPolyKnown
import Derived.Test.YtkjjkljpbfjkpaaKeepRest
namespace Go.Proofs.Ytkjjkljpbfjkpaa.polyBits
open Go.ChangeShapes Go.WideShapes Go.ChangeAt Go.RowKit
open Go.ChangeMaps (open_string shut_string)
open pol
open Go.Proofs.Ytkjjkljpbfjkpaa.ghs (tb tb_lt tb_tx)

theorem i64_bd {n : Int} (h : (Lit.int .i64 n).wf = true) : -9223372036854775808 ≤ n ∧ n ≤ 9223372036854775807 := by
  simp [Lit.wf] at h
  have h0 : IntKind.i64.min = -9223372036854775808 := rfl
  have h1 : IntKind.i64.max = 9223372036854775807 := rfl
  omega

set_option maxRecDepth 100000 in
set_option maxHeartbeats 1600000 in
theorem walk_any (key s K A K2 Z V : ByteArray) (hks : K.size = 32) (hz : Z.size = 14) (a : Int) (r k x y m : Nat) (hx : (nb K).getD k 0 = x) (hV : V = tx ((nb K).set k y)) (hok : ∀ z ∈ (nb K).set k y, z < 256)
    (hxy : bits .xor .u8 (x : Int) (m : Int) = (y : Int))
    (hrk : (r = 0 ∧ k = 3 ∧ m = 240) ∨ (r = 1 ∧ k = 7 ∧ m = 240) ∨ (r = 2 ∧ k = 11 ∧ m = 240) ∨ (r = 3 ∧ k = 15 ∧ m = 240) ∨ (r = 4 ∧ k = 4 ∧ m = 3) ∨ (r = 5 ∧ k = 8 ∧ m = 3) ∨ (r = 6 ∧ k = 12 ∧ m = 3))
    (S1 : ∀ w, Calls Try.prog 9 #[.string key, .int .i64 32] w fun e w' => e = .returned (.string K) ∧ Below w.heap.size w w')
    (S2 : ∀ w, Calls Try.prog 9 #[.string ⟨#[2]⟩, .int .i64 32] w fun e w' => e = .returned (.string K2) ∧ Below w.heap.size w w')
    (Z1 : ∀ w, Calls Try.prog 10 #[.int .i64 14] w fun e w' => e = .returned (.string Z) ∧ Below w.heap.size w w')
    (G1 : ∀ w, Calls Try.prog 13 #[.int .i64 a, .int .i64 7] w fun e w' => e = .returned (.int .i64 ((r : Nat) : Int)) ∧ w' = w)
    (T1 : ∀ w, Calls Try.prog 7 #[.string K, .string s] w fun e w' => e = .returned (.tuple #[.string A, .int .i64 0]) ∧ Below w.heap.size w w')
    (T2 : ∀ w, Calls Try.prog 7 #[.string V, .string s] w fun e w' => e = .returned (.tuple #[.string A, .int .i64 0]) ∧ Below w.heap.size w w')
    (T3 : ∀ w, Calls Try.prog 7 #[.string K2, .string ⟨#[1]⟩] w fun e w' => e = .returned (.tuple #[.string (⟨#[2, 2]⟩ ++ Z), .int .i64 0]) ∧ Below w.heap.size w w') (w : World) :
    Calls Try.prog 6 #[.string key, .string s, .int .i64 a] w fun e w' => e = .returned (.bool true) ∧ Below w.heap.size w w' := by
  have hX : Below w.heap.size w w := Below.refl _ _
  have hl : (nb K).length = 32 := by rw [nb_length, hks]
  go_enter Try.func6, Try.ntmps6
  go_wp2_with (first
    | (go_at_call 9; (first | (with_reducible refine (S1 _).mono ?_) | (with_reducible refine (S2 _).mono ?_)); rintro e wq ⟨rfl, hq⟩; replace hX := hX.trans (hq.mono hX.size); clear hq)
    | (go_at_call 7; (first | (with_reducible refine (T1 _).mono ?_) | (with_reducible refine (T2 _).mono ?_) | (with_reducible refine (T3 _).mono ?_)); rintro e wq ⟨rfl, hq⟩; replace hX := hX.trans (hq.mono hX.size); clear hq)
    | (go_at_call 13; (with_reducible refine (G1 _).mono ?_); rintro e wq ⟨rfl, rfl⟩))
  obtain ⟨W, cp, hcv, hRW, hbW⟩ := cv.bytes_row K wq
  rw [hks] at hcv hRW
  have hX1 := hX.trans (hbW.mono hX.size)
  have hsz := hX1.size
  have hlt := hRW.lt
  obtain ⟨g, hg⟩ : ∃ g, g = wq.heap.size := ⟨_, rfl⟩
  rw [← hg] at hcv hRW hlt
  have gw : w.heap.size ≤ g := by have := hX.size; omega
  clear hX hbW hg
  rw [hcv, Result.andThen_ok]
  rcases hrk with ⟨rfl, rfl, rfl⟩ | ⟨rfl, rfl, rfl⟩ | ⟨rfl, rfl, rfl⟩ | ⟨rfl, rfl, rfl⟩ | ⟨rfl, rfl, rfl⟩ | ⟨rfl, rfl, rfl⟩ | ⟨rfl, rfl, rfl⟩
  · have hR1 := hRW.alloc (.cells #[.int .i64 3, .int .i64 7, .int .i64 11, .int .i64 15, .int .i64 4, .int .i64 8, .int .i64 12] 3)
    have hg8 := by8_get (nb K) 3 (by omega)
    rw [hx] at hg8
    have hc := hR1.get _ _ hg8
    have hf := (hR1.free 3 (by have := hR1.le; omega)).2
    rw [Nat.zero_add] at hf
    have hxy' : bits .xor .u8 (x : Int) 240 = (y : Int) := hxy
    have hR2 := (hRW.set 3 (.int .u8 (y : Int)) (by rw [by8_length]; omega)).alloc (.cells #[.int .i64 3, .int .i64 7, .int .i64 11, .int .i64 15, .int .i64 4, .int .i64 8, .int .i64 12] 3)
    rw [by8_set] at hR2
    have hcv2 := cv.conv_row hR2 hok
    rw [← hV] at hcv2
    have hX : Below w.heap.size w ((W.setCell ⟨g, 3, none⟩ (.int .u8 (y : Int))).alloc (.cells #[.int .i64 3, .int .i64 7, .int .i64 11, .int .i64 15, .int .i64 4, .int .i64 8, .int .i64 12] 3)) := (hX1.setCell gw _).alloc (by simpa using hsz) _
    clear hR1 hR2 hg8 hxy hok hV hx hRW hX1
    go_wp2_with (first
    | (go_at_call 9; (first | (with_reducible refine (S1 _).mono ?_) | (with_reducible refine (S2 _).mono ?_)); rintro e wq ⟨rfl, hq⟩; replace hX := hX.trans (hq.mono hX.size); clear hq)
    | (go_at_call 10; (with_reducible refine (Z1 _).mono ?_); rintro e wq ⟨rfl, hq⟩; replace hX := hX.trans (hq.mono hX.size); clear hq)
    | (go_at_call 7; (first | (with_reducible refine (T1 _).mono ?_) | (with_reducible refine (T2 _).mono ?_) | (with_reducible refine (T3 _).mono ?_)); rintro e wq ⟨rfl, hq⟩; replace hX := hX.trans (hq.mono hX.size); clear hq)
    | (go_at_call 13; (with_reducible refine (G1 _).mono ?_); rintro e wq ⟨rfl, rfl⟩))
    go_ret
    exact ⟨rfl, hX⟩
  · have hR1 := hRW.alloc (.cells #[.int .i64 3, .int .i64 7, .int .i64 11, .int .i64 15, .int .i64 4, .int .i64 8, .int .i64 12] 3)
    have hg8 := by8_get (nb K) 7 (by omega)
    rw [hx] at hg8
    have hc := hR1.get _ _ hg8
    have hf := (hR1.free 7 (by have := hR1.le; omega)).2
    rw [Nat.zero_add] at hf
    have hxy' : bits .xor .u8 (x : Int) 240 = (y : Int) := hxy
    have hR2 := (hRW.set 7 (.int .u8 (y : Int)) (by rw [by8_length]; omega)).alloc (.cells #[.int .i64 3, .int .i64 7, .int .i64 11, .int .i64 15, .int .i64 4, .int .i64 8, .int .i64 12] 3)
    rw [by8_set] at hR2
    have hcv2 := cv.conv_row hR2 hok
    rw [← hV] at hcv2
    have hX : Below w.heap.size w ((W.setCell ⟨g, 7, none⟩ (.int .u8 (y : Int))).alloc (.cells #[.int .i64 3, .int .i64 7, .int .i64 11, .int .i64 15, .int .i64 4, .int .i64 8, .int .i64 12] 3)) := (hX1.setCell gw _).alloc (by simpa using hsz) _
    clear hR1 hR2 hg8 hxy hok hV hx hRW hX1
    go_wp2_with (first
    | (go_at_call 9; (first | (with_reducible refine (S1 _).mono ?_) | (with_reducible refine (S2 _).mono ?_)); rintro e wq ⟨rfl, hq⟩; replace hX := hX.trans (hq.mono hX.size); clear hq)
    | (go_at_call 10; (with_reducible refine (Z1 _).mono ?_); rintro e wq ⟨rfl, hq⟩; replace hX := hX.trans (hq.mono hX.size); clear hq)
    | (go_at_call 7; (first | (with_reducible refine (T1 _).mono ?_) | (with_reducible refine (T2 _).mono ?_) | (with_reducible refine (T3 _).mono ?_)); rintro e wq ⟨rfl, hq⟩; replace hX := hX.trans (hq.mono hX.size); clear hq)
    | (go_at_call 13; (with_reducible refine (G1 _).mono ?_); rintro e wq ⟨rfl, rfl⟩))
    go_ret
    exact ⟨rfl, hX⟩
  · have hR1 := hRW.alloc (.cells #[.int .i64 3, .int .i64 7, .int .i64 11, .int .i64 15, .int .i64 4, .int .i64 8, .int .i64 12] 3)
    have hg8 := by8_get (nb K) 11 (by omega)
    rw [hx] at hg8
    have hc := hR1.get _ _ hg8
    have hf := (hR1.free 11 (by have := hR1.le; omega)).2
    rw [Nat.zero_add] at hf
    have hxy' : bits .xor .u8 (x : Int) 240 = (y : Int) := hxy
    have hR2 := (hRW.set 11 (.int .u8 (y : Int)) (by rw [by8_length]; omega)).alloc (.cells #[.int .i64 3, .int .i64 7, .int .i64 11, .int .i64 15, .int .i64 4, .int .i64 8, .int .i64 12] 3)
    rw [by8_set] at hR2
    have hcv2 := cv.conv_row hR2 hok
    rw [← hV] at hcv2
    have hX : Below w.heap.size w ((W.setCell ⟨g, 11, none⟩ (.int .u8 (y : Int))).alloc (.cells #[.int .i64 3, .int .i64 7, .int .i64 11, .int .i64 15, .int .i64 4, .int .i64 8, .int .i64 12] 3)) := (hX1.setCell gw _).alloc (by simpa using hsz) _
    clear hR1 hR2 hg8 hxy hok hV hx hRW hX1
    go_wp2_with (first
    | (go_at_call 9; (first | (with_reducible refine (S1 _).mono ?_) | (with_reducible refine (S2 _).mono ?_)); rintro e wq ⟨rfl, hq⟩; replace hX := hX.trans (hq.mono hX.size); clear hq)
    | (go_at_call 10; (with_reducible refine (Z1 _).mono ?_); rintro e wq ⟨rfl, hq⟩; replace hX := hX.trans (hq.mono hX.size); clear hq)
    | (go_at_call 7; (first | (with_reducible refine (T1 _).mono ?_) | (with_reducible refine (T2 _).mono ?_) | (with_reducible refine (T3 _).mono ?_)); rintro e wq ⟨rfl, hq⟩; replace hX := hX.trans (hq.mono hX.size); clear hq)
    | (go_at_call 13; (with_reducible refine (G1 _).mono ?_); rintro e wq ⟨rfl, rfl⟩))
    go_ret
    exact ⟨rfl, hX⟩
  · have hR1 := hRW.alloc (.cells #[.int .i64 3, .int .i64 7, .int .i64 11, .int .i64 15, .int .i64 4, .int .i64 8, .int .i64 12] 3)
    have hg8 := by8_get (nb K) 15 (by omega)
    rw [hx] at hg8
    have hc := hR1.get _ _ hg8
    have hf := (hR1.free 15 (by have := hR1.le; omega)).2
    rw [Nat.zero_add] at hf
    have hxy' : bits .xor .u8 (x : Int) 240 = (y : Int) := hxy
    have hR2 := (hRW.set 15 (.int .u8 (y : Int)) (by rw [by8_length]; omega)).alloc (.cells #[.int .i64 3, .int .i64 7, .int .i64 11, .int .i64 15, .int .i64 4, .int .i64 8, .int .i64 12] 3)
    rw [by8_set] at hR2
    have hcv2 := cv.conv_row hR2 hok
    rw [← hV] at hcv2
    have hX : Below w.heap.size w ((W.setCell ⟨g, 15, none⟩ (.int .u8 (y : Int))).alloc (.cells #[.int .i64 3, .int .i64 7, .int .i64 11, .int .i64 15, .int .i64 4, .int .i64 8, .int .i64 12] 3)) := (hX1.setCell gw _).alloc (by simpa using hsz) _
    clear hR1 hR2 hg8 hxy hok hV hx hRW hX1
    go_wp2_with (first
    | (go_at_call 9; (first | (with_reducible refine (S1 _).mono ?_) | (with_reducible refine (S2 _).mono ?_)); rintro e wq ⟨rfl, hq⟩; replace hX := hX.trans (hq.mono hX.size); clear hq)
    | (go_at_call 10; (with_reducible refine (Z1 _).mono ?_); rintro e wq ⟨rfl, hq⟩; replace hX := hX.trans (hq.mono hX.size); clear hq)
    | (go_at_call 7; (first | (with_reducible refine (T1 _).mono ?_) | (with_reducible refine (T2 _).mono ?_) | (with_reducible refine (T3 _).mono ?_)); rintro e wq ⟨rfl, hq⟩; replace hX := hX.trans (hq.mono hX.size); clear hq)
    | (go_at_call 13; (with_reducible refine (G1 _).mono ?_); rintro e wq ⟨rfl, rfl⟩))
    go_ret
    exact ⟨rfl, hX⟩
  · have hR1 := hRW.alloc (.cells #[.int .i64 3, .int .i64 7, .int .i64 11, .int .i64 15, .int .i64 4, .int .i64 8, .int .i64 12] 3)
    have hg8 := by8_get (nb K) 4 (by omega)
    rw [hx] at hg8
    have hc := hR1.get _ _ hg8
    have hf := (hR1.free 4 (by have := hR1.le; omega)).2
    rw [Nat.zero_add] at hf
    have hxy' : bits .xor .u8 (x : Int) 3 = (y : Int) := hxy
    have hR2 := (hRW.set 4 (.int .u8 (y : Int)) (by rw [by8_length]; omega)).alloc (.cells #[.int .i64 3, .int .i64 7, .int .i64 11, .int .i64 15, .int .i64 4, .int .i64 8, .int .i64 12] 3)
    rw [by8_set] at hR2
    have hcv2 := cv.conv_row hR2 hok
    rw [← hV] at hcv2
    have hX : Below w.heap.size w ((W.setCell ⟨g, 4, none⟩ (.int .u8 (y : Int))).alloc (.cells #[.int .i64 3, .int .i64 7, .int .i64 11, .int .i64 15, .int .i64 4, .int .i64 8, .int .i64 12] 3)) := (hX1.setCell gw _).alloc (by simpa using hsz) _
    clear hR1 hR2 hg8 hxy hok hV hx hRW hX1
    go_wp2_with (first
    | (go_at_call 9; (first | (with_reducible refine (S1 _).mono ?_) | (with_reducible refine (S2 _).mono ?_)); rintro e wq ⟨rfl, hq⟩; replace hX := hX.trans (hq.mono hX.size); clear hq)
    | (go_at_call 10; (with_reducible refine (Z1 _).mono ?_); rintro e wq ⟨rfl, hq⟩; replace hX := hX.trans (hq.mono hX.size); clear hq)
    | (go_at_call 7; (first | (with_reducible refine (T1 _).mono ?_) | (with_reducible refine (T2 _).mono ?_) | (with_reducible refine (T3 _).mono ?_)); rintro e wq ⟨rfl, hq⟩; replace hX := hX.trans (hq.mono hX.size); clear hq)
    | (go_at_call 13; (with_reducible refine (G1 _).mono ?_); rintro e wq ⟨rfl, rfl⟩))
    go_ret
    exact ⟨rfl, hX⟩
  · have hR1 := hRW.alloc (.cells #[.int .i64 3, .int .i64 7, .int .i64 11, .int .i64 15, .int .i64 4, .int .i64 8, .int .i64 12] 3)
    have hg8 := by8_get (nb K) 8 (by omega)
    rw [hx] at hg8
    have hc := hR1.get _ _ hg8
    have hf := (hR1.free 8 (by have := hR1.le; omega)).2
    rw [Nat.zero_add] at hf
    have hxy' : bits .xor .u8 (x : Int) 3 = (y : Int) := hxy
    have hR2 := (hRW.set 8 (.int .u8 (y : Int)) (by rw [by8_length]; omega)).alloc (.cells #[.int .i64 3, .int .i64 7, .int .i64 11, .int .i64 15, .int .i64 4, .int .i64 8, .int .i64 12] 3)
    rw [by8_set] at hR2
    have hcv2 := cv.conv_row hR2 hok
    rw [← hV] at hcv2
    have hX : Below w.heap.size w ((W.setCell ⟨g, 8, none⟩ (.int .u8 (y : Int))).alloc (.cells #[.int .i64 3, .int .i64 7, .int .i64 11, .int .i64 15, .int .i64 4, .int .i64 8, .int .i64 12] 3)) := (hX1.setCell gw _).alloc (by simpa using hsz) _
    clear hR1 hR2 hg8 hxy hok hV hx hRW hX1
    go_wp2_with (first
    | (go_at_call 9; (first | (with_reducible refine (S1 _).mono ?_) | (with_reducible refine (S2 _).mono ?_)); rintro e wq ⟨rfl, hq⟩; replace hX := hX.trans (hq.mono hX.size); clear hq)
    | (go_at_call 10; (with_reducible refine (Z1 _).mono ?_); rintro e wq ⟨rfl, hq⟩; replace hX := hX.trans (hq.mono hX.size); clear hq)
    | (go_at_call 7; (first | (with_reducible refine (T1 _).mono ?_) | (with_reducible refine (T2 _).mono ?_) | (with_reducible refine (T3 _).mono ?_)); rintro e wq ⟨rfl, hq⟩; replace hX := hX.trans (hq.mono hX.size); clear hq)
    | (go_at_call 13; (with_reducible refine (G1 _).mono ?_); rintro e wq ⟨rfl, rfl⟩))
    go_ret
    exact ⟨rfl, hX⟩
  · have hR1 := hRW.alloc (.cells #[.int .i64 3, .int .i64 7, .int .i64 11, .int .i64 15, .int .i64 4, .int .i64 8, .int .i64 12] 3)
    have hg8 := by8_get (nb K) 12 (by omega)
    rw [hx] at hg8
    have hc := hR1.get _ _ hg8
    have hf := (hR1.free 12 (by have := hR1.le; omega)).2
    rw [Nat.zero_add] at hf
    have hxy' : bits .xor .u8 (x : Int) 3 = (y : Int) := hxy
    have hR2 := (hRW.set 12 (.int .u8 (y : Int)) (by rw [by8_length]; omega)).alloc (.cells #[.int .i64 3, .int .i64 7, .int .i64 11, .int .i64 15, .int .i64 4, .int .i64 8, .int .i64 12] 3)
    rw [by8_set] at hR2
    have hcv2 := cv.conv_row hR2 hok
    rw [← hV] at hcv2
    have hX : Below w.heap.size w ((W.setCell ⟨g, 12, none⟩ (.int .u8 (y : Int))).alloc (.cells #[.int .i64 3, .int .i64 7, .int .i64 11, .int .i64 15, .int .i64 4, .int .i64 8, .int .i64 12] 3)) := (hX1.setCell gw _).alloc (by simpa using hsz) _
    clear hR1 hR2 hg8 hxy hok hV hx hRW hX1
    go_wp2_with (first
    | (go_at_call 9; (first | (with_reducible refine (S1 _).mono ?_) | (with_reducible refine (S2 _).mono ?_)); rintro e wq ⟨rfl, hq⟩; replace hX := hX.trans (hq.mono hX.size); clear hq)
    | (go_at_call 10; (with_reducible refine (Z1 _).mono ?_); rintro e wq ⟨rfl, hq⟩; replace hX := hX.trans (hq.mono hX.size); clear hq)
    | (go_at_call 7; (first | (with_reducible refine (T1 _).mono ?_) | (with_reducible refine (T2 _).mono ?_) | (with_reducible refine (T3 _).mono ?_)); rintro e wq ⟨rfl, hq⟩; replace hX := hX.trans (hq.mono hX.size); clear hq)
    | (go_at_call 13; (with_reducible refine (G1 _).mono ?_); rintro e wq ⟨rfl, rfl⟩))
    go_ret
    exact ⟨rfl, hX⟩

theorem walk (key : ByteArray) (hk : key.size ≤ maxLen) (s : ByteArray) (_ : s.size ≤ maxLen) (a : Int) (ha : (Lit.int .i64 a).wf = true) (w : World) :
    Calls Try.prog 6 #[.string key, .string s, .int .i64 a] w fun e w' => e = .returned (.bool true) ∧ Below w.heap.size w w' := by
  have hb := i64_bd ha
  have hK : (sz key 32).size = 32 := sz_size _ _
  have G1 : ∀ W, Calls Try.prog 13 #[.int .i64 a, .int .i64 7] W fun e w' => e = .returned (.int .i64 (((a % 7).toNat : Nat) : Int)) ∧ w' = W := rest_any a 7 (by decide) (by decide) hb
  have hr : (a % 7).toNat < 7 := by omega
  generalize (a % 7).toNat = r at *
  obtain ⟨k, m, hrk⟩ : ∃ k m : Nat, (r = 0 ∧ k = 3 ∧ m = 240) ∨ (r = 1 ∧ k = 7 ∧ m = 240) ∨ (r = 2 ∧ k = 11 ∧ m = 240) ∨ (r = 3 ∧ k = 15 ∧ m = 240) ∨ (r = 4 ∧ k = 4 ∧ m = 3) ∨ (r = 5 ∧ k = 8 ∧ m = 3) ∨ (r = 6 ∧ k = 12 ∧ m = 3) := by
    rcases (by omega : r = 0 ∨ r = 1 ∨ r = 2 ∨ r = 3 ∨ r = 4 ∨ r = 5 ∨ r = 6) with rfl | rfl | rfl | rfl | rfl | rfl | rfl
    · exact ⟨3, 240, by omega⟩
    · exact ⟨7, 240, by omega⟩
    · exact ⟨11, 240, by omega⟩
    · exact ⟨15, 240, by omega⟩
    · exact ⟨4, 3, by omega⟩
    · exact ⟨8, 3, by omega⟩
    · exact ⟨12, 3, by omega⟩
  have hx : (nb (sz key 32)).getD k 0 < 256 := tb_lt (sz key 32) k
  obtain ⟨x, hxe⟩ : ∃ x, (nb (sz key 32)).getD k 0 = x := ⟨_, rfl⟩
  rw [hxe] at hx
  have hy : x ^^^ m < 256 ∧ tr k (x ^^^ m) = tr k x := by
    by_cases c : k % 4 = 3
    · obtain rfl : m = 240 := by omega
      exact tr_240 k x c hx
    · obtain rfl : m = 3 := by omega
      exact tr_3 k x (by omega) (by omega) hx
  have hxy : bits .xor .u8 (x : Int) (m : Int) = ((x ^^^ m : Nat) : Int) := cv.xor8 x m hx (by omega)
  obtain ⟨y, hye⟩ : ∃ y, x ^^^ m = y := ⟨_, rfl⟩
  rw [hye] at hy hxy
  have hl : (nb (sz key 32)).length = 32 := by rw [nb_length, hK]
  have hok : ∀ z ∈ (nb (sz key 32)).set k y, z < 256 := fun z hz => by
    rcases List.mem_or_eq_of_mem_set hz with h1 | h1
    · exact nb_lt _ z h1
    · omega
  have ht := tag_set hl (nb_lt _) k y (by omega) hy.1 (by rw [hxe]; exact hy.2) s
  rw [tx_nb] at ht
  have T2 := Tag_good (tx ((nb (sz key 32)).set k y)) s (by rw [tx_size, List.length_set, hl])
  rw [ht] at T2
  have T3 := Tag_good (sz ⟨#[2]⟩ 32) ⟨#[1]⟩ (sz_size _ _)
  rw [tag_2] at T3
  exact walk_any key s (sz key 32) (tag (sz key 32) s) (sz ⟨#[2]⟩ 32) (noughts 14) _ hK (noughts_size 14) a r k x y m hxe rfl hok hxy hrk
    (fun w => sized_any key 32 hk (by omega) w) (fun w => sized_any _ 32 (by decide) (by omega) w) (fun w => zeros_any 14 (by omega) w) G1 (Tag_good _ s hK) T2 T3 w

/-! ### The row's step -/
set_option maxRecDepth 100000 in
theorem lifted (os : Os) (started : os.Started) (H : Type) (enc : TypeId × Value → H) :
    ReturnsInHanded {} Try.checked os 6 .any (Rows.polyBitsSpec.pre6 enc Try.prog Try.f6 Rows.polyBitsRow.domain false) (Rows.polyBitsSpec.post enc Try.prog Try.f6 false true false false) := by
  refine returnsInHanded_of_change (C := Try.checked) own started (by kernel_rfl) Try.func6
    (ChangeSpec.witness6 (enc := enc) (C := Try.checked) false ⟨#[], #[.string .empty, .string .empty, .int .i64 0], []⟩ 8 (by kernel_rfl) (by kernel_rfl) (by kernel_rfl) (by kernel_rfl)) ?_
  intro W base args ds gs before hval0 hW _ _
  have hval : ∀ (j : Nat) t v, Try.f6.params[j]? = some t → args[j]? = some v → Value.okWide Try.prog W .any base t v := hval0
  have hW' := hW
  obtain ⟨p, q, hA0, hV, rfl, hfz, hnd⟩ := hW
  have hA : DataW.TrodAll enc Try.prog W 0 (fun _ => true) true Try.f6.params.toList args.toList ds p := hA0
  rw [Try.params6] at hA hval
  obtain ⟨v0, vs0, d0, ds0, p0, q0, hargs, rfl, rfl, h0, r0⟩ := trodAll_cons hA
  obtain ⟨v1, vs1, d1, ds1, p1, q1, rfl, rfl, rfl, h1, r1⟩ := trodAll_cons r0
  obtain ⟨v2, vs2, d2, ds2, p2, q2, rfl, rfl, rfl, h2, r2⟩ := trodAll_cons r1
  obtain ⟨rfl, rfl, rfl⟩ := trodAll_nil r2
  obtain rfl : args = #[v0, v1, v2] := by cases args; simp_all
  obtain ⟨rfl, rfl⟩ := trodVars_none hV
  obtain ⟨s0, rfl, rfl, rfl, m0⟩ := open_string Try.underlying9 (hval 0 9 v0 rfl rfl) h0
  obtain ⟨s1, rfl, rfl, rfl, m1⟩ := open_string Try.underlying9 (hval 1 9 v1 rfl rfl) h1
  obtain ⟨s2, rfl, rfl, rfl, m2⟩ := open_int Try.underlying3 (hval 2 3 v2 rfl rfl) h2
  clear hA0 hval0
  simp only [List.append_nil] at hW'
  refine (walk s0 m0 s1 m1 s2 m2 W).mono fun e W' ⟨he, hg⟩ => ?_
  subst he
  exact ⟨_, rfl, _, _, _, [], [], [], hW', trodAll_cons_mk (shut_bool Try.underlying4 _) trodAll_mk0, (trodAll_cons_mk (shut_string Try.underlying9 m0) (trodAll_cons_mk (shut_string Try.underlying9 m1) (trodAll_cons_mk (shut_int Try.underlying3 m2) trodAll_mk0))), rfl, hg.frame _, fun h => by cases h⟩

/-- THE STATEMENT. -/
theorem proved : Rows.PolyBitsSaid :=
  OpenClaim.holds_of_wide 6 Try.f6 rfl rfl rfl rfl rfl rfl rfl ⟨rfl, rfl, rfl, rfl, rfl⟩ rfl rfl rfl rfl rfl (by kernel_rfl) Try.func6 (by kernel_rfl)
    (of_decide_eq_true (by kernel_rfl)) (by unfold Func.isWrapper; first | (rw [if_pos (by decide +kernel)]; kernel_rfl) | (rw [if_neg (by decide +kernel)]; exact ⟨rfl, rfl⟩))
    (fun os started H enc _ => lifted os started H enc)
end Go.Proofs.Ytkjjkljpbfjkpaa.polyBits
