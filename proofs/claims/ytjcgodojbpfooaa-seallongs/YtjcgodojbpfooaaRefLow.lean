/-
  THE WALKS OF the document's own low, of (of four bytes) and xor.
-/
import Derived.Test.YtjcgodojbpfooaaPlainChacha
import Derived.Test.YtjcgodojbpfooaaBundle2
import Derived.Test.YtjcgodojbpfooaaUp
import Derived.Test.YtjcgodojbpfooaaConv
namespace Go.Proofs.Ytjcgodojbpfooaa.cha
open Go.RowKit
open Go.Proofs.Ytjcgodojbpfooaa.ghs (bt_nb tb tb_lt mkl mkl_length mkl_get mkl_succ)

theorem chr8 (z : Nat) (h : z < 256) (w : World) : Calls Try.prog 47 #[.int .i64 (z : Int)] w fun e w' => e = .returned (.string (tx [z])) ∧ Below w.heap.size w w' := by
  have := num.chr_any (z : Int) (by omega) (by omega) w
  rw [Int.toNat_natCast] at this
  exact this
/-- A number in m bytes, the lowest first. -/
def lows (n : Nat) : Nat → List Nat
  | 0 => []
  | m + 1 => n % 256 :: lows (n / 256) m
theorem lows_length (n : Nat) : ∀ m, (lows n m).length = m := by
  intro m
  induction m generalizing n with
  | zero => rfl
  | succ m ih => rw [lows, List.length_cons, ih]
theorem lows_4 (n : Nat) : lows n 4 = b4 n := by
  show [n % 256, n / 256 % 256, n / 256 / 256 % 256, n / 256 / 256 / 256 % 256] = b4 n
  rw [Nat.div_div_eq_div_mul, Nat.div_div_eq_div_mul]
  rfl
theorem tx_nil : tx [] = ⟨#[]⟩ := rfl
set_option maxHeartbeats 800000 in
theorem low_any (m : Nat) (hm : m ≤ 8) (n : Nat) (hn : n < 18446744073709551616) (w : World) :
    Calls Try.prog 43 #[.int .u64 n, .int .i64 m] w fun e w' => e = .returned (.string (tx (lows n m))) ∧ Below w.heap.size w w' := by
  induction m generalizing n w with
  | zero =>
    go_enter Try.func43, Try.ntmps43
    go_wp2_with fail
    go_ret
    exact ⟨rfl, Below.refl _ _⟩
  | succ m ih =>
    have d0 : ((((m + 1 : Nat) : Int)) == 0) = false := by rw [beq_eq_false_iff_ne]; omega
    obtain ⟨M, hM⟩ : ∃ M, M = m + 1 := ⟨_, rfl⟩
    have f2 := ih (by omega) (n / 256) (by omega)
    obtain ⟨q, hq⟩ : ∃ q, q = n / 256 := ⟨_, rfl⟩
    obtain ⟨r, hr⟩ : ∃ r, r = n % 256 := ⟨_, rfl⟩
    have f1 := chr8 r (by omega)
    have HT : Hid (tx (lows n (m + 1)) = tx [r] ++ tx (lows q m)) := by
      show _ = _
      rw [← tx_app, hr, hq]
      rfl
    rw [← hq] at f2
    have e1 : (n : Int) / 256 = (q : Int) := by omega
    have e2 : (n : Int) % 256 = (r : Int) := by omega
    have s1 : (tx [r]).size = 1 := tx_size _
    have s2 : (tx (lows q m)).size = m := by rw [tx_size, lows_length]
    rw [HT.out]
    generalize tx [r] = T1 at *
    generalize tx (lows q m) = T2 at *
    rw [← hM] at d0 ⊢
    have e3 : (M : Int) - 1 = (m : Int) := by omega
    have rb : r < 256 := by omega
    clear hq hr hM ih HT
    go_enter Try.func43, Try.ntmps43
    go_wp2_with (first
      | (go_at_call 47; (with_reducible refine (f1 _).mono ?_); rintro e w1 ⟨rfl, hb1⟩)
      | (go_at_call 43; (with_reducible refine (f2 _).mono ?_); rintro e w2 ⟨rfl, hb2⟩))
    go_ret
    exact ⟨rfl, hb1.trans (hb2.mono hb1.size)⟩
theorem low4 (n : Nat) (hn : n < 18446744073709551616) (w : World) :
    Calls Try.prog 43 #[.int .u64 n, .int .i64 4] w fun e w' => e = .returned (.string (told [n])) ∧ Below w.heap.size w w' := by
  have := low_any 4 (by decide) n hn w
  rw [lows_4] at this
  exact this

/-- The last m of four bytes. -/
def hv (f : Nat → Nat) : Nat → Nat
  | 0 => 0
  | m + 1 => 256 * hv f m + f (3 - m)
theorem hv_4 (f : Nat → Nat) : hv f 4 = num f 0 := by
  show 256 * (256 * (256 * (256 * 0 + f 3) + f 2) + f 1) + f 0 = f 0 + 256 * f 1 + 65536 * f 2 + 16777216 * f 3
  omega
theorem hv_lt {f : Nat → Nat} (h : ∀ j, f j < 256) (m : Nat) (hm : m ≤ 4) : hv f m < 4294967296 := by
  have h0 := h 0
  have h1 := h 1
  have h2 := h 2
  have h3 := h 3
  have : m = 0 ∨ m = 1 ∨ m = 2 ∨ m = 3 ∨ m = 4 := by omega
  rcases this with rfl | rfl | rfl | rfl | rfl <;> simp only [hv, Nat.sub_zero, Nat.reduceSub] <;> omega
set_option maxHeartbeats 800000 in
theorem of4 (s : ByteArray) (hs : s.size = 4) (w : World) :
    Calls Try.prog 60 #[.string s] w fun e w' => e = .returned (.int .u64 (num (tb s) 0 : Nat)) ∧ Below w.heap.size w w' := by
  have hz : (s.size : Int) = 4 := by omega
  have hgb := PlainAid.get_bt s
  go_enter Try.func60, Try.ntmps60
  go_wp2_with fail
  go_loopw [3, 4] (fun n i wr => ∃ m : Nat, m ≤ 4 ∧ i = .int .i64 (3 - (m : Int)) ∧ n = .int .u64 (hv (tb s) m : Nat) ∧ Below w.heap.size w wr) (fun _ i _ => (intOf i + 1).toNat)
  case atStart => exact ⟨0, by omega, rfl, rfl, Below.refl _ _⟩
  case round =>
    obtain ⟨m, hm, rfl, rfl, hnx⟩ := hrel
    by_cases hlt : m < 4
    · obtain ⟨k, hk⟩ : ∃ k, k = 3 - m := ⟨_, rfl⟩
      have e0 : 3 - (m : Int) = (k : Int) := by omega
      have d0 : decide ((k : Int) ≥ 0) = true := by simp
      have e1 := bt_nb s k (by omega)
      have l1 := tb_lt s k
      have l2 := hv_lt (tb_lt s) m hm
      have HU : Hid (hv (tb s) (m + 1) = 256 * hv (tb s) m + tb s k) := by rw [hk]; rfl
      generalize tb s k = x at *
      generalize hv (tb s) m = y at *
      obtain ⟨z, hz2⟩ : ∃ z, z = 256 * y := ⟨_, rfl⟩
      have e2 : (256 * (y : Int)) = (z : Int) := by omega
      have i1 : k < s.size := by omega
      have j1 : (k : Int) < 4 := by omega
      have lz : (z : Int) + (x : Int) < 18446744073709551616 := by omega
      have HK : Hid (k = 3 - m ∧ m < 4) := ⟨hk, hlt⟩
      have HZ : Hid (z = 256 * y) := hz2
      rw [e0]
      clear hk hz2 e0 hlt hm
      go_wp2_with fail
      go_roundw
      case rel => exact ⟨m + 1, by have := HK.out; omega, by have := HK.out; congr 1; omega, by rw [HU.out, ← HZ.out]; rfl, hnx⟩
      case measure => simp [intOf]
    · obtain rfl : m = 4 := by omega
      have d0 : decide ((-1 : Int) ≥ 0) = false := by decide
      have e0 : 3 - ((4 : Nat) : Int) = -1 := by decide
      rw [hv_4, e0]
      go_wp2_with fail
      go_ret
      exact ⟨rfl, hnx⟩

set_option maxRecDepth 100000 in
set_option maxHeartbeats 800000 in
theorem rxor_any (a b : ByteArray) (n : Nat) (ha : a.size = n) (hb : n ≤ b.size) (hn : n ≤ 1000000) (w : World) :
    Calls Try.prog 40 #[.string a, .string b] w fun e w' => e = .returned (.string (tx (mkl n fun j => tb a j ^^^ tb b j))) ∧ Below w.heap.size w w' := by
  have hga := PlainAid.get_bt a
  have hgb := PlainAid.get_bt b
  have za : (a.size : Int) = (n : Int) := by omega
  obtain ⟨F, HF⟩ : ∃ F : Nat → Nat, Hid (F = fun j => tb a j ^^^ tb b j) := ⟨_, rfl⟩
  rw [← HF.out]
  go_enter Try.func40, Try.ntmps40
  go_wp2_with fail
  go_loopw [5, 9] (fun t i wr => ∃ k : Nat, k ≤ n ∧ i = .int .i64 k ∧ t = .string (tx (mkl k F)) ∧ Below w.heap.size w wr) (fun _ i _ => n - (intOf i).toNat)
  case atStart => exact ⟨0, by omega, rfl, rfl, Below.refl _ _⟩
  case round =>
    obtain ⟨k, hk, rfl, rfl, hnx⟩ := hrel
    by_cases hlt : k < n
    · have d0 : decide ((k : Int) < (n : Int)) = true := by simp; omega
      have i0 : k < a.size := by omega
      have i1 : k < b.size := by omega
      have j0 : (k : Int) < (n : Int) := by omega
      have j1 : (k : Int) < (b.size : Int) := by omega
      have k0 : (0 : Int) ≤ (k : Int) := by omega
      have e1 := bt_nb a k i0
      have e2 := bt_nb b k i1
      have x1 := cv.xor8 _ _ (tb_lt a k) (tb_lt b k)
      have x2 : tb a k ^^^ tb b k < 256 := Nat.xor_lt_two_pow (n := 8) (tb_lt a k) (tb_lt b k)
      have HU : Hid (tx (mkl k F) ++ tx [tb a k ^^^ tb b k] = tx (mkl (k + 1) F)) := by
        show _ = _
        rw [← tx_app, mkl_succ, HF.out]
      generalize tb a k ^^^ tb b k = z at *
      generalize tb a k = x at *
      generalize tb b k = y at *
      have F1 : Hid (∀ y : Up wr, Calls Try.prog 47 #[.int .i64 (z : Int)] y.1 fun e w' => e = .returned (.string (tx [z])) ∧ Below y.1.heap.size y.1 w') := fun y => chr8 z x2 y.1
      have s1 : (tx (mkl k F)).size = k := by rw [tx_size, mkl_length]
      have s2 : (tx [z]).size = 1 := tx_size _
      generalize tx [z] = Z at *
      generalize tx (mkl k F) = T at *
      have hne := Up.some wr
      go_wp2_with fail
      refine wp_region_up (by kernel_rfl) (by kernel_rfl) ?_
      repeat (go_big_quiet_step (with_reducible exact calls_up (F1.out _)))
      refine wpQuiet_nil ?_
      rintro w1 ⟨y1, rfl⟩
      go_wp2_with fail
      go_roundw
      case rel => exact ⟨k + 1, by omega, by go_num, by rw [← HU.out], hnx.trans (y1.2.mono hnx.size)⟩
      case measure => simp [intOf]; omega
    · obtain rfl : k = n := by omega
      have d0 : decide ((k : Int) < (k : Int)) = false := by simp
      obtain ⟨T, HTx⟩ : ∃ T, Hid (T = tx (mkl k F)) := ⟨_, rfl⟩
      rw [← HTx.out]
      go_wp2_with fail
      go_ret
      exact ⟨by rw [← HTx.out]; rfl, hnx⟩
end Go.Proofs.Ytjcgodojbpfooaa.cha
