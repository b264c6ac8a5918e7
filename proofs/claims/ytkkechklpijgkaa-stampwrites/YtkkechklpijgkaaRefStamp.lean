/-
  THE WALKS OF the document's own outside, high, of, back, StampAfter and StampWrite.
-/
import Derived.Test.YtkkechklpijgkaaStampRead
import Derived.Test.YtkkechklpijgkaaChr
namespace Go.Proofs.Ytkkechklpijgkaa.rstm
open Go.RowKit
open stm
open Go.Proofs.Ytkkechklpijgkaa.ghs (bt_nb tb tb_lt)
open Go.Proofs.Ytkkechklpijgkaa.u64 (wrap_u wrap64u)

theorem tx_app (l m : List Nat) : tx (l ++ m) = tx l ++ tx m := by
  apply ByteArray.ext
  simp [tx]
theorem chr_nat (z : Nat) (h : z < 256) (w : World) : Calls Try.prog 20 #[.int .i64 (z : Int)] w fun e w' => e = .returned (.string (tx [z])) ∧ Below w.heap.size w w' := by
  have := num.chr_any (z : Int) (by omega) (by omega) w
  rw [Int.toNat_natCast] at this
  exact this
def out (n lo hi : Int) : Bool := decide (n < lo ∨ hi < n)
theorem outside_any (n lo hi : Int) (w : World) :
    Calls Try.prog 15 #[.int .i64 n, .int .i64 lo, .int .i64 hi] w fun e w' => e = .returned (.bool (out n lo hi)) ∧ w' = w := by
  by_cases c : n < lo
  · have d0 : decide (n < lo) = true := decide_eq_true c
    rw [show out n lo hi = true from decide_eq_true (.inl c)]
    go_enter Try.func15, Try.ntmps15
    go_wp2
    go_ret
    exact ⟨rfl, rfl⟩
  · have d0 : decide (n < lo) = false := decide_eq_false c
    rw [show out n lo hi = decide (n > hi) from decide_eq_decide.2 (by omega)]
    go_enter Try.func15, Try.ntmps15
    go_wp2
    go_ret
    exact ⟨rfl, rfl⟩
set_option maxHeartbeats 400000 in
theorem high_any (m : Nat) : ∀ (n : Nat), n < 18446744073709551616 → m ≤ 8 → ∀ w : World,
    Calls Try.prog 16 #[.int .u64 n, .int .i64 m] w fun e w' => e = .returned (.string (tx (hb n m))) ∧ Below w.heap.size w w' := by
  induction m with
  | zero =>
    intro n _ _ w
    have t0 : (((0 : Nat) : Int) == 0) = true := rfl
    go_enter Try.func16, Try.ntmps16
    go_wp2
    go_ret
    exact ⟨rfl, Below.refl _ _⟩
  | succ m ih0 =>
    intro n hn hm w
    have ih := ih0 (n / 256) (by omega) (by omega)
    clear ih0
    have HU : Hid (tx (hb (n / 256) m) ++ tx [n % 256] = tx (hb n (m + 1))) := by
      show _ = _
      rw [← tx_app]
      rfl
    have f1 := chr_nat (n % 256) (Nat.mod_lt _ (by decide))
    have s1 : (tx (hb (n / 256) m)).size = m := by rw [tx_size, hb_length]
    have s2 : (tx [n % 256]).size = 1 := tx_size _
    obtain ⟨q, hq⟩ : ∃ q, q = n / 256 := ⟨_, rfl⟩
    obtain ⟨r, hr⟩ : ∃ r, r = n % 256 := ⟨_, rfl⟩
    rw [← hq] at ih HU s1
    rw [← hr] at f1 HU s2
    obtain ⟨k, hk⟩ : ∃ k, k = m + 1 := ⟨_, rfl⟩
    rw [← hk] at HU ⊢
    have t0 : ((k : Int) == 0) = false := by rw [beq_eq_false_iff_ne]; omega
    have e1 : (n : Int) / 256 = (q : Int) := by omega
    have e2 : (n : Int) % 256 = (r : Int) := by omega
    have e1' : (n : Int).tdiv 256 = (q : Int) := by rw [Int.tdiv_eq_ediv_of_nonneg (by omega)]; exact e1
    have e2' : (n : Int).tmod 256 = (r : Int) := by rw [Int.tmod_eq_emod_of_nonneg (by omega)]; exact e2
    have e3 : (k : Int) - 1 = (m : Int) := by omega
    have e4 : IntKind.i64.wrap (r : Int) = (r : Int) := by simp [IntKind.wrap, IntKind.bits, IntKind.signed]; omega
    have e6 : IntKind.u64.wrap (q : Int) = (q : Int) := by rw [wrap_u]; omega
    have e7 : IntKind.u64.wrap (r : Int) = (r : Int) := by rw [wrap_u]; omega
    have km : k ≤ 9 := by omega
    have rm : r < 256 := by omega
    generalize tx (hb q m) = X at *
    generalize tx [r] = Y at *
    clear hq hr hk hn
    obtain ⟨T, HT⟩ : ∃ T, Hid (T = tx (hb n k)) := ⟨_, rfl⟩
    rw [← HT.out] at HU ⊢
    go_enter Try.func16, Try.ntmps16
    go_wp2_with (first | (go_at_call 16; with_reducible refine (ih _).mono ?_; rintro e w1 ⟨rfl, hb1⟩) | (go_at_call 20; refine (f1 _).mono ?_; rintro e w2 ⟨rfl, hb2⟩))
    go_ret
    exact ⟨by rw [← HU.out]; rfl, hb1.trans (hb2.mono hb1.size)⟩

/-- The other way round. -/
def rev (s : ByteArray) : ByteArray := tx (nb s).reverse
theorem rev_nb (s : ByteArray) : nb (rev s) = (nb s).reverse := nb_tx _ (fun x hx => nb_lt s x (List.mem_reverse.1 hx))
theorem rev_size (s : ByteArray) : (rev s).size = s.size := by unfold rev; rw [tx_size, List.length_reverse, nb_length]
theorem one_of (s : ByteArray) (k : Nat) (h : k < s.size) : s.extract k (k + 1) = tx [tb s k] := by
  rw [← tx_nb (s.extract k (k + 1))]
  congr 1
  have hl : k < (nb s).length := by rw [nb_length]; exact h
  have e : nb (s.extract k (k + 1)) = ((nb s).drop k).take 1 := by
    unfold nb
    rw [ByteArray.data_extract, ← List.map_drop, ← List.map_take]
    simp
  rw [e, List.drop_eq_getElem_cons hl]
  unfold tb
  rw [List.getD_eq_getElem?_getD, List.getElem?_eq_getElem hl]
  rfl
theorem take_tb (s : ByteArray) (k : Nat) (h : k < s.size) : (nb s).take (k + 1) = (nb s).take k ++ [tb s k] := by
  have hl : k < (nb s).length := by rw [nb_length]; exact h
  rw [List.take_succ_eq_append_getElem hl]
  unfold tb
  rw [List.getD_eq_getElem?_getD, List.getElem?_eq_getElem hl]
  rfl
set_option maxHeartbeats 800000 in
theorem back_any (s : ByteArray) (hs : s.size ≤ 1000) (w : World) :
    Calls Try.prog 19 #[.string s] w fun e w' => e = .returned (.string (rev s)) ∧ w' = w := by
  go_enter Try.func19, Try.ntmps19
  go_wp2_with fail
  go_loopw [3, 7] (fun t i wr => ∃ k : Nat, k ≤ s.size ∧ i = .int .i64 k ∧ t = .string (tx ((nb s).take k).reverse) ∧ wr = w) (fun _ i _ => s.size - (intOf i).toNat)
  case atStart => exact ⟨0, by omega, rfl, rfl, rfl⟩
  case round =>
    obtain ⟨k, hk, rfl, rfl, rfl⟩ := hrel
    by_cases hlt : k < s.size
    · have d0 : decide ((k : Int) < (s.size : Int)) = true := by simp; omega
      have hsl : ∀ u : World, (Instr.slice 9 (.string s) (some (.int .i64 (k : Int))) (some (.int .i64 ((k : Int) + 1))) none).run Try.prog u = .ok (.string (tx [tb s k])) u := fun u => by
        have := cv.sl_in s k (k + 1) (by omega) (by omega) u
        rw [one_of s k hlt] at this
        exact this
      have HU : Hid (tx [tb s k] ++ tx ((nb s).take k).reverse = tx ((nb s).take (k + 1)).reverse) := by
        show _ = _
        rw [take_tb s k hlt, List.reverse_append, ← tx_app]
        rfl
      have s1 : (tx [tb s k]).size = 1 := tx_size _
      have s2 : (tx ((nb s).take k).reverse).size = k := by rw [tx_size, List.length_reverse, List.length_take, nb_length]; omega
      generalize tx [tb s k] = Z at *
      generalize tx ((nb s).take k).reverse = T at *
      have k3 : (k : Int) < (s.size : Int) := by omega
      have HK : Hid (k < s.size) := hlt
      clear hlt hk
      go_wp2_with fail
      go_roundw
      case rel => exact ⟨k + 1, HK.out, by go_num, by rw [← HU.out], by first | rfl | trivial⟩
      case measure => have := HK.out; simp [intOf]; omega
    · obtain rfl : k = s.size := by omega
      rw [List.take_of_length_le (by rw [nb_length]; exact Nat.le_refl _)]
      have d0 : decide ((s.size : Int) < (s.size : Int)) = false := by simp
      obtain ⟨T, HTx⟩ : ∃ T, Hid (T = rev s) := ⟨_, rfl⟩
      rw [show tx (nb s).reverse = T from HTx.out.symm]
      go_wp2_with fail
      go_ret
      exact ⟨by rw [← HTx.out]; rfl, rfl⟩
theorem hv_last (s : ByteArray) (k : Nat) (h : k < s.size) : hv ((nb s).reverse.take (k + 1)) = hv ((nb s).reverse.take k) * 256 + tb s (s.size - 1 - k) := by
  have hl : k < (nb s).reverse.length := by rw [List.length_reverse, nb_length]; exact h
  have hl2 : s.size - 1 - k < (nb s).length := by rw [nb_length]; omega
  rw [List.take_succ_eq_append_getElem hl, hv_snoc, List.getElem_reverse]
  unfold tb
  rw [List.getD_eq_getElem?_getD, List.getElem?_eq_getElem hl2]
  simp only [nb_length, Option.getD_some]
set_option maxHeartbeats 800000 in
theorem of_any (s : ByteArray) (hs : s.size ≤ 8) (w : World) :
    Calls Try.prog 18 #[.string s] w fun e w' => e = .returned (.int .u64 (hv (nb s).reverse : Nat)) ∧ w' = w := by
  have hgb := PlainAid.get_bt s
  go_enter Try.func18, Try.ntmps18
  go_wp2_with fail
  go_loopw [3, 4] (fun n i wr => ∃ m : Nat, m ≤ s.size ∧ i = .int .i64 ((s.size : Int) - 1 - (m : Int)) ∧ n = .int .u64 (hv ((nb s).reverse.take m) : Nat) ∧ wr = w) (fun _ i _ => (intOf i + 1).toNat)
  case atStart => exact ⟨0, by omega, by go_num, rfl, rfl⟩
  case round =>
    obtain ⟨m, hm, rfl, rfl, rfl⟩ := hrel
    by_cases hlt : m < s.size
    · obtain ⟨k, hk⟩ : ∃ k, k = s.size - 1 - m := ⟨_, rfl⟩
      have e0 : (s.size : Int) - 1 - (m : Int) = (k : Int) := by omega
      have d0 : decide ((k : Int) ≥ 0) = true := by simp
      have e1 := bt_nb s k (by omega)
      have l1 := tb_lt s k
      have l2 : hv ((nb s).reverse.take m) < 256 ^ m := by
        have := hv_lt ((nb s).reverse.take m) fun x hx => nb_lt s x (List.mem_reverse.1 (List.mem_of_mem_take hx))
        rwa [List.length_take, List.length_reverse, nb_length, Nat.min_eq_left hm] at this
      have l3 : 256 ^ m ≤ 256 ^ 7 := Nat.pow_le_pow_right (by decide) (by omega)
      have HU := hv_last s m hlt
      rw [← hk] at HU
      generalize tb s k = x at *
      generalize hv ((nb s).reverse.take m) = y at *
      have yb : y < 72057594037927936 := Nat.lt_of_lt_of_le l2 l3
      obtain ⟨z, hz2⟩ : ∃ z, z = 256 * y := ⟨_, rfl⟩
      obtain ⟨q, hq⟩ : ∃ q, q = z + x := ⟨_, rfl⟩
      have HQ : Hid (q = hv ((nb s).reverse.take (m + 1))) := by show _ = _; rw [HU]; omega
      have e2 : (256 * (y : Int)) = (z : Int) := by omega
      have e3 : (z : Int) + (x : Int) = (q : Int) := by omega
      have v1 : IntKind.u64.wrap (z : Int) = (z : Int) := wrap64u z (by omega)
      have v2 : IntKind.u64.wrap (q : Int) = (q : Int) := wrap64u q (by omega)
      have i1 : k < s.size := by omega
      have j1 : (k : Int) < (s.size : Int) := by omega
      have j2 : (k : Int) ≤ 8 := by omega
      have HK : Hid (k = s.size - 1 - m ∧ m < s.size) := ⟨hk, hlt⟩
      rw [e0]
      clear hk hz2 hq e0 hlt hm HU l2 l3
      go_wp2_with fail
      go_roundw
      case rel => exact ⟨m + 1, by have := HK.out; omega, by have := HK.out; congr 1; omega, by rw [← HQ.out], by first | rfl | trivial⟩
      case measure => first | (simp [intOf]; done) | (simp [intOf]; omega)
    · obtain rfl : m = s.size := by omega
      have d0 : decide ((-1 : Int) ≥ 0) = false := by decide
      have e0 : (s.size : Int) - 1 - (s.size : Int) = -1 := by omega
      rw [List.take_of_length_le (by rw [List.length_reverse, nb_length]; exact Nat.le_refl _), e0]
      go_wp2_with fail
      go_ret
      exact ⟨rfl, rfl⟩

theorem rafter_any (a b c d : Int) (w : World) :
    Calls Try.prog 10 #[st a b, st c d] w fun e w' => e = .returned (.bool (later a b c d)) ∧ Below w.heap.size w w' := by
  by_cases c1 : c < a
  · have d0 : decide (a > c) = true := decide_eq_true c1
    rw [show later a b c d = true from decide_eq_true (.inl c1)]
    go_enter Try.func10, Try.ntmps10
    go_wp2
    go_ret
    exact ⟨rfl, ((Below.refl _ _).alloc (Nat.le_refl _) _).alloc (by simp) _⟩
  · have d0 : decide (a > c) = false := decide_eq_false c1
    by_cases c2 : a = c
    · subst c2
      have d1 : (a == a) = true := by simp
      rw [show later a b a d = decide (b > d) from decide_eq_decide.2 (by omega)]
      go_enter Try.func10, Try.ntmps10
      go_wp2
      go_ret
      exact ⟨rfl, ((Below.refl _ _).alloc (Nat.le_refl _) _).alloc (by simp) _⟩
    · have d1 : (a == c) = false := by simpa using c2
      rw [show later a b c d = false from decide_eq_false (by omega)]
      go_enter Try.func10, Try.ntmps10
      go_wp2
      go_ret
      exact ⟨rfl, ((Below.refl _ _).alloc (Nat.le_refl _) _).alloc (by simp) _⟩
set_option maxRecDepth 100000 in
set_option maxHeartbeats 1600000 in
theorem rwrite_good (n m : Nat) (hn : n ≤ 1099511627776) (hm : m ≤ 999999999) (w : World) :
    Calls Try.prog 8 #[st n m] w fun e w' => e = .returned (.tuple #[.string (told n m), .int .i64 0]) ∧ Below w.heap.size w w' := by
  have f1 := outside_any (n : Int) 0 1099511627776
  rw [show out (n : Int) 0 1099511627776 = false from decide_eq_false (by omega)] at f1
  have f2 := outside_any (m : Int) 0 999999999
  rw [show out (m : Int) 0 999999999 = false from decide_eq_false (by omega)] at f2
  obtain ⟨N, hN⟩ : ∃ N, N = 4611686018427387904 + n := ⟨_, rfl⟩
  have f3 := high_any 8 N (by omega) (by decide)
  have f4 := high_any 4 m (by omega) (by decide)
  rw [show ((8 : Nat) : Int) = 8 from rfl] at f3
  rw [show ((4 : Nat) : Int) = 4 from rfl] at f4
  have n1 : IntKind.u64.wrap (n : Int) = (n : Int) := wrap64u n (by omega)
  have n3 : 4611686018427387904 + (n : Int) = (N : Int) := by omega
  have n2 : IntKind.u64.wrap (N : Int) = (N : Int) := wrap64u N (by omega)
  have n4 : IntKind.u64.wrap (m : Int) = (m : Int) := wrap64u m (by omega)
  have HT : Hid (tx (hb N 8) ++ tx (hb m 4) = told n m) := by
    show _ = _
    unfold told
    rw [hN, tx_app]
  have s1 : (tx (hb N 8)).size = 8 := by rw [tx_size, hb_length]
  have s2 : (tx (hb m 4)).size = 4 := by rw [tx_size, hb_length]
  generalize tx (hb N 8) = X at *
  generalize tx (hb m 4) = Y at *
  clear hN
  have hS0 : Blk (w.alloc (.cells #[.int .i64 n, .int .i64 m] 23)) w.heap.size 23 [.int .i64 n, .int .i64 m] := Blk.new w 23 _ _ rfl
  have hX0 : Below w.heap.size w (w.alloc (.cells #[.int .i64 n, .int .i64 m] 23)) := (Below.refl _ _).alloc (Nat.le_refl _) _
  go_enter Try.func8, Try.ntmps8
  go_wp2_with (go_at_call 15; (first | (with_reducible refine (f1 _).mono ?_) | (with_reducible refine (f2 _).mono ?_)); rintro e w1 ⟨rfl, rfl⟩)
  obtain ⟨W0, hW0⟩ : ∃ W0, W0 = w.alloc (.cells #[.int .i64 n, .int .i64 m] 23) := ⟨_, rfl⟩
  rw [← hW0] at hS0 hX0 ⊢
  clear hW0 f1 f2
  have ll := hS0.lt
  have q1 : ∀ y : Up W0, y.1.cell? ⟨w.heap.size, 0, none⟩ = some (.int .i64 n) := fun y => (hS0.below y.2 ll).cell 0 _ rfl
  have q2 : ∀ y : Up W0, y.1.cell? ⟨w.heap.size, 1, none⟩ = some (.int .i64 m) := fun y => (hS0.below y.2 ll).cell 1 _ rfl
  have F3 : Hid (∀ y : Up W0, Calls Try.prog 16 #[.int .u64 N, .int .i64 8] y.1 fun e w' => e = .returned (.string X) ∧ Below y.1.heap.size y.1 w') := fun y => f3 y.1
  have F4 : Hid (∀ y : Up W0, Calls Try.prog 16 #[.int .u64 m, .int .i64 4] y.1 fun e w' => e = .returned (.string Y) ∧ Below y.1.heap.size y.1 w') := fun y => f4 y.1
  clear f3 f4
  have hne := Up.some W0
  refine wp_region_up (by kernel_rfl) (by kernel_rfl) ?_
  repeat (go_big_quiet_step (first | (with_reducible exact calls_up (F3.out _)) | (with_reducible exact calls_up (F4.out _))))
  refine wpQuiet_nil ?_
  rintro w5 ⟨y5, rfl⟩
  go_wp2_with fail
  go_ret2
  exact ⟨by rw [← HT.out]; rfl, hX0.trans (y5.2.mono hX0.size)⟩
theorem rwrite_bad (a b : Int) (h : ok a b = false) (w : World) :
    Calls Try.prog 8 #[st a b] w fun e w' => e = .returned (.tuple #[.string ⟨#[]⟩, .int .i64 1]) ∧ Below w.heap.size w w' := by
  have h' : ¬ (0 ≤ a ∧ a ≤ 1099511627776 ∧ 0 ≤ b ∧ b ≤ 999999999) := of_decide_eq_false h
  have f1 := outside_any a 0 1099511627776
  have f2 := outside_any b 0 999999999
  have hX0 : Below w.heap.size w (w.alloc (.cells #[.int .i64 a, .int .i64 b] 23)) := (Below.refl _ _).alloc (Nat.le_refl _) _
  by_cases c : a < 0 ∨ 1099511627776 < a
  · rw [show out a 0 1099511627776 = true from decide_eq_true c] at f1
    clear h' c
    go_enter Try.func8, Try.ntmps8
    go_wp2_with (go_at_call 15; (first | (with_reducible refine (f1 _).mono ?_) | (with_reducible refine (f2 _).mono ?_)); rintro e w1 ⟨rfl, rfl⟩)
    go_ret2
    exact ⟨rfl, hX0⟩
  · rw [show out a 0 1099511627776 = false from decide_eq_false c] at f1
    rw [show out b 0 999999999 = true from decide_eq_true (by omega)] at f2
    clear h' c
    go_enter Try.func8, Try.ntmps8
    go_wp2_with (go_at_call 15; (first | (with_reducible refine (f1 _).mono ?_) | (with_reducible refine (f2 _).mono ?_)); rintro e w1 ⟨rfl, rfl⟩)
    go_ret2
    exact ⟨rfl, hX0⟩
theorem rwrite_any (a b : Int) (w : World) :
    Calls Try.prog 8 #[st a b] w fun e w' => e = .returned (.tuple #[.string (wrT a b), .int .i64 (wrE a b)]) ∧ Below w.heap.size w w' := by
  unfold wrT wrE
  by_cases h : ok a b = true
  · rw [if_pos h, if_pos h]
    obtain ⟨n, m, rfl, rfl, hn, hm⟩ := ok_nat h
    exact rwrite_good n m hn hm w
  · rw [if_neg h, if_neg h]
    exact rwrite_bad a b (by simpa using h) w
end Go.Proofs.Ytkkechklpijgkaa.rstm
