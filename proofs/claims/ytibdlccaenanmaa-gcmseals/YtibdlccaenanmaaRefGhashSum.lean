/-
  THE WALKS OF the document's own sum of blocks.
-/
import Derived.Test.YtibdlccaenanmaaRefGhash
import Derived.Test.YtibdlccaenanmaaPlainGhashAll
import Derived.Test.YtibdlccaenanmaaUp
namespace Go.Proofs.Ytibdlccaenanmaa.ghs
open Go.RowKit

set_option maxHeartbeats 400000 in
theorem high_any (m : Nat) : ∀ (n : Nat), n < 2 ^ 64 → m ≤ 8 → ∀ w : World,
    Calls Try.prog 34 #[.int .u64 n, .int .i64 m] w fun e w' => e = .returned (.string (tx (hbl n m))) ∧ Below w.heap.size w w' := by
  induction m with
  | zero =>
    intro n _ _ w
    have t0 : (((0 : Nat) : Int) == 0) = true := rfl
    go_enter Try.func34, Try.ntmps34
    go_wp2
    go_ret
    exact ⟨rfl, Below.refl _ _⟩
  | succ m ih0 =>
    intro n hn hm w
    have ih := ih0 (n / 256) (by omega) (by omega)
    clear ih0
    have HU : Hid (tx (hbl (n / 256) m) ++ tx [n % 256] = tx (hbl n (m + 1))) := by
      show _ = _
      rw [tx_append]
      rfl
    have f1 := chr_num (n % 256) (Nat.mod_lt _ (by decide))
    have s1 : (tx (hbl (n / 256) m)).size = m := by rw [tx_size, hbl_length]
    have s2 : (tx [n % 256]).size = 1 := tx_size _
    obtain ⟨q, hq⟩ : ∃ q, q = n / 256 := ⟨_, rfl⟩
    obtain ⟨r, hr⟩ : ∃ r, r = n % 256 := ⟨_, rfl⟩
    rw [← hq] at ih HU s1
    rw [← hr] at f1 HU s2
    obtain ⟨k, hk⟩ : ∃ k, k = m + 1 := ⟨_, rfl⟩
    rw [← hk] at HU ⊢
    have t0 : ((k : Int) == 0) = false := by rw [beq_eq_false_iff_ne]; omega
    have e1 : (n : Int) / 256 = (q : Int) := by omega
    have e2 : (n : Int) % 256 = (r : Int) := by omega
    have e1' : (n : Int).tdiv 256 = (q : Int) := by rw [Int.tdiv_eq_ediv_of_nonneg (by omega)]; exact e1
    have e2' : (n : Int).tmod 256 = (r : Int) := by rw [Int.tmod_eq_emod_of_nonneg (by omega)]; exact e2
    have e3 : (k : Int) - 1 = (m : Int) := by omega
    have e4 : IntKind.i64.wrap (r : Int) = (r : Int) := by simp [IntKind.wrap, IntKind.bits, IntKind.signed]; omega
    have w6 : ∀ v : Int, IntKind.u64.wrap v = v % 18446744073709551616 := fun v => by simp [IntKind.wrap, IntKind.bits, IntKind.signed]
    have e6 : IntKind.u64.wrap (q : Int) = (q : Int) := by rw [w6]; omega
    have e7 : IntKind.u64.wrap (r : Int) = (r : Int) := by rw [w6]; omega
    clear w6
    have km : k ≤ 9 := by omega
    have rm : r < 256 := by omega
    generalize tx (hbl q m) = X at *
    generalize tx [r] = Y at *
    clear hq hr hk hn
    obtain ⟨T, HT⟩ : ∃ T, Hid (T = tx (hbl n k)) := ⟨_, rfl⟩
    rw [← HT.out] at HU ⊢
    go_enter Try.func34, Try.ntmps34
    go_wp2_with (first | (go_at_call 34; with_reducible refine (ih _).mono ?_; rintro e w1 ⟨rfl, hb1⟩) | (go_at_call 45; refine (f1 _).mono ?_; rintro e w2 ⟨rfl, hb2⟩))
    go_ret
    exact ⟨by rw [← HU.out]; rfl, hb1.trans (hb2.mono hb1.size)⟩

theorem rest_any (n : Nat) (hn : n ≤ 9223372036854775807) (w : World) :
    Calls Try.prog 78 #[.int .i64 (-(n : Int)), .int .i64 16] w fun e w' => e = .returned (.int .i64 (((16 - n % 16) % 16 : Nat) : Int)) ∧ w' = w := by
  obtain ⟨r, hr⟩ : ∃ r, r = n % 16 := ⟨_, rfl⟩
  rw [← hr]
  have e1 : (-(n : Int)).tmod 16 = -(r : Int) := by rw [Int.neg_tmod, Int.tmod_eq_emod_of_nonneg (by omega)]; omega
  by_cases c : r = 0
  · subst c
    have e0 : (-(n : Int)).tmod 16 = 0 := by rw [e1]; rfl
    clear e1 hr
    generalize -(n : Int) = v at *
    go_enter Try.func78, Try.ntmps78
    go_wp2
    go_ret
    exact ⟨rfl, rfl⟩
  · obtain ⟨q, hq⟩ : ∃ q, q = (16 - r) % 16 := ⟨_, rfl⟩
    rw [← hq]
    have d0 : decide (-(r : Int) < 0) = true := by simp; omega
    have e2 : -(r : Int) + 16 = (q : Int) := by omega
    have r1 : (r : Int) < 16 := by omega
    have qb : q < 16 := by omega
    have r0 : (0 : Int) < (r : Int) := by omega
    clear hr hq
    generalize -(n : Int) = v at *
    generalize -(r : Int) = u at *
    go_enter Try.func78, Try.ntmps78
    go_wp2
    go_ret
    exact ⟨rfl, rfl⟩

theorem rzeros_any (n : Nat) (h : n ≤ 140737488355328) (w : World) :
    Calls Try.prog 39 #[.int .i64 n] w fun e w' => e = .returned (.string (noughts n)) ∧ Below w.heap.size w w' := by
  have f1 : ∀ W, Calls Try.prog 45 #[.int .i64 0] W fun e w' => e = .returned (.string ⟨#[0]⟩) ∧ Below W.heap.size W w' := fun W => chr_num 0 (by decide) W
  have f2 := fun W => Try.strings_Repeat ⟨#[0]⟩ n W (by omega) (by show 1 * n ≤ _; omega)
  have e : (⟨(Lib.repeatL (⟨#[0]⟩ : ByteArray).data.toList n).toArray⟩ : ByteArray) = noughts n := by
    show (⟨(Lib.repeatL [0] n).toArray⟩ : ByteArray) = _
    rw [repeat_zero]; rfl
  rw [e] at f2
  generalize noughts n = Z at *
  clear e
  go_enter Try.func39, Try.ntmps39
  go_wp2_with (first | (go_at_call 45; refine (f1 _).mono ?_; rintro e w1 ⟨rfl, hb1⟩) | (go_at_call 23; refine (f2 _).mono ?_; rintro e w2 ⟨rfl, hb2⟩))
  go_ret
  exact ⟨rfl, hb1.trans (hb2.mono hb1.size)⟩

theorem filled_any (s : ByteArray) (hs : s.size ≤ 140737488355328) (w : World) :
    Calls Try.prog 59 #[.string s] w fun e w' => e = .returned (.string (fl s)) ∧ Below w.heap.size w w' := by
  have f1 := rest_any s.size (by omega)
  have f2 := rzeros_any ((16 - s.size % 16) % 16) (by omega)
  have hz := noughts_size ((16 - s.size % 16) % 16)
  unfold fl
  obtain ⟨r, hr⟩ : ∃ r, r = (16 - s.size % 16) % 16 := ⟨_, rfl⟩
  rw [← hr] at f1 f2 hz ⊢
  generalize noughts r = Z at *
  have hr16 : r < 16 := by omega
  have n1 : IntKind.i64.wrap (-(s.size : Int)) = -(s.size : Int) := by simp [IntKind.wrap, IntKind.bits, IntKind.signed]; omega
  have n2 : wrap64 (-(s.size : Int)) = -(s.size : Int) := by unfold wrap64; omega
  have n3 : s.size + Z.size ≤ 140737488355360 := by omega
  clear hr
  go_enter Try.func59, Try.ntmps59
  go_wp2_with (first | (go_at_call 78; refine (f1 _).mono ?_; rintro e w1 ⟨rfl, rfl⟩) | (go_at_call 39; refine (f2 _).mono ?_; rintro e w2 ⟨rfl, hb2⟩))
  go_ret
  exact ⟨rfl, hb2⟩

theorem xor8r (a b : Nat) (ha : a < 256) (hb : b < 256) : bits .xor .u8 (a : Int) (b : Int) = ((a ^^^ b : Nat) : Int) := by
  have hx : a ^^^ b < 2 ^ 8 := Nat.xor_lt_two_pow (by omega) (by omega)
  show IntKind.u8.wrap ((BitVec.ofInt 8 (a : Int) ^^^ BitVec.ofInt 8 (b : Int)).toNat : Int) = _
  rw [BitVec.toNat_xor, BitVec.ofInt_natCast, BitVec.ofInt_natCast, BitVec.toNat_ofNat, BitVec.toNat_ofNat, Nat.mod_eq_of_lt (by omega : a < 2 ^ 8), Nat.mod_eq_of_lt (by omega : b < 2 ^ 8)]
  simp [IntKind.wrap, IntKind.bits, IntKind.signed]
  omega
set_option maxRecDepth 100000 in
set_option maxHeartbeats 800000 in
theorem rxor_any (a b : ByteArray) (ha : a.size = 16) (hb : b.size = 16) (w : World) :
    Calls Try.prog 36 #[.string a, .string b] w fun e w' => e = .returned (.string (xo a b)) ∧ Below w.heap.size w w' := by
  have hga := PlainAid.get_bt a
  have hgb := PlainAid.get_bt b
  have za : (a.size : Int) = 16 := by omega
  have zb : (b.size : Int) = 16 := by omega
  obtain ⟨F, HF⟩ : ∃ F : Nat → Nat, Hid (F = fun j => tb a j ^^^ tb b j) := ⟨_, rfl⟩
  have HX : Hid (xo a b = tx (mkl 16 F)) := by show xo a b = _; unfold xo; rw [HF.out, ha]
  go_enter Try.func36, Try.ntmps36
  go_wp2_with fail
  go_loopw [5, 9] (fun t i wr => ∃ k : Nat, k ≤ 16 ∧ i = .int .i64 k ∧ t = .string (tx (mkl k F)) ∧ Below w.heap.size w wr) (fun _ i _ => 16 - (intOf i).toNat)
  case atStart => exact ⟨0, by omega, rfl, rfl, Below.refl _ _⟩
  case round =>
    obtain ⟨k, hk, rfl, rfl, hnx⟩ := hrel
    by_cases hlt : k < 16
    · have d0 : decide ((k : Int) < 16) = true := by simp; omega
      have i0 : k < a.size := by omega
      have i1 : k < b.size := by omega
      have j0 : (k : Int) < 16 := by omega
      have k0 : (0 : Int) ≤ (k : Int) := by omega
      have e1 := bt_nb a k i0
      have e2 := bt_nb b k i1
      have x1 := xor8r _ _ (tb_lt a k) (tb_lt b k)
      have x2 : tb a k ^^^ tb b k < 256 := Nat.xor_lt_two_pow (n := 8) (tb_lt a k) (tb_lt b k)
      have HU : Hid (tx (mkl k F) ++ tx [tb a k ^^^ tb b k] = tx (mkl (k + 1) F)) := by
        show _ = _
        rw [tx_append, mkl_succ, HF.out]
      generalize tb a k ^^^ tb b k = z at *
      generalize tb a k = x at *
      generalize tb b k = y at *
      have F1 : Hid (∀ y : Up wr, Calls Try.prog 45 #[.int .i64 (z : Int)] y.1 fun e w' => e = .returned (.string (tx [z])) ∧ Below y.1.heap.size y.1 w') := fun y => chr_num z x2 y.1
      have s1 : (tx (mkl k F)).size = k := by rw [tx_size, mkl_length]
      have s2 : (tx [z]).size = 1 := tx_size _
      generalize tx [z] = Z at *
      generalize tx (mkl k F) = T at *
      have hne := Up.some wr
      go_wp2_with fail
      refine wp_region_up (by kernel_rfl) (by kernel_rfl) ?_
      repeat (go_big_quiet_step (with_reducible exact calls_up (F1.out _)))
      refine wpQuiet_nil ?_
      rintro w1 ⟨y1, rfl⟩
      go_wp2_with fail
      go_roundw
      case rel => exact ⟨k + 1, by omega, by go_num, by rw [← HU.out], hnx.trans (y1.2.mono hnx.size)⟩
      case measure => simp [intOf]; omega
    · obtain rfl : k = 16 := by omega
      have d0 : decide (((16 : Nat) : Int) < 16) = false := by decide
      obtain ⟨T, HT⟩ : ∃ T, Hid (T = tx (mkl 16 F)) := ⟨_, rfl⟩
      rw [← HT.out]
      go_wp2_with fail
      go_ret
      exact ⟨by rw [HX.out, ← HT.out]; rfl, hnx⟩

theorem ghashSum_bad (h l s : ByteArray) (hh : h.size ≠ 16) (w : World) :
    Calls Try.prog 38 #[.string h, .string l, .string s] w fun e w' => e = .returned (.tuple #[.string ⟨#[]⟩, .int .i64 1]) ∧ Below w.heap.size w w' := by
  have t1 : ((h.size : Int) != 16) = true := by rw [bne_iff_ne]; omega
  clear hh
  go_enter Try.func38, Try.ntmps38
  go_wp2
  go_ret2
  exact ⟨rfl, Below.refl _ _⟩
theorem noughts_bt : noughts 16 = bt 0 := by
  refine bn_inj (noughts_size 16) (bt_size 0) ?_
  rw [bn_bt (by decide)]
  decide +kernel
def strLen' : Value → Nat
  | .string s => s.size
  | _ => 0
/-- A text's first block. -/
def hd (s : ByteArray) : ByteArray := s.extract 0 16
theorem hd_size (s : ByteArray) (h : 16 ≤ s.size) : (hd s).size = 16 := by unfold hd; rw [ByteArray.size_extract]; omega
theorem tb_hd (s : ByteArray) (j : Nat) (h : j < 16) : tb (hd s) j = tb s j := by
  unfold tb nb hd
  rw [ByteArray.data_extract, Array.toList_extract, List.extract_eq_take_drop, List.drop_zero, List.getD_eq_getElem?_getD, List.getD_eq_getElem?_getD, List.getElem?_map, List.getElem?_map, List.getElem?_take, if_pos (by omega)]
theorem bn_hd (s : ByteArray) : bn (hd s) = bn s := bf_congr 16 fun j hj => tb_hd s j hj
set_option maxRecDepth 100000 in
set_option maxHeartbeats 1600000 in
theorem ghashSum_good (h l s : ByteArray) (hh : h.size = 16) (hl : l.size ≤ 140737488355328) (hs : s.size ≤ 140737488355328) (w : World) :
    Calls Try.prog 38 #[.string h, .string l, .string s] w fun e w' => e = .returned (.tuple #[.string (bt (sumN (bn h) l s)), .int .i64 0]) ∧ Below w.heap.size w w' := by
  have z1 : (h.size : Int) = 16 := by omega
  have f1 : ∀ W, Calls Try.prog 39 #[.int .i64 16] W fun e w' => e = .returned (.string (noughts 16)) ∧ Below W.heap.size W w' := rzeros_any 16 (by decide)
  rw [noughts_bt] at f1
  have f2 := filled_any l hl
  have f3 := filled_any s hs
  have f4 : ∀ W, Calls Try.prog 34 #[.int .u64 ((8 * l.size : Nat) : Int), .int .i64 8] W fun e w' => e = .returned (.string (tx (hbl (8 * l.size) 8))) ∧ Below W.heap.size W w' := high_any 8 (8 * l.size) (by omega) (by decide)
  have f5 : ∀ W, Calls Try.prog 34 #[.int .u64 ((8 * s.size : Nat) : Int), .int .i64 8] W fun e w' => e = .returned (.string (tx (hbl (8 * s.size) 8))) ∧ Below W.heap.size W w' := high_any 8 (8 * s.size) (by omega) (by decide)
  have HA : Hid (fl l ++ fl s ++ tx (hbl (8 * l.size) 8) ++ tx (hbl (8 * s.size) 8) = all l s) := rfl
  have c1 := fl_size l
  have c2 := fl_size s
  have c3 : (tx (hbl (8 * l.size) 8)).size = 8 := by rw [tx_size, hbl_length]
  have c4 : (tx (hbl (8 * s.size) 8)).size = 8 := by rw [tx_size, hbl_length]
  have hN := all_size l s
  have HG : Hid (sm (bn h) 0 (all l s) (nbk l + (nbk s + 1)) = sumN (bn h) l s) := sm_all (bn h) l s hl hs
  have b1 : nbk l ≤ 8796093022209 := by unfold nbk; omega
  have b2 : nbk s ≤ 8796093022209 := by unfold nbk; omega
  obtain ⟨x, hx⟩ : ∃ x, x = 8 * l.size := ⟨_, rfl⟩
  obtain ⟨y, hy⟩ : ∃ y, y = 8 * s.size := ⟨_, rfl⟩
  rw [← hx] at f4 c3 HA
  rw [← hy] at f5 c4 HA
  generalize tx (hbl x 8) = X at *
  generalize tx (hbl y 8) = Y at *
  generalize fl l = L at *
  generalize fl s = S at *
  generalize all l s = A at *
  obtain ⟨N, hNN⟩ : ∃ N, N = nbk l + (nbk s + 1) := ⟨_, rfl⟩
  rw [← hNN] at hN HG
  have d1 : L.size ≤ 140737488355360 := by omega
  have d2 : S.size ≤ 140737488355360 := by omega
  have d3 : (L ++ S).size ≤ 281474976710720 := by rw [ByteArray.size_append]; omega
  have d4 : (L ++ S ++ X).size ≤ 281474976710800 := by rw [ByteArray.size_append, ByteArray.size_append]; omega
  have u1 : ∀ v : Int, IntKind.u64.wrap v = v % 18446744073709551616 := fun v => by simp [IntKind.wrap, IntKind.bits, IntKind.signed]
  have e1 : IntKind.u64.wrap (l.size : Int) = (l.size : Int) := by rw [u1]; omega
  have e2 : IntKind.u64.wrap (s.size : Int) = (s.size : Int) := by rw [u1]; omega
  have e3 : IntKind.u64.wrap (8 * (l.size : Int)) = (x : Int) := by rw [u1]; omega
  have e4 : IntKind.u64.wrap (8 * (s.size : Int)) = (y : Int) := by rw [u1]; omega
  clear u1 c1 c2 hNN b1 b2 hx hy
  have HN : Hid (A.size = 16 * N) := hN
  have HB : Hid (N ≤ 17592186044430) := by show N ≤ _; have := HA.out; have h9 : (L ++ S ++ X ++ Y).size = 16 * N := by rw [this, hN]
                                           rw [ByteArray.size_append] at h9; omega
  clear hN
  have lH := bn_lt h
  have hX := Below.refl w.heap.size w
  go_enter Try.func38, Try.ntmps38
  go_wp2_with (first
    | (go_at_call 39; with_reducible refine (f1 _).mono ?_; rintro e w1 ⟨rfl, hq⟩; replace hX := hX.trans (hq.mono hX.size); clear hq)
    | (go_at_call 59; first
      | (with_reducible refine (f2 _).mono ?_; rintro e w1 ⟨rfl, hq⟩; replace hX := hX.trans (hq.mono hX.size); clear hq)
      | (with_reducible refine (f3 _).mono ?_; rintro e w1 ⟨rfl, hq⟩; replace hX := hX.trans (hq.mono hX.size); clear hq))
    | (go_at_call 34; first
      | (with_reducible refine (f4 _).mono ?_; rintro e w1 ⟨rfl, hq⟩; replace hX := hX.trans (hq.mono hX.size); clear hq)
      | (with_reducible refine (f5 _).mono ?_; rintro e w1 ⟨rfl, hq⟩; replace hX := hX.trans (hq.mono hX.size); clear hq)))
  rw [HA.out]
  clear HA d1 d2 d3 d4 e1 e2 e3 e4 c3 c4 f1 f2 f3 f4 f5
  generalize L ++ S ++ X = U1 at *
  generalize L ++ S = U2 at *
  generalize (x : Int) = x' at *
  generalize (y : Int) = y' at *
  generalize (l.size : Int) = l' at *
  generalize (s.size : Int) = s' at *
  go_loopw [8, 9] (fun y t wr => ∃ k : Nat, k ≤ N ∧ y = .string (bt (sm (bn h) 0 A k)) ∧ t = .string (dr A (16 * k)) ∧ Below w.heap.size w wr) (fun _ t _ => strLen' t)
  case atStart => exact ⟨0, by omega, rfl, by rw [dr_0], hX⟩
  case round =>
    clear hX
    obtain ⟨k, hk, rfl, rfl, hnx⟩ := hrel
    have hsz := dr_size A (16 * k)
    rw [HN.out] at hsz
    by_cases hlt : k < N
    · have h16 : 16 ≤ (dr A (16 * k)).size := by omega
      have hmx : (dr A (16 * k)).size ≤ 9223372036854775807 := by have := HB.out; omega
      have HS : Hid (sm (bn h) 0 A (k + 1) = gm (sm (bn h) 0 A k ^^^ bn (dr A (16 * k))) (bn h)) := rfl
      have lS := sm_lt lH (by decide : 0 < 2 ^ 128) A k
      have HD : Hid (dr (dr A (16 * k)) 16 = dr A (16 * (k + 1))) := by show _ = _; rw [dr_dr, Nat.mul_add]
      generalize dr A (16 * k) = T at *
      have f1 := rxor_any (bt (sm (bn h) 0 A k)) (hd T) (bt_size _) (hd_size T h16)
      have hx1 : xo (bt (sm (bn h) 0 A k)) (hd T) = bt (sm (bn h) 0 A k ^^^ bn T) := by
        rw [← xo_bt, ← bn_hd T, bt_bn (hd_size T h16)]
      rw [hx1] at f1
      have lX := xor_lt lS (bn_lt T)
      have f2 := ghashMul_good (bt (sm (bn h) 0 A k ^^^ bn T)) h (bt_size _) hh
      rw [bn_bt lX, ← HS.out] at f2
      generalize bt (sm (bn h) 0 A k ^^^ bn T) = V at *
      generalize bt (sm (bn h) 0 A k) = Sk at *
      obtain ⟨S', HS'⟩ : ∃ S', Hid (S' = bt (sm (bn h) 0 A (k + 1))) := ⟨_, rfl⟩
      rw [← HS'.out] at f2
      have n0 : T.toList.isEmpty = false := by
        rw [List.isEmpty_eq_false_iff, ByteArray.toList_eq]
        intro e
        have := congrArg List.length e
        rw [Array.length_toList, List.length_nil] at this
        have h0 : T.data.size = T.size := rfl
        omega
      have s1 : ∀ u : World, (Instr.slice 9 (.string T) none (some (.int .i64 16)) none).run Try.prog u = .ok (.string (hd T)) u := fun u => by
        have h := run_slice_string_to_if (P := Try.prog) u 9 T .i64 16 Try.underlying9
        rw [if_pos ⟨by omega, by omega⟩] at h
        exact h
      have HL : Hid ((dr T 16).size < T.size) := by show (dr T 16).size < T.size; rw [dr_size]; omega
      have t16 : (16 : Int) ≤ (T.size : Int) := by omega
      have HE : Hid (T.extract 16 T.size = dr T 16) := rfl
      have HE' : Hid (T.extract 0 16 = hd T) := rfl
      clear hx1 lX lS hsz
      go_wp2_with (first
        | (go_at_call 36; refine (f1 _).mono ?_; rintro e w5 ⟨rfl, hb5⟩)
        | (go_at_call 60; refine (f2 _).mono ?_; rintro e w6 ⟨rfl, hb6⟩))
      rw [HE.out]
      refine ⟨⟨k + 1, by omega, by rw [HS'.out], by rw [HD.out], ?_⟩, HL.out⟩
      have h5 := hnx.trans (hb5.mono hnx.size)
      exact h5.trans (hb6.mono h5.size)
    · obtain rfl : k = N := by omega
      have z0 : (dr A (16 * k)).size = 0 := by rw [hsz]; omega
      clear hsz
      generalize dr A (16 * k) = T at *
      have n0 : T.toList.isEmpty = true := by
        rw [List.isEmpty_iff, ByteArray.toList_eq]
        apply List.eq_nil_of_length_eq_zero
        rw [Array.length_toList]
        exact z0
      clear z0
      rw [HG.out]
      obtain ⟨G, HGG⟩ : ∃ G, Hid (G = bt (sumN (bn h) l s)) := ⟨_, rfl⟩
      rw [← HGG.out]
      go_wp2_with fail
      go_ret2
      exact ⟨by rw [← HGG.out]; rfl, hnx⟩
end Go.Proofs.Ytibdlccaenanmaa.ghs
