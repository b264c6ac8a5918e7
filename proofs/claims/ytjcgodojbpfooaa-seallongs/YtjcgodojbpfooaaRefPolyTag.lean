/-
  THE WALK OF the document's own Tag.
-/
import Derived.Test.YtjcgodojbpfooaaRefLongOf
import Derived.Test.YtjcgodojbpfooaaPlainPolyOut
import Derived.Test.YtjcgodojbpfooaaBundle2
import Derived.Test.YtjcgodojbpfooaaConv
import Derived.Test.YtjcgodojbpfooaaTail
namespace Go.Proofs.Ytjcgodojbpfooaa.lon
open Go.RowKit
open Go.Proofs.Ytjcgodojbpfooaa.u64
open Go.Proofs.Ytjcgodojbpfooaa.pol
open Go.Proofs.Ytjcgodojbpfooaa.soft
open Go.Proofs.Ytjcgodojbpfooaa.ghs (tb tb_lt bt_nb dr dr_size tb_dr dr_0 dr_dr mkl mkl_length mkl_get mkl_succ mkl_congr)

theorem chr8 (z : Nat) (h : z < 256) (w : World) : Calls Try.prog 47 #[.int .i64 (z : Int)] w fun e w' => e = .returned (.string (tx [z])) ∧ Below w.heap.size w w' := by
  have := num.chr_any (z : Int) (by omega) (by omega) w
  rw [Int.toNat_natCast] at this
  exact this
theorem chr1 (w : World) : Calls Try.prog 47 #[.int .i64 1] w fun e w' => e = .returned (.string ⟨#[1]⟩) ∧ Below w.heap.size w w' := chr8 1 (by decide) w

set_option maxHeartbeats 400000 in
theorem rTag_bad (key s : ByteArray) (hk : ¬ key.size = 32) (w : World) :
    Calls Try.prog 41 #[.string key, .string s] w fun e w' => e = .returned (.tuple #[.string ⟨#[]⟩, .int .i64 1]) ∧ Below w.heap.size w w' := by
  have d0 : ((key.size : Int) == 32) = false := by rw [beq_eq_false_iff_ne]; omega
  go_enter Try.func41, Try.ntmps41
  go_wp2_with fail
  go_ret2
  exact ⟨rfl, Below.refl _ _⟩

/-- A fact that the walk does not look into. -/
structure Shut (p : Prop) : Prop where
  out : p
/-- A text's size. -/
def szOf : Value → Nat
  | .string t => t.size
  | _ => 0
set_option maxRecDepth 100000 in
set_option maxHeartbeats 600000 in
theorem rTag_good (key s : ByteArray) (hk : key.size = 32) (w : World) :
    Calls Try.prog 41 #[.string key, .string s] w fun e w' => e = .returned (.tuple #[.string (tag key s), .int .i64 0]) ∧ Below w.heap.size w w' := by
  have k1 : (key.size : Int) = 32 := by omega
  have hgb := PlainAid.get_bt key
  go_enter Try.func41, Try.ntmps41
  go_wp2_with fail
  go_loopw [6, 25] (fun m i wr => ∃ k : Nat, k ≤ 16 ∧ i = .int .i64 k ∧ m = .string (tx (mkl k fun j => tr j (tb key j))) ∧ Below w.heap.size w wr) (fun _ i _ => 16 - (intOf i).toNat)
  case atStart => exact ⟨0, by omega, rfl, rfl, Below.refl _ _⟩
  case round =>
    obtain ⟨k, hk16, rfl, rfl, hnx⟩ := hrel
    by_cases hlt : k < 16
    · have hkb : k < key.size := by omega
      have eb := bt_nb key k hkb
      have lx := tb_lt key k
      have hms : Hid (tx (mkl (k + 1) fun j => tr j (tb key j)) = tx (mkl k fun j => tr j (tb key j)) ++ tx [tr k (tb key k)]) := by
        show _ = _
        rw [mkl_succ, tx_app]
      have hch := chr8 (tr k (tb key k)) (tr_lt lx)
      have hs1 : (tx [tr k (tb key k)]).size = 1 := tx_size _
      have hs2 : (tx (mkl k fun j => tr j (tb key j))).size = k := by rw [tx_size, mkl_length]
      have htr : tr k (tb key k) = if k % 4 = 3 then tb key k % 16 else if k % 4 = 0 ∧ k ≠ 0 then tb key k / 4 * 4 else tb key k := rfl
      generalize tx (mkl k fun j => tr j (tb key j)) = M at *
      obtain ⟨y, hy⟩ : ∃ y, tr k (tb key k) = y := ⟨_, rfl⟩
      rw [hy] at hms hch hs1 htr
      generalize tx [y] = Y at *
      generalize tb key k = x at *
      have k0 : (0 : Int) ≤ (k : Int) := by omega
      have kz : (k : Int) < 16 := by omega
      have sz := hnx.size
      have HK : Hid (k < 16) := hlt
      have q1 : (x : Int).tmod 16 = ((x % 16 : Nat) : Int) := by rw [Int.tmod_eq_emod_of_nonneg (by omega)]; omega
      obtain ⟨d, hd⟩ : ∃ d, d = x / 4 := ⟨_, rfl⟩
      have q2 : (x : Int).tdiv 4 = (d : Int) := by rw [Int.tdiv_eq_ediv_of_nonneg (by omega)]; omega
      have q3 : (d : Int) * 4 = ((x / 4 * 4 : Nat) : Int) := by omega
      have d0 : (0 : Int) ≤ (d : Int) := by omega
      have d1 : (d : Int) < 64 := by omega
      have x0 : (0 : Int) ≤ (x : Int) := by omega
      have x1 : (x : Int) < 256 := by omega
      have hcase : (k = 3 ∨ k = 7 ∨ k = 11 ∨ k = 15 ∨ k = 4 ∨ k = 8 ∨ k = 12) ∨ (k ≠ 3 ∧ k ≠ 7 ∧ k ≠ 11 ∧ k ≠ 15 ∧ k ≠ 4 ∧ k ≠ 8 ∧ k ≠ 12) := by omega
      rcases hcase with (c | c | c | c | c | c | c) | ⟨c1, c2, c3, c4, c5, c6, c7⟩
      · have f3 : ((k : Int) == 3) = true := by rw [beq_iff_eq]; omega
        have f7 : ((k : Int) == 7) = false := by rw [beq_eq_false_iff_ne]; omega
        have f11 : ((k : Int) == 11) = false := by rw [beq_eq_false_iff_ne]; omega
        have f15 : ((k : Int) == 15) = false := by rw [beq_eq_false_iff_ne]; omega
        have f4 : ((k : Int) == 4) = false := by rw [beq_eq_false_iff_ne]; omega
        have f8 : ((k : Int) == 8) = false := by rw [beq_eq_false_iff_ne]; omega
        have f12 : ((k : Int) == 12) = false := by rw [beq_eq_false_iff_ne]; omega
        have hyy : x % 16 = y := by rw [htr, if_pos (by omega)]
        rw [hyy] at q1
        clear hyy c
        clear htr hy hlt hkb hd
        go_wp2_with (go_at_call 47; (with_reducible refine (hch _).mono ?_); rintro e w1 ⟨rfl, hb1⟩)
        go_roundw
        case rel => exact ⟨k + 1, HK.out, by go_num, by rw [hms.out], hnx.trans (hb1.mono sz)⟩
        case measure => have := HK.out; simp [intOf]; omega
      · have f3 : ((k : Int) == 3) = false := by rw [beq_eq_false_iff_ne]; omega
        have f7 : ((k : Int) == 7) = true := by rw [beq_iff_eq]; omega
        have f11 : ((k : Int) == 11) = false := by rw [beq_eq_false_iff_ne]; omega
        have f15 : ((k : Int) == 15) = false := by rw [beq_eq_false_iff_ne]; omega
        have f4 : ((k : Int) == 4) = false := by rw [beq_eq_false_iff_ne]; omega
        have f8 : ((k : Int) == 8) = false := by rw [beq_eq_false_iff_ne]; omega
        have f12 : ((k : Int) == 12) = false := by rw [beq_eq_false_iff_ne]; omega
        have hyy : x % 16 = y := by rw [htr, if_pos (by omega)]
        rw [hyy] at q1
        clear hyy c
        clear htr hy hlt hkb hd
        go_wp2_with (go_at_call 47; (with_reducible refine (hch _).mono ?_); rintro e w1 ⟨rfl, hb1⟩)
        go_roundw
        case rel => exact ⟨k + 1, HK.out, by go_num, by rw [hms.out], hnx.trans (hb1.mono sz)⟩
        case measure => have := HK.out; simp [intOf]; omega
      · have f3 : ((k : Int) == 3) = false := by rw [beq_eq_false_iff_ne]; omega
        have f7 : ((k : Int) == 7) = false := by rw [beq_eq_false_iff_ne]; omega
        have f11 : ((k : Int) == 11) = true := by rw [beq_iff_eq]; omega
        have f15 : ((k : Int) == 15) = false := by rw [beq_eq_false_iff_ne]; omega
        have f4 : ((k : Int) == 4) = false := by rw [beq_eq_false_iff_ne]; omega
        have f8 : ((k : Int) == 8) = false := by rw [beq_eq_false_iff_ne]; omega
        have f12 : ((k : Int) == 12) = false := by rw [beq_eq_false_iff_ne]; omega
        have hyy : x % 16 = y := by rw [htr, if_pos (by omega)]
        rw [hyy] at q1
        clear hyy c
        clear htr hy hlt hkb hd
        go_wp2_with (go_at_call 47; (with_reducible refine (hch _).mono ?_); rintro e w1 ⟨rfl, hb1⟩)
        go_roundw
        case rel => exact ⟨k + 1, HK.out, by go_num, by rw [hms.out], hnx.trans (hb1.mono sz)⟩
        case measure => have := HK.out; simp [intOf]; omega
      · have f3 : ((k : Int) == 3) = false := by rw [beq_eq_false_iff_ne]; omega
        have f7 : ((k : Int) == 7) = false := by rw [beq_eq_false_iff_ne]; omega
        have f11 : ((k : Int) == 11) = false := by rw [beq_eq_false_iff_ne]; omega
        have f15 : ((k : Int) == 15) = true := by rw [beq_iff_eq]; omega
        have f4 : ((k : Int) == 4) = false := by rw [beq_eq_false_iff_ne]; omega
        have f8 : ((k : Int) == 8) = false := by rw [beq_eq_false_iff_ne]; omega
        have f12 : ((k : Int) == 12) = false := by rw [beq_eq_false_iff_ne]; omega
        have hyy : x % 16 = y := by rw [htr, if_pos (by omega)]
        rw [hyy] at q1
        clear hyy c
        clear htr hy hlt hkb hd
        go_wp2_with (go_at_call 47; (with_reducible refine (hch _).mono ?_); rintro e w1 ⟨rfl, hb1⟩)
        go_roundw
        case rel => exact ⟨k + 1, HK.out, by go_num, by rw [hms.out], hnx.trans (hb1.mono sz)⟩
        case measure => have := HK.out; simp [intOf]; omega
      · have f3 : ((k : Int) == 3) = false := by rw [beq_eq_false_iff_ne]; omega
        have f7 : ((k : Int) == 7) = false := by rw [beq_eq_false_iff_ne]; omega
        have f11 : ((k : Int) == 11) = false := by rw [beq_eq_false_iff_ne]; omega
        have f15 : ((k : Int) == 15) = false := by rw [beq_eq_false_iff_ne]; omega
        have f4 : ((k : Int) == 4) = true := by rw [beq_iff_eq]; omega
        have f8 : ((k : Int) == 8) = false := by rw [beq_eq_false_iff_ne]; omega
        have f12 : ((k : Int) == 12) = false := by rw [beq_eq_false_iff_ne]; omega
        have hyy : x / 4 * 4 = y := by rw [htr, if_neg (by omega), if_pos (by omega)]
        rw [hyy] at q3
        clear hyy c
        clear htr hy hlt hkb hd
        go_wp2_with (go_at_call 47; (with_reducible refine (hch _).mono ?_); rintro e w1 ⟨rfl, hb1⟩)
        go_roundw
        case rel => exact ⟨k + 1, HK.out, by go_num, by rw [hms.out], hnx.trans (hb1.mono sz)⟩
        case measure => have := HK.out; simp [intOf]; omega
      · have f3 : ((k : Int) == 3) = false := by rw [beq_eq_false_iff_ne]; omega
        have f7 : ((k : Int) == 7) = false := by rw [beq_eq_false_iff_ne]; omega
        have f11 : ((k : Int) == 11) = false := by rw [beq_eq_false_iff_ne]; omega
        have f15 : ((k : Int) == 15) = false := by rw [beq_eq_false_iff_ne]; omega
        have f4 : ((k : Int) == 4) = false := by rw [beq_eq_false_iff_ne]; omega
        have f8 : ((k : Int) == 8) = true := by rw [beq_iff_eq]; omega
        have f12 : ((k : Int) == 12) = false := by rw [beq_eq_false_iff_ne]; omega
        have hyy : x / 4 * 4 = y := by rw [htr, if_neg (by omega), if_pos (by omega)]
        rw [hyy] at q3
        clear hyy c
        clear htr hy hlt hkb hd
        go_wp2_with (go_at_call 47; (with_reducible refine (hch _).mono ?_); rintro e w1 ⟨rfl, hb1⟩)
        go_roundw
        case rel => exact ⟨k + 1, HK.out, by go_num, by rw [hms.out], hnx.trans (hb1.mono sz)⟩
        case measure => have := HK.out; simp [intOf]; omega
      · have f3 : ((k : Int) == 3) = false := by rw [beq_eq_false_iff_ne]; omega
        have f7 : ((k : Int) == 7) = false := by rw [beq_eq_false_iff_ne]; omega
        have f11 : ((k : Int) == 11) = false := by rw [beq_eq_false_iff_ne]; omega
        have f15 : ((k : Int) == 15) = false := by rw [beq_eq_false_iff_ne]; omega
        have f4 : ((k : Int) == 4) = false := by rw [beq_eq_false_iff_ne]; omega
        have f8 : ((k : Int) == 8) = false := by rw [beq_eq_false_iff_ne]; omega
        have f12 : ((k : Int) == 12) = true := by rw [beq_iff_eq]; omega
        have hyy : x / 4 * 4 = y := by rw [htr, if_neg (by omega), if_pos (by omega)]
        rw [hyy] at q3
        clear hyy c
        clear htr hy hlt hkb hd
        go_wp2_with (go_at_call 47; (with_reducible refine (hch _).mono ?_); rintro e w1 ⟨rfl, hb1⟩)
        go_roundw
        case rel => exact ⟨k + 1, HK.out, by go_num, by rw [hms.out], hnx.trans (hb1.mono sz)⟩
        case measure => have := HK.out; simp [intOf]; omega
      · have f3 : ((k : Int) == 3) = false := by rw [beq_eq_false_iff_ne]; omega
        have f7 : ((k : Int) == 7) = false := by rw [beq_eq_false_iff_ne]; omega
        have f11 : ((k : Int) == 11) = false := by rw [beq_eq_false_iff_ne]; omega
        have f15 : ((k : Int) == 15) = false := by rw [beq_eq_false_iff_ne]; omega
        have f4 : ((k : Int) == 4) = false := by rw [beq_eq_false_iff_ne]; omega
        have f8 : ((k : Int) == 8) = false := by rw [beq_eq_false_iff_ne]; omega
        have f12 : ((k : Int) == 12) = false := by rw [beq_eq_false_iff_ne]; omega
        have hyy : x = y := by rw [htr, if_neg (by omega), if_neg (by omega)]
        subst hyy
        clear c1 c2 c3 c4 c5 c6 c7
        clear htr hy hlt hkb hd
        go_wp2_with (go_at_call 47; (with_reducible refine (hch _).mono ?_); rintro e w1 ⟨rfl, hb1⟩)
        go_roundw
        case rel => exact ⟨k + 1, HK.out, by go_num, by rw [hms.out], hnx.trans (hb1.mono sz)⟩
        case measure => have := HK.out; simp [intOf]; omega
    · obtain rfl : k = 16 := by omega
      have hMs : (tx (mkl 16 fun j => tr j (tb key j))).size = 16 := trim_size key
      have hr : N (trim key) < 67108864 ^ 5 := by
        have := N_lt (trim key)
        rw [trim_size] at this
        rw [pow5]
        have e : (256 : Nat) ^ 16 = 340282366920938463463374607431768211456 := by decide
        omega
      have f1 := longOf_any (trim key) (by rw [trim_size]; decide) hr
      obtain ⟨R, hR⟩ : ∃ R, N (trim key) = R := ⟨_, rfl⟩
      have hd1 := dg_length 8192 10 R
      rw [hR] at f1 hr
      have hM : (tx (mkl 16 fun j => tr j (tb key j))) = trim key := rfl
      rw [hM]
      have HR : Shut (N (trim key) = R) := ⟨hR⟩
      obtain ⟨M, hMe⟩ : ∃ M, trim key = M := ⟨_, rfl⟩
      rw [hMe] at f1
      rw [hMe]
      obtain ⟨RR, hRR⟩ : ∃ RR, dg 8192 10 R = RR := ⟨_, rfl⟩
      rw [hRR] at f1 hd1
      have HRR : Shut (dg 8192 10 R = RR) := ⟨hRR⟩
      clear hMs hM hMe hRR hR
      go_wp2_with (first
        | (go_at_call 61; (with_reducible refine (f1 _).mono ?_); rintro e w5 ⟨rfl, hb5⟩; have hB3 : Arr ((w5.alloc (.cells (wu z10).toArray 63)).alloc (.cells (wu z10).toArray 63)) w5.heap.size 63 z10 := (Arr.new w5 63 z10).alloc _; have hB4 : Arr ((w5.alloc (.cells (wu z10).toArray 63)).alloc (.cells (wu z10).toArray 63)) (w5.heap.size + 1) 63 z10 := (by have h := Arr.new (w5.alloc (.cells (wu z10).toArray 63)) 63 z10; rw [World.size_alloc] at h; exact h))
        | (refine wpList_store_arr rfl 63 (.tmp 9) (.tmp 53) rfl w5.heap.size RR rfl rfl hB3 (by rw [hd1]; rfl) infoLG ?_; intro W3 hW3)
        | (refine wpList_store_arr rfl 63 (.tmp 10) (.tmp 54) rfl (w5.heap.size + 1) z10 rfl rfl (hW3.other _ _ _ (by omega) hB4) rfl infoLG ?_; intro W4 hW4))
      have hR4 := hW4.other _ _ _ (by omega) hW3.arr
      have hA4 := hW4.arr
      have hwr := hnx.size
      have hw5 := hb5.size
      have hX4 : Below w.heap.size w W4 := hW4.below _ _ (by omega) (hW3.below _ _ (by omega) (((hnx.trans (hb5.mono hwr)).alloc (by omega) _).alloc (by simp; omega) _))
      have h3w : w.heap.size ≤ w5.heap.size := by omega
      obtain ⟨b3, hb3⟩ : ∃ b3, w5.heap.size = b3 := ⟨_, rfl⟩
      have HB3 : Hid (w5.heap.size = b3) := hb3
      rw [hb3] at hR4 hA4 h3w
      rw [hb3]
      clear hB3 hB4 hW3 hW4 f1 hnx hwr hw5 hb5 hb3
      simp only [Act.put]
      go_loopw [1] (fun tv wq => ∃ (k u : Nat), k ≤ nbk s ∧ tv = .string (dr s (16 * k)) ∧ u < 67108864 ^ 5 ∧ u % P = acc R s k ∧ Arr wq (b3 + 1) 63 (dg 8192 10 u) ∧ Arr wq b3 63 RR ∧ Below w.heap.size w wq) (fun tv _ => szOf tv)
      case atStart => exact ⟨0, 0, Nat.zero_le _, by rw [Nat.mul_zero, dr_0], by decide, rfl, hA4, hR4, hX4⟩
      case round =>
        clear hR4 hA4 hX4
        obtain ⟨k, u, hk, rfl, hu, hup, hA, hR, hnx⟩ := hrel
        have hts := dr_size s (16 * k)
        have hsz := hnx.size
        have hl1 := hA.lt
        have hl2 := hR.lt
        have hdu := dg_length 8192 10 u
        by_cases hlt : 0 < (dr s (16 * k)).size
        · have hx5 : N (piece s k) < 67108864 ^ 5 := by rw [pow5]; have := piece_lt s k; omega
          have hn := nxtR_eq hu hx5 hr
          have hstep := step_acc hup hn.1
          have f1 := longOf_any (piece s k) (piece_size s k) hx5
          have f2 := plus_any (dg 8192 10 u) (dg 8192 10 (N (piece s k))) hdu (dg_length _ _ _) (dg10_le u) (dg10_le _)
          rw [val_dg, val_dg, pow10, Nat.mod_eq_of_lt hu, Nat.mod_eq_of_lt hx5] at f2
          have f3 := times_any (dg 8192 10 (fin (u + N (piece s k)))) (dg 8192 10 R) (dg_length _ _ _) (dg_length _ _ _) (dg10_le _) (dg10_le R)
          have HN : Hid (mulR (dg 8192 10 (fin (u + N (piece s k)))) RR < 67108864 ^ 5 ∧ mulR (dg 8192 10 (fin (u + N (piece s k)))) RR % P = acc R s (k + 1) ∧ k + 1 ≤ nbk s) := by
            rw [← HRR.out]
            exact ⟨hn.2, hstep, by unfold nbk; omega⟩
          rw [HRR.out] at f3
          have hdv := dg_length 8192 10 (mulR (dg 8192 10 (fin (u + N (piece s k)))) RR)
          generalize mulR (dg 8192 10 (fin (u + N (piece s k)))) RR = v at *
          generalize dg 8192 10 (fin (u + N (piece s k))) = L at *
          generalize dg 8192 10 (N (piece s k)) = X at *
          obtain ⟨VV, hVV⟩ : ∃ VV, dg 8192 10 v = VV := ⟨_, rfl⟩
          rw [hVV] at hdv f3
          have HVV : Shut (dg 8192 10 v = VV) := ⟨hVV⟩
          obtain ⟨U, hU⟩ : ∃ U, dg 8192 10 u = U := ⟨_, rfl⟩
          rw [hU] at hA hdu f2
          have hpc : (dr s (16 * k)).extract 0 (min 16 (dr s (16 * k)).size) ++ ⟨#[1]⟩ = piece s k := rfl
          generalize piece s k = PC at *
          have hcs : ((dr s (16 * k)).extract 0 (min 16 (dr s (16 * k)).size)).size ≤ 16 := by rw [ByteArray.size_extract]; omega
          have hnn : min 16 (dr s (16 * k)).size ≤ (dr s (16 * k)).size := Nat.min_le_right _ _
          have s1 := cv.sl_to (dr s (16 * k)) _ hnn
          have hnx2 : dr (dr s (16 * k)) (min 16 (dr s (16 * k)).size) = dr s (16 * (k + 1)) := by
            rw [dr_dr]
            by_cases c : 16 ≤ (dr s (16 * k)).size
            · rw [Nat.min_eq_left c, show 16 * (k + 1) = 16 * k + 16 from by omega]
            · rw [Nat.min_eq_right (by omega)]
              exact ghs.dr_end s _ _ (by omega) (by omega)
          have s2 := cv.sl_from (dr s (16 * k)) _ hnn
          rw [show (dr s (16 * k)).extract (min 16 (dr s (16 * k)).size) (dr s (16 * k)).size = dr s (16 * (k + 1)) from hnx2] at s2
          have hms : Hid ((dr s (16 * (k + 1))).size < (dr s (16 * k)).size) := by
            show _ < _
            rw [dr_size, dr_size] at *
            omega
          obtain ⟨T0, hT0⟩ : ∃ T0, dr s (16 * k) = T0 := ⟨_, rfl⟩
          rw [hT0] at s1 s2 hpc hcs hlt hnn hms
          rw [hT0]
          obtain ⟨T1, hT1⟩ : ∃ T1, dr s (16 * (k + 1)) = T1 := ⟨_, rfl⟩
          rw [hT1] at s2 hms
          have HT1 : Hid (dr s (16 * (k + 1)) = T1) := hT1
          obtain ⟨n, hm⟩ : ∃ n, min 16 T0.size = n := ⟨_, rfl⟩
          rw [hm] at s1 s2 hpc hcs hnn
          obtain ⟨X0, hX0⟩ : ∃ X0, T0.extract 0 n = X0 := ⟨_, rfl⟩
          rw [hX0] at s1 hpc hcs
          have n0 : T0.toList.isEmpty = false := by
            rw [List.isEmpty_eq_false_iff, ByteArray.toList_eq]
            intro e
            have := congrArg List.length e
            rw [Array.length_toList, List.length_nil] at this
            have h0 : T0.data.size = T0.size := rfl
            omega
          have HPC : Hid (n = T0.size → T0 ++ ⟨#[1]⟩ = PC) := by
            show n = T0.size → _
            intro h
            have e : X0 = T0 := by rw [← hX0, h]; exact ByteArray.extract_zero_size
            rw [← e]
            exact hpc
          have hne := Up.some wr
          have F0 : Hid (∀ z : Up wr, Calls Try.prog 47 #[.int .i64 1] z.1 fun e w' => e = .returned (.string ⟨#[1]⟩) ∧ Below z.1.heap.size z.1 w') := fun z => chr1 z.1
          have F1 : Hid (∀ z : Up wr, Calls Try.prog 61 #[.string PC] z.1 fun e w' => e = .returned (.agg (wu X).toArray) ∧ Below z.1.heap.size z.1 w') := fun z => f1 z.1
          have F2 : Hid (∀ z : Up wr, Calls Try.prog 62 #[.agg (wu U).toArray, .agg (wu X).toArray] z.1 fun e w' => e = .returned (.agg (wu L).toArray) ∧ Below z.1.heap.size z.1 w') := fun z => f2 z.1
          have F3 : Hid (∀ z : Up wr, Calls Try.prog 63 #[.agg (wu L).toArray, .agg (wu RR).toArray] z.1 fun e w' => e = .returned (.agg (wu VV).toArray) ∧ Below z.1.heap.size z.1 w') := fun z => f3 z.1
          have HM : Hid (min 16 T0.size = n) := hm
          have q1 : ∀ y : Up wr, y.1.rangeAt (b3 + 1) 0 (wu U) := fun y => (hA.below y.2 hl1).range 0 (wu U) (by simp)
          have q2 : ∀ y : Up wr, y.1.rangeAt b3 0 (wu RR) := fun y => (hR.below y.2 hl2).range 0 (wu RR) (by simp)
          clear hm hT0 hT1 hX0 f1 f2 f3 hnx2 hx5 hn hstep hts hr hu hup hk hlt
          clear hU hVV
          go_wp2_with fail
          · obtain ⟨ni, hni⟩ : ∃ ni : Int, ni = (n : Int) := ⟨_, rfl⟩
            rw [← hni] at s1 s2
            obtain rfl : ni = (T0.size : Int) := by have := HM.out; omega
            clear hni hnn
            have hpc2 : T0 ++ ⟨#[1]⟩ = PC := HPC.out (by have := HM.out; omega)
            refine wp_region_tail 10 (by kernel_rfl) (by kernel_rfl) ?_
            simp only [List.take_succ_cons, List.take_zero, List.drop_succ_cons, List.drop_zero]
            repeat (first
              | (refine wpQuiet_load rfl 63 (.tmp 10) rfl (b3 + 1) 0 rfl (wu U) _ q1 Try.underlying63 rfl (by rw [wu_length, hdu]; exact infoLG) ?_; simp only [Act.put, List.setIfInBounds_toArray, List.set_cons_succ, List.set_cons_zero])
              | (refine wpQuiet_load rfl 63 (.tmp 9) rfl b3 0 rfl (wu RR) _ q2 Try.underlying63 rfl (by rw [wu_length, hd1]; exact infoLG) ?_; simp only [Act.put, List.setIfInBounds_toArray, List.set_cons_succ, List.set_cons_zero])
              | (go_big_quiet_step (with_reducible (first | exact calls_up (F0.out _) | exact calls_up (F1.out _) | exact calls_up (F2.out _) | exact calls_up (F3.out _)))))
            refine wpQuiet_nil ?_
            rintro w1 ⟨y1, rfl⟩
            have hA1 := hA.below y1.2 hl1
            have hR1 := hR.below y1.2 hl2
            have hX1 := hnx.trans (y1.2.mono hsz)
            refine wpList_store_arr rfl 63 (.tmp 10) (.tmp 69) rfl (b3 + 1) VV rfl rfl hA1 (by rw [hdv, hdu]) (by rw [hdu]; exact infoLG) ?_
            intro W5 hW5
            go_wp2_with fail
            go_roundw
            case rel => exact ⟨k + 1, v, HN.out.2.2, by rw [HT1.out], HN.out.1, HN.out.2.1, by rw [HVV.out]; exact hW5.arr, hW5.other _ _ _ (by omega) hR1, hW5.below _ _ (by omega) hX1⟩
            case measure => exact hms
          · obtain ⟨ni, hni⟩ : ∃ ni : Int, ni = (n : Int) := ⟨_, rfl⟩
            rw [← hni] at s1 s2
            obtain rfl : ni = 16 := by have := HM.out; omega
            clear hni hnn
            refine wp_region_tail 10 (by kernel_rfl) (by kernel_rfl) ?_
            simp only [List.take_succ_cons, List.take_zero, List.drop_succ_cons, List.drop_zero]
            repeat (first
              | (refine wpQuiet_load rfl 63 (.tmp 10) rfl (b3 + 1) 0 rfl (wu U) _ q1 Try.underlying63 rfl (by rw [wu_length, hdu]; exact infoLG) ?_; simp only [Act.put, List.setIfInBounds_toArray, List.set_cons_succ, List.set_cons_zero])
              | (refine wpQuiet_load rfl 63 (.tmp 9) rfl b3 0 rfl (wu RR) _ q2 Try.underlying63 rfl (by rw [wu_length, hd1]; exact infoLG) ?_; simp only [Act.put, List.setIfInBounds_toArray, List.set_cons_succ, List.set_cons_zero])
              | (go_big_quiet_step (with_reducible (first | exact calls_up (F0.out _) | exact calls_up (F1.out _) | exact calls_up (F2.out _) | exact calls_up (F3.out _)))))
            refine wpQuiet_nil ?_
            rintro w1 ⟨y1, rfl⟩
            have hA1 := hA.below y1.2 hl1
            have hR1 := hR.below y1.2 hl2
            have hX1 := hnx.trans (y1.2.mono hsz)
            refine wpList_store_arr rfl 63 (.tmp 10) (.tmp 69) rfl (b3 + 1) VV rfl rfl hA1 (by rw [hdv, hdu]) (by rw [hdu]; exact infoLG) ?_
            intro W5 hW5
            go_wp2_with fail
            go_roundw
            case rel => exact ⟨k + 1, v, HN.out.2.2, by rw [HT1.out], HN.out.1, HN.out.2.1, by rw [HVV.out]; exact hW5.arr, hW5.other _ _ _ (by omega) hR1, hW5.below _ _ (by omega) hX1⟩
            case measure => exact hms
        · have hkn : k = nbk s := by unfold nbk at *; omega
          have n0 : (dr s (16 * k)).toList.isEmpty = true := by
            rw [List.isEmpty_iff, ByteArray.toList_eq]
            apply List.eq_nil_of_length_eq_zero
            rw [Array.length_toList]
            show (dr s (16 * k)).size = 0
            omega
          rw [hkn] at hup
          have HLow := low_eq u hu
          rw [hup] at HLow
          have hAP := acc_lt R s (nbk s)
          have HAcc : Shut (acc R s (nbk s) = acc (N (trim key)) s (nbk s)) := ⟨by rw [HR.out]⟩
          obtain ⟨A, hAe⟩ : ∃ A, acc R s (nbk s) = A := ⟨_, rfl⟩
          rw [hAe] at HLow hAP HAcc
          clear hup hk hkn hts hlt hAe
          generalize dr s (16 * k) = T0 at *
          have HU5 : Shut (val 8192 (dg 8192 10 u) = u) := ⟨by rw [val_dg, pow10, Nat.mod_eq_of_lt hu]⟩
          have HU8 := dg10_le u
          obtain ⟨U, hU⟩ : ∃ U, dg 8192 10 u = U := ⟨_, rfl⟩
          rw [hU] at hA hdu HU5 HU8
          have HUU : Shut (dg 8192 10 u = U ∧ u < 67108864 ^ 5 ∧ ((u + 5) / 67108864 ^ 5 = 0 → A = u) ∧ ((u + 5) / 67108864 ^ 5 ≠ 0 → A = (u + 5) % 67108864 ^ 5) ∧ A < P) := ⟨hU, hu, HLow.1, HLow.2, hAP⟩
          clear hU hu HLow hAP hr
          have hN1 := Arr.new wr 63 z10
          have hA1 := hA.alloc (.cells (wu z10).toArray 63)
          have hX1 := hnx.alloc hsz (.cells (wu z10).toArray 63)
          obtain ⟨g, hg⟩ : ∃ g, g = wr.heap.size := ⟨_, rfl⟩
          rw [← hg] at hN1
          have gl : b3 + 1 < g := by omega
          have HG : Shut (wr.heap.size = g) := ⟨hg.symm⟩
          clear hg hnx hsz hl1 hl2 hR
          go_wp2_with (first | (refine wpList_load_arr rfl 63 (.tmp 10) rfl (b3 + 1) rfl hA _ Try.underlying63 rfl (by rw [hdu]; exact infoLG) ?_) | (refine wpList_store_arr rfl 63 (.tmp 12) (.tmp 73) rfl g U (by rw [← HG.out]; rfl) rfl hN1 (by rw [hdu]; rfl) infoLG ?_; intro W2 hW2))
          rw [HG.out]
          have hA2 := hW2.other _ _ _ (by omega) hA1
          have hM2 := hW2.arr
          have hX2 := hW2.below _ _ (by omega) hX1
          clear hN1 hA1 hX1 hW2 hA
          try simp only [Act.put]
          go_loopw [13, 74] (fun c i wq => ∃ k : Nat, k ≤ 10 ∧ i = .int .i64 k ∧ c = .int .u64 ((cout 8192 (U.take k) 5 : Nat) : Int) ∧ Arr wq g 63 (carry 8192 (U.take k) 5 ++ U.drop k) ∧ Arr wq (b3 + 1) 63 U ∧ Below w.heap.size w wq) (fun _ i _ => 10 - (intOf i).toNat)
          case atStart => exact ⟨0, by omega, rfl, rfl, hM2, hA2, hX2⟩
          case round =>
            clear hM2 hA2 hX2
            obtain ⟨k, hk, rfl, rfl, hM, hA, hnx⟩ := hrel
            by_cases hlt : k < 10
            · have HST := carry_step (B := 8192) (by decide) U U 5 k (by omega) rfl
              have hcl : (carry 8192 (U.take k) 5).length = k := by rw [carry_length (by decide), List.length_take]; omega
              have hc := hM.cell k (by rw [part_length _ _ _ hcl (by omega)]; omega)
              have hf := hM.frozen k
              rw [part_getD _ _ _ hcl] at hc
              have ba := getD_le HU8 k
              have bc : cout 8192 (U.take k) 5 ≤ 5 := cout_le (by decide) 5 _ _ (fun a ha => by have := HU8 a (List.mem_of_mem_take ha); omega) (by omega)
              clear hcl
              generalize U.getD k 0 = a at *
              generalize cout 8192 (U.take k) 5 = c at *
              have HS : Shut _ := ⟨HST⟩
              clear HST
              obtain ⟨x, hx⟩ : ∃ x, x = a + c := ⟨_, rfl⟩
              rw [← hx] at HS
              have e1 : IntKind.u64.wrap ((a : Int) + (c : Int)) = (x : Int) := by rw [show (a : Int) + (c : Int) = (x : Int) from by omega]; exact wrap64u x (by omega)
              have e2 : (x : Int) % 8192 = ((x % 8192 : Nat) : Int) := by omega
              have e3 : (x : Int) / 8192 = ((x / 8192 : Nat) : Int) := by omega
              have e4 : IntKind.u64.wrap ((x / 8192 : Nat) : Int) = ((x / 8192 : Nat) : Int) := wrap64u _ (by omega)
              generalize x % 8192 = y at *
              generalize x / 8192 = z at *
              have kz : (k : Int) < 10 := by omega
              have k0 : (0 : Int) ≤ (k : Int) := by omega
              have HK : Hid (k < 10) := hlt
              have HH : Shut (∀ a ∈ U, a ≤ 8191) := ⟨HU8⟩
              clear hx ba bc HU8 hlt
              go_wp2_with fail
              go_roundw
              case rel => exact ⟨k + 1, HK.out, by go_num, by rw [HS.out.2], by rw [← HS.out.1]; exact hM.set k _, hA.other (by simp; omega) _, hnx.setCell (by simp; omega) _⟩
              case measure => have := HK.out; simp [intOf]; omega
            · obtain rfl : k = 10 := by omega
              rw [List.take_of_length_le (by omega), List.drop_of_length_le (by omega), List.append_nil, carry_dg (by decide), hdu, HU5.out] at hM
              rw [List.take_of_length_le (by omega), cout_eq (by decide), hdu, HU5.out]
              have HE : Shut (dg 8192 10 (A % 67108864 ^ 5) = dg 8192 10 A ∧ ((u + 5) / 8192 ^ 10 = 0 → U = dg 8192 10 A) ∧ ((u + 5) / 8192 ^ 10 ≠ 0 → dg 8192 10 (u + 5) = dg 8192 10 A)) := by
                have h := HUU.out
                rw [pow10]
                refine ⟨⟨?_, fun e => ?_, fun e => ?_⟩⟩
                · rw [Nat.mod_eq_of_lt (by have := h.2.2.2.2; rw [pow5]; unfold P at this; omega)]
                · rw [h.2.2.1 e, h.1]
                · rw [h.2.2.2.1 e, ← pow10, dg_mod (by decide) _ _ _ (Nat.le_refl _)]
              have hdE := dg_length 8192 10 (u + 5)
              obtain ⟨E, hEE⟩ : ∃ E, dg 8192 10 (u + 5) = E := ⟨_, rfl⟩
              rw [hEE] at hM hdE HE
              obtain ⟨AA, hAA⟩ : ∃ AA, dg 8192 10 A = AA := ⟨_, rfl⟩
              have hdA : AA.length = 10 := by rw [← hAA]; exact dg_length _ _ _
              have hAle : ∀ a ∈ AA, a ≤ 8191 := by rw [← hAA]; exact dg10_le A
              have hAv : val 8192 AA = A := by
                have := HUU.out.2.2.2.2
                rw [← hAA, val_dg, pow10, Nat.mod_eq_of_lt (by rw [pow5]; unfold P at this; omega)]
              rw [hAA] at HE
              obtain ⟨cc, hcc⟩ : ∃ cc, (u + 5) / 8192 ^ 10 = cc := ⟨_, rfl⟩
              rw [hcc] at HE
              rw [hcc]
              have h16 : (key.extract 16 key.size).size = 16 := by rw [ByteArray.size_extract]; omega
              have hnlt : N (key.extract 16 key.size) < 67108864 ^ 5 := by
                have := N_lt (key.extract 16 key.size)
                rw [h16] at this
                rw [pow5]
                have e : (256 : Nat) ^ 16 = 340282366920938463463374607431768211456 := by decide
                omega
              have f4 := longOf_any (key.extract 16 key.size) (by omega) hnlt
              have s3 : ∀ u : World, (Instr.slice 9 (.string key) (some (.int .i64 16)) none none).run Try.prog u = .ok (.string (key.extract 16 key.size)) u := cv.sl_from key 16 (by omega)
              obtain ⟨NN, hNN⟩ : ∃ NN, dg 8192 10 (N (key.extract 16 key.size)) = NN := ⟨_, rfl⟩
              have hdN : NN.length = 10 := by rw [← hNN]; exact dg_length _ _ _
              have hNle : ∀ a ∈ NN, a ≤ 8191 := by rw [← hNN]; exact dg10_le _
              have hNv : val 8192 NN = N (key.extract 16 key.size) := by rw [← hNN, val_dg, pow10, Nat.mod_eq_of_lt hnlt]
              rw [hNN] at f4
              have HV : Shut (val 8192 (plusL AA NN) = tagN key s) := ⟨by
                rw [val_plus _ _ _ (by omega), hAv, hNv, HAcc.out]
                rfl⟩
              have HS0 : Shut (∀ k, k < 10 → (plusL AA NN).getD k 0 = AA.getD k 0 + NN.getD k 0) := ⟨fun k hk => plusL_get AA NN k (by omega) (by omega)⟩
              have HS1 : Shut ((plusL AA NN).length = 10 ∧ ∀ a ∈ plusL AA NN, a ≤ 16382) := ⟨by rw [plusL_length _ _ (by omega), hdA], plusL_le (by omega) hAle hNle⟩
              have HTg : Shut (T 16 (tagN key s) = tag key s) := ⟨rfl⟩
              generalize tagN key s = v at *
              generalize plusL AA NN = S at *
              generalize key.extract 16 key.size = K2 at *
              have HLe : Shut ((∀ a ∈ AA, a ≤ 8191) ∧ ∀ a ∈ NN, a ≤ 8191) := ⟨hAle, hNle⟩
              have sz := hnx.size
              have hl1 := hA.lt
              have hl2 := hM.lt
              clear hEE hAA hcc h16 hnlt hNN hAle hNle hAv hNv HUU HAcc HU5 HU8
              by_cases c0 : cc = 0
              case' pos =>
                have HUA := HE.out.2.1 c0
                subst c0
                rw [HUA] at hA
                clear HE HUA
                go_wp2_with (first
                  | (go_at_call 61; (with_reducible refine (f4 _).mono ?_); rintro e w5 ⟨rfl, hb5⟩; have hN5 := Arr.new w5 63 z10)
                  | (refine wpList_store_arr rfl 63 (.tmp 16) (.tmp 94) rfl w5.heap.size NN rfl rfl hN5 (by rw [hdN]; rfl) infoLG ?_; intro W6 hW6))
                have h5 := hb5.size
                have hA6 := hW6.other _ _ _ (by omega) ((hA.below hb5 hl1).alloc (.cells (wu z10).toArray 63))
                have hN6 := hW6.arr
                have hX6 := hW6.below _ _ (by omega) ((hnx.trans (hb5.mono sz)).alloc (by omega) (.cells (wu z10).toArray 63))
                have h5w : b3 + 1 < w5.heap.size := by omega
                clear hA hM hnx hb5 hW6 hN5 hl1 hl2 f4 s3 h5
              case' neg =>
                have c1 : (0 : Int) < (cc : Int) := by omega
                have HEA := HE.out.2.2 c0
                rw [HEA] at hM hdE
                clear HE HEA
                go_wp2_with (first
                  | (refine wpList_load_arr rfl 63 (.tmp 12) rfl g rfl hM _ Try.underlying63 rfl (by rw [hdE]; exact infoLG) ?_)
                  | (refine wpList_store_arr rfl 63 (.tmp 10) (.tmp 91) rfl (b3 + 1) AA rfl rfl hA (by rw [hdA, hdu]) (by rw [hdu]; exact infoLG) ?_; intro W3 hW3)
                  | (go_at_call 61; (with_reducible refine (f4 _).mono ?_); rintro e w5 ⟨rfl, hb5⟩; have hN5 := Arr.new w5 63 z10)
                  | (refine wpList_store_arr rfl 63 (.tmp 16) (.tmp 94) rfl w5.heap.size NN rfl rfl hN5 (by rw [hdN]; rfl) infoLG ?_; intro W6 hW6))
                have hs3 := hW3.size
                have h5 := hb5.size
                have hA6 := hW6.other _ _ _ (by omega) ((hW3.arr.below hb5 (by omega)).alloc (.cells (wu z10).toArray 63))
                have hN6 := hW6.arr
                have hX6 := hW6.below _ _ (by omega) (((hW3.below _ _ (by omega) hnx).trans (hb5.mono (by omega))).alloc (by omega) (.cells (wu z10).toArray 63))
                have h5w : b3 + 1 < w5.heap.size := by omega
                clear hA hM hnx hb5 hW6 hN5 hl1 hl2 f4 s3 hW3 hs3 hdE c1 c0 h5
              all_goals
                obtain ⟨g6, hg6⟩ : ∃ g6, w5.heap.size = g6 := ⟨_, rfl⟩
                rw [hg6] at hN6 h5w
                rw [hg6]
                clear hg6 hdu sz
                go_loopw [13, 17, 18, 19, 95] (fun c o b m i wq => ∃ k : Nat, k ≤ 10 ∧ i = .int .i64 k ∧ c = .int .u64 ((cout 8192 (S.take k) 0 : Nat) : Int) ∧ o = .string (T (13 * k / 8) (v % 2 ^ (13 * k))) ∧ b = .int .u64 ((v % 2 ^ (13 * k) / 256 ^ (13 * k / 8) : Nat) : Int) ∧ m = .int .i64 ((13 * k % 8 : Nat) : Int) ∧ Arr wq (b3 + 1) 63 AA ∧ Arr wq g6 63 NN ∧ Below w.heap.size w wq) (fun _ _ _ _ i _ => 10 - (intOf i).toNat)
                case atStart => exact ⟨0, by omega, rfl, rfl, rfl, by rw [show v % 2 ^ (13 * 0) = 0 from Nat.mod_one v]; rfl, rfl, hA6, hN6, hX6⟩
                case round =>
                  clear hA6 hN6 hX6
                  obtain ⟨k, hk, rfl, rfl, rfl, rfl, rfl, hA, hN, hnx⟩ := hrel
                  by_cases hlt : k < 10
                  · have hc1 := hA.cell k (by omega)
                    have hc2 := hN.cell k (by omega)
                    have ba := getD_le HLe.out.1 k
                    have bb := getD_le HLe.out.2 k
                    have bc : cout 8192 (S.take k) 0 ≤ 5 := cout_le (by decide) 5 _ _ (fun a ha => by have := HS1.out.2 a (List.mem_of_mem_take ha); omega) (by omega)
                    have hsp := sum_piece S k HS1.out.1 hlt
                    rw [HS0.out k hlt, HV.out] at hsp
                    obtain ⟨hbl, hbs⟩ := bits_step v k
                    have hos := out_same v k (13 * k / 8) (by omega)
                    rw [hos]
                    have hVl : v % 2 ^ (13 * (k + 1)) < 2 ^ (13 * (k + 1)) := Nat.mod_lt _ (Nat.pow_pos (by decide))
                    obtain ⟨V, hV⟩ : ∃ V, v % 2 ^ (13 * (k + 1)) = V := ⟨_, rfl⟩
                    rw [hV] at hbs hos hVl
                    rw [hV]
                    obtain ⟨m0, hm0⟩ : ∃ m0, 13 * k % 8 = m0 := ⟨_, rfl⟩
                    obtain ⟨L0, hL0⟩ : ∃ L0, 13 * k / 8 = L0 := ⟨_, rfl⟩
                    rw [hm0, hL0] at hbl hbs
                    rw [hL0] at hos
                    rw [hm0, hL0]
                    obtain ⟨d, hd⟩ : ∃ d, v / 8192 ^ k % 8192 = d := ⟨_, rfl⟩
                    rw [hd] at hbs hsp
                    have hdl : d < 8192 := by rw [← hd]; exact Nat.mod_lt _ (by decide)
                    obtain ⟨B0, hB0⟩ : ∃ B0, v % 2 ^ (13 * k) / 256 ^ L0 = B0 := ⟨_, rfl⟩
                    rw [hB0] at hbl hbs
                    rw [hB0]
                    obtain ⟨B1, hB1⟩ : ∃ B1, V / 256 ^ L0 = B1 := ⟨_, rfl⟩
                    rw [hB1] at hbs
                    obtain ⟨q, hq⟩ : ∃ q, q = d * 2 ^ m0 := ⟨_, rfl⟩
                    rw [← hq] at hbs
                    have hm8 : m0 < 8 := by omega
                    have hp7 : 2 ^ m0 ≤ 2 ^ 7 := Nat.pow_le_pow_right (by decide) (by omega)
                    have hql : q ≤ 8191 * 2 ^ 7 := by rw [hq]; exact Nat.mul_le_mul (by omega) hp7
                    have hB0l : B0 < 128 := Nat.lt_of_lt_of_le hbl hp7
                    generalize AA.getD k 0 = a at *
                    generalize NN.getD k 0 = b at *
                    obtain ⟨c, hc⟩ : ∃ c, cout 8192 (S.take k) 0 = c := ⟨_, rfl⟩
                    rw [hc] at bc hsp
                    rw [hc]
                    obtain ⟨x, hx⟩ : ∃ x, a + b + c = x := ⟨_, rfl⟩
                    rw [hx] at hsp
                    obtain ⟨y, hy⟩ : ∃ y, x / 8192 = y := ⟨_, rfl⟩
                    rw [hy] at hsp
                    obtain ⟨ab, hab⟩ : ∃ ab, a + b = ab := ⟨_, rfl⟩
                    have e1 : IntKind.u64.wrap ((a : Int) + (b : Int)) = (ab : Int) := by rw [show (a : Int) + (b : Int) = (ab : Int) from by omega]; exact wrap64u ab (by omega)
                    have e2 : IntKind.u64.wrap ((ab : Int) + (c : Int)) = (x : Int) := by rw [show (ab : Int) + (c : Int) = (x : Int) from by omega]; exact wrap64u x (by omega)
                    have e3 : (x : Int) / 8192 = (y : Int) := by omega
                    have e4 : (x : Int) % 8192 = (d : Int) := by have := hsp.1; omega
                    have e5 : IntKind.u64.wrap (y : Int) = (y : Int) := wrap64u y (by omega)
                    have e6 : IntKind.u64.wrap ((d : Int) * 2 ^ m0) = (q : Int) := by
                      rw [show (d : Int) * 2 ^ m0 = (q : Int) from by rw [hq]; simp]; exact wrap64u q (by omega)
                    have e7 : bits .or .u64 (B0 : Int) (q : Int) = (B1 : Int) := by
                      rw [or64 B0 q (by omega) (by omega), hq, or_add B0 d m0 hbl, ← hq, hbs]
                    have e8 : IntKind.u64.wrap (d : Int) = (d : Int) := wrap64u d (by omega)
                    have x0 : (0 : Int) ≤ (x : Int) := by omega
                    have k0 : (0 : Int) ≤ (k : Int) := by omega
                    have kz : (k : Int) < 10 := by omega
                    have m00 : (0 : Int) ≤ (m0 : Int) := by omega
                    have m01 : (m0 : Int) ≤ 64 := by omega
                    have m02 : (m0 : Int) < 8 := by omega
                    have HC : Shut (cout 8192 (S.take (k + 1)) 0 = y) := ⟨hsp.2⟩
                    have HB : Shut (V / 256 ^ L0 = B1 ∧ V < 2 ^ (13 * (k + 1)) ∧ v % 2 ^ (13 * (k + 1)) = V) := ⟨hB1, hVl, hV⟩
                    have HK : Shut (k < 10 ∧ 13 * k % 8 = m0 ∧ 13 * k / 8 = L0) := ⟨hlt, hm0, hL0⟩
                    obtain ⟨O0, hO0⟩ : ∃ O0, T L0 V = O0 := ⟨_, rfl⟩
                    have HO : Shut (T L0 V = O0) := ⟨hO0⟩
                    rw [hO0]
                    clear ba bb bc hsp hbl hbs hos hVl hV hm0 hL0 hd hdl hB0 hB1 hq hm8 hp7 hql hB0l hc hx hy hab hO0 hlt hk
                    go_wp2_with fail
                    go_region
                    all_goals
                      go_wp2_with fail
                      rw [e4]
                      clear e1 e2 e3 e4 e5 e6 e7 e8
                      go_loopw [17, 18, 19] (fun o b m wq => ∃ L : Nat, 13 * k / 8 ≤ L ∧ 8 * L ≤ 13 * (k + 1) ∧ o = .string (T L V) ∧ b = .int .u64 ((V / 256 ^ L : Nat) : Int) ∧ m = .int .i64 ((13 * (k + 1) - 8 * L : Nat) : Int) ∧ Arr wq (b3 + 1) 63 AA ∧ Arr wq g6 63 NN ∧ Below w.heap.size w wq) (fun _ _ m _ => (intOf m).toNat)
                      case atStart => exact ⟨L0, by have := HK.out; omega, by have := HK.out; omega, by rw [HO.out], by rw [HB.out.1], by have := HK.out; rw [show 13 * (k + 1) - 8 * L0 = m0 + 13 from by omega]; go_num, hA, hN, hnx.drew⟩
                      case round =>
                        clear hA hN hnx
                        obtain ⟨L, hLa, hLb, rfl, rfl, rfl, hA, hN, hnx⟩ := hrel
                        have hbl := bits_lt V L (13 * (k + 1)) HB.out.2.1 hLb
                        have hom := out_more V L
                        obtain ⟨m1, hm1⟩ : ∃ m1, 13 * (k + 1) - 8 * L = m1 := ⟨_, rfl⟩
                        rw [hm1] at hbl
                        rw [hm1]
                        have hm20 : m1 ≤ 20 := by have := HK.out; omega
                        have hp20 : 2 ^ m1 ≤ 2 ^ 20 := Nat.pow_le_pow_right (by decide) hm20
                        obtain ⟨b1, hb1⟩ : ∃ b1, V / 256 ^ L = b1 := ⟨_, rfl⟩
                        rw [hb1] at hbl hom
                        rw [hb1]
                        have hbb : b1 < 1048576 := Nat.lt_of_lt_of_le hbl hp20
                        obtain ⟨O1, hO1⟩ : ∃ O1, T L V = O1 := ⟨_, rfl⟩
                        rw [hO1] at hom
                        rw [hO1]
                        have hOs : O1.size = L := by rw [← hO1, T_size]
                        by_cases h8 : 8 ≤ m1
                        · have hLs : 13 * (k + 1) ≤ 130 := by have := HK.out; omega
                          obtain ⟨z, hz⟩ : ∃ z, b1 % 256 = z := ⟨_, rfl⟩
                          obtain ⟨b2, hb2⟩ : ∃ b2, b1 / 256 = b2 := ⟨_, rfl⟩
                          rw [hz, hb2] at hom
                          have hch := chr8 z (by omega)
                          have hts : (tx [z]).size = 1 := tx_size _
                          generalize tx [z] = Z at *
                          have e1 : (b1 : Int) % 256 = (z : Int) := by omega
                          have e2 : (b1 : Int) / 256 = (b2 : Int) := by omega
                          have e3 : IntKind.u64.wrap (b2 : Int) = (b2 : Int) := wrap64u b2 (by omega)
                          have e4 : IntKind.u64.wrap (z : Int) = (z : Int) := wrap64u z (by omega)
                          have g1 : (8 : Int) ≤ (m1 : Int) := by omega
                          have g2 : (m1 : Int) ≤ 20 := by omega
                          have z0 : (0 : Int) ≤ (z : Int) := by omega
                          have z1 : (z : Int) < 256 := by omega
                          have Os : O1.size ≤ 17 := by omega
                          have HM : Shut (T (L + 1) V = O1 ++ Z ∧ V / 256 ^ (L + 1) = b2 ∧ 13 * k / 8 ≤ L + 1 ∧ 8 * (L + 1) ≤ 13 * (k + 1) ∧ 13 * (k + 1) - 8 * (L + 1) = m1 - 8 ∧ 8 ≤ m1) := ⟨hom.1, hom.2, by omega, by omega, by omega, h8⟩
                          have sz := hnx.size
                          clear hbl hom hm1 hm20 hp20 hb1 hbb hO1 hOs h8 hLs hz hb2 hLa hLb
                          go_wp2_with (go_at_call 47; (with_reducible refine (hch _).mono ?_); rintro e w9 ⟨rfl, hb9⟩)
                          go_roundw
                          case rel => exact ⟨L + 1, HM.out.2.2.1, HM.out.2.2.2.1, by rw [HM.out.1], by rw [HM.out.2.1], by rw [HM.out.2.2.2.2.1]; have := HM.out.2.2.2.2.2; rw [show ((m1 - 8 : Nat) : Int) = (m1 : Int) - 8 from by omega], hA.below hb9 hA.lt, hN.below hb9 hN.lt, hnx.trans (hb9.mono sz)⟩
                          case measure => have := HM.out.2.2.2.2.2; simp [intOf]; omega
                        · have hLs : 13 * (k + 1) ≤ 130 := by have := HK.out; omega
                          have HM : Shut (13 * (k + 1) / 8 = L ∧ 13 * (k + 1) % 8 = m1 ∧ k + 1 ≤ 10) := ⟨by omega, by omega, by have := HK.out; omega⟩
                          have HO1 : Shut (T L V = O1 ∧ V / 256 ^ L = b1) := ⟨hO1, hb1⟩
                          have g1 : ¬ (8 : Int) ≤ (m1 : Int) := by omega
                          clear hbl hom hm1 hm20 hp20 hb1 hbb hO1 hOs h8 hLs hLa hLb
                          go_wp2_with fail
                          go_roundw
                          case rel => exact ⟨k + 1, HM.out.2.2, by go_num, by rw [HC.out], by rw [HM.out.1, HB.out.2.2, HO1.out.1], by rw [HM.out.1, HB.out.2.2, HO1.out.2], by rw [HM.out.2.1], hA, hN, hnx⟩
                          case measure => have := HM.out.2.2; simp [intOf]; omega
                  · obtain rfl : k = 10 := by omega
                    have hoe := out_end v
                    rw [hoe, HTg.out]
                    have hts : (tag key s).size = 16 := tag_size key s
                    have s4 : ∀ u : World, (Instr.slice 9 (.string (tag key s)) none (some (.int .i64 16)) none).run Try.prog u = .ok (.string (tag key s)) u := fun u => by
                      have h := cv.sl_to (tag key s) 16 (by omega) u
                      have e : (tag key s).extract 0 16 = tag key s := by rw [← hts]; exact ByteArray.extract_zero_size
                      rw [e] at h
                      exact h
                    obtain ⟨G, hG⟩ : ∃ G, tag key s = G := ⟨_, rfl⟩
                    rw [hG] at s4 hts
                    rw [hG]
                    have HG2 : Shut (tag key s = G) := ⟨hG⟩
                    clear hG hoe
                    go_wp2_with fail
                    go_ret2
                    exact ⟨by rw [HG2.out]; rfl, hnx⟩
end Go.Proofs.Ytjcgodojbpfooaa.lon
