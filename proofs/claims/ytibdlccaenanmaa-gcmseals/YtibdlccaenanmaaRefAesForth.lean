/-
  THE WALK OF the document's own Encrypt.
-/
import Derived.Test.YtibdlccaenanmaaRefAesMix
namespace Go.Proofs.Ytibdlccaenanmaa.aes
open Go.RowKit
open Go.Proofs.Ytibdlccaenanmaa.gal

/-- The block ahead of time k. -/
def stF (E B : List Nat) (R k : Nat) : List Nat := if k ≤ R then encS E B (k - 1) else enc E R B
theorem stF_len (E B : List Nat) (R k : Nat) : (stF E B R k).length = 16 := by
  unfold stF
  split
  · cases (k - 1) <;> exact mk_length _ _
  · exact mk_length _ _
theorem stF_ok (E B : List Nat) (hE : Ok E) (hB : Ok B) (R k : Nat) : Ok (stF E B R k) := by
  unfold stF
  split
  · exact encS_ok E B hE hB _
  · exact enc_ok E B R hE
theorem stF_mid (E B : List Nat) (R k : Nat) (h1 : 1 ≤ k) (h : k < R) : stF E B R (k + 1) = xorN 16 (mixN (movN 1 (subN 16 (stF E B R k)))) (rk E k) := by
  unfold stF
  rw [if_pos (by omega), if_pos (by omega)]
  obtain ⟨j, rfl⟩ : ∃ j, k = j + 1 := ⟨k - 1, by omega⟩
  rfl
theorem stF_end (E B : List Nat) (R : Nat) : stF E B R (R + 1) = xorN 16 (movN 1 (subN 16 (stF E B R R))) (rk E R) := by
  unfold stF
  rw [if_neg (by omega), if_pos (Nat.le_refl _)]
  rfl
set_option maxRecDepth 100000 in
set_option maxHeartbeats 3200000 in
theorem forth_any (E : List Nat) (R : Nat) (hR : 1 ≤ R) (hR2 : R ≤ 100) (hE : Ok E) (blk : ByteArray) (hb : blk.size = 16) (sg wg wcap : Nat) (hwc : 4 * (R + 1) ≤ wcap) (w : World) (hT : Tab w sg gsub) (hW : Words w wg (4 * (R + 1)) E) :
    Calls Try.prog 33 #[.agg #[.slice (some ⟨sg, 0, none⟩) 256 256, .slice (some ⟨wg, 0, none⟩) (4 * (R + 1)) wcap], .string blk] w fun e w' => e = .returned (.string (tx (enc E R (nb blk)))) ∧ Below w.heap.size w w' := by
  have hBo := nb_lt blk
  have hBl : (nb blk).length = 16 := by rw [nb_length, hb]
  obtain ⟨N, hN⟩ : ∃ N, N = 4 * (R + 1) := ⟨_, rfl⟩
  rw [← hN] at hwc hW ⊢
  have hkey : ∀ (i : Nat) (W : World), i ≤ R → Below w.heap.size w W → Calls Try.prog 58 #[.agg #[.slice (some ⟨sg, 0, none⟩) 256 256, .slice (some ⟨wg, 0, none⟩) N wcap], .int .i64 (i : Int)] W fun e w' => e = .returned (.string (tx (rk E i))) ∧ Below W.heap.size W w' := fun i W hi hX => key_any _ wg N wcap i E (by omega) hwc (by omega) W (hW.below hX hW.1)
  have hsub : ∀ (A : List Nat) (W : World), A.length = 16 → Ok A → Below w.heap.size w W → Calls Try.prog 57 #[.agg #[.slice (some ⟨sg, 0, none⟩) 256 256, .slice (some ⟨wg, 0, none⟩) N wcap], .string (tx A)] W fun e w' => e = .returned (.string (tx (subN 16 A))) ∧ Below W.heap.size W w' := fun A W hl ho hX => by
    have := rsub_any sg 256 (.slice (some ⟨wg, 0, none⟩) N wcap) (tx A) 16 (by rw [tx_size, hl]) (by decide) W (hT.below hX hT.1)
    rwa [nb_tx A ho] at this
  have hxor : ∀ (A : List Nat) (i : Nat) (W : World), A.length = 16 → Ok A → Calls Try.prog 36 #[.string (tx A), .string (tx (rk E i))] W fun e w' => e = .returned (.string (tx (xorN 16 A (rk E i)))) ∧ Below W.heap.size W w' := fun A i W hl ho => by
    have := xor_any (tx A) (tx (rk E i)) 16 (by rw [tx_size, hl]) (by rw [tx_size, rk, mk_length]; exact Nat.le_refl _) (by decide) W
    rwa [nb_tx A ho, nb_tx _ (rk_ok E i hE)] at this
  obtain ⟨sv, hsv⟩ : ∃ sv : Value, sv = .slice (some ⟨sg, 0, none⟩) 256 256 := ⟨_, rfl⟩
  obtain ⟨wv, hwv⟩ : ∃ wv : Value, wv = .slice (some ⟨wg, 0, none⟩) N wcap := ⟨_, rfl⟩
  rw [← hsv, ← hwv] at hkey hsub ⊢
  have HK : Hid _ := hkey
  have HS : Hid _ := hsub
  have HX : Hid _ := hxor
  clear hkey hsub hxor hT hW hsv
  have td : (N : Int).tdiv 4 = ((R + 1 : Nat) : Int) := by rw [Int.tdiv_eq_ediv_of_nonneg (by omega)]; omega
  obtain ⟨R1, hR1⟩ : ∃ R1, R1 = R + 1 := ⟨_, rfl⟩
  rw [← hR1] at td
  have td2 : (R1 : Int) - 1 = (R : Int) := by omega
  have HWV : Hid (wv = .slice (some ⟨wg, 0, none⟩) N wcap) := hwv
  have hB0 := Blk.new w 56 [sv, wv] _ rfl
  have hX0 : Below w.heap.size w (w.alloc (.cells #[sv, wv] 56)) := (Below.refl _ _).alloc (Nat.le_refl _) _
  obtain ⟨w0, hw0⟩ : ∃ x, x = w.alloc (.cells #[sv, wv] 56) := ⟨_, rfl⟩
  rw [← hw0] at hB0 hX0
  have f0 : Calls Try.prog 58 #[.agg #[sv, wv], .int .i64 0] w0 fun e w' => e = .returned (.string (tx (rk E 0))) ∧ Below w0.heap.size w0 w' := HK.out 0 w0 (by omega) hX0
  have f1 := HX.out (nb blk) 0
  rw [tx_nb] at f1
  have HS0 : Hid (xorN 16 (nb blk) (rk E 0) = stF E (nb blk) R 1) := by
    show _ = _
    unfold stF
    rw [if_pos hR]
    rfl
  rw [HS0.out] at f1
  have HB : Hid (blk.size = 16) := hb
  generalize tx (rk E 0) = K0 at *
  have HR1 : Hid (R1 = R + 1) := hR1
  have HN : Hid (N = 4 * (R + 1)) := hN
  have rb : R1 ≤ 101 := by omega
  have nbd : N ≤ 404 := by omega
  clear hb hN hR1
  have hc0 : w0.cell? ⟨w.heap.size, 1, none⟩ = some (.slice (some ⟨wg, 0, none⟩) N wcap) := by rw [← HWV.out]; exact hB0.cell 1 _ rfl
  have HW0 : Hid (w.alloc (.cells #[sv, wv] 56) = w0) := hw0.symm
  clear hw0 hwv
  obtain ⟨T1, HT1⟩ : ∃ T1, Hid (T1 = tx (stF E (nb blk) R 1)) := ⟨_, rfl⟩
  rw [← HT1.out] at f1
  have hlen : ∀ u, (Builtin.len_ #[54] 3 #[wv]).run Try.prog u = .ok (.int .i64 (N : Int)) u := fun u => by rw [HWV.out]; rfl
  go_enter Try.func33, Try.ntmps33
  go_wp2_with (first
    | (refine wpList_load_blk rfl 56 (.tmp 2) rfl w.heap.size 0 rfl (show Blk (w.alloc (.cells #[sv, wv] 56)) w.heap.size 56 [sv, wv] from Blk.new w 56 [sv, wv] _ rfl) [sv, wv] rfl _ Try.underlying56 rfl infoAES ?_)
    | (go_at_call 58; rw [HW0.out]; refine f0.mono ?_; rintro e w1 ⟨rfl, hb1⟩)
    | (go_at_call 36; refine (f1 _ hBl hBo).mono ?_; rintro e w2 ⟨rfl, hb2⟩))
  have s1 := hX0.trans (hb1.mono hX0.size)
  have hB1 := hB0.below hb1 hB0.lt
  have hX2 := s1.trans (hb2.mono s1.size)
  have hB2 := hB1.below hb2 hB1.lt
  obtain ⟨ab, hab⟩ : ∃ x, x = w.heap.size := ⟨_, rfl⟩
  clear s1 hB1 hb1 hb2 f0 f1 hc0 HW0 hB0 hX0
  rw [← hab] at hB2 ⊢
  have HAB : Hid (ab = w.heap.size) := hab
  clear hab
  go_loopw [1, 6] (fun t i wr => ∃ k : Nat, 1 ≤ k ∧ k ≤ R + 1 ∧ i = .int .i64 k ∧ t = .string (tx (stF E (nb blk) R k)) ∧ Blk wr ab 56 [sv, wv] ∧ Below w.heap.size w wr) (fun _ i _ => R + 1 - (intOf i).toNat)
  case atStart => exact ⟨1, Nat.le_refl _, by omega, rfl, by rw [HT1.out], hB2, hX2⟩
  case round =>
    clear hB2 hX2
    obtain ⟨k, hk1, hk, rfl, rfl, hB, hnx⟩ := hrel
    have hbl := hB.lt
    by_cases hkR : k ≤ R
    · have d0 : decide ((k : Int) ≤ (R : Int)) = true := by simp; omega
      have hSl := stF_len E (nb blk) R k
      have hSo := stF_ok E (nb blk) hE hBo R k
      have fs := HS.out (stF E (nb blk) R k)
      have hsl : (subN 16 (stF E (nb blk) R k)).length = 16 := mk_length _ _
      have hso := subN_ok 16 (stF E (nb blk) R k)
      have HMv : Hid ((mk 16 fun q => (subN 16 (stF E (nb blk) R k)).getD (5 * q % 16) 0) = movN 1 (subN 16 (stF E (nb blk) R k))) := mov_five _
      have fk := HK.out k
      have HMid : Hid (k < R → stF E (nb blk) R (k + 1) = xorN 16 (mixN (movN 1 (subN 16 (stF E (nb blk) R k)))) (rk E k)) := fun h => stF_mid E (nb blk) R k hk1 h
      have HEnd : Hid (k = R → stF E (nb blk) R (k + 1) = xorN 16 (movN 1 (subN 16 (stF E (nb blk) R k))) (rk E k)) := fun h => by rw [h]; exact stF_end E (nb blk) R
      have fx := HX.out
      obtain ⟨S', HS'⟩ : ∃ S', Hid (S' = stF E (nb blk) R (k + 1)) := ⟨_, rfl⟩
      rw [← HS'.out] at HMid HEnd
      generalize stF E (nb blk) R k = S at *
      have hMl : (movN 1 (subN 16 S)).length = 16 := mk_length _ _
      have hMo := movN_ok 1 (subN 16 S) hso
      generalize subN 16 S = s at *
      have hts : (tx s).size = 16 := by rw [tx_size, hsl]
      have hone := fun r h => tx_one s r h
      obtain ⟨ST, hST⟩ : ∃ q, Hid (tx S = q) := ⟨_, rfl⟩
      obtain ⟨st, hst⟩ : ∃ q, Hid (tx s = q) := ⟨_, rfl⟩
      rw [hST.out] at fs ⊢
      rw [hst.out] at fs hts hone
      go_wp2_with (first
        | (refine wpList_load_blk rfl 56 (.tmp 2) rfl ab 0 rfl hB [sv, wv] rfl _ Try.underlying56 rfl infoAES ?_)
        | (go_at_call 57; refine (fs _ hSl hSo hnx).mono ?_; rintro e w1 ⟨rfl, hb1⟩))
      have hB1 := hB.below hb1 hbl
      have hX1 := hnx.trans (hb1.mono hnx.size)
      clear hB hnx hb1 fs
      go_loop [8, 31] (fun t i => ∃ q : Nat, q ≤ 16 ∧ i = .int .i64 q ∧ t = .string (tx (mk q fun j => s.getD (5 * j % 16) 0))) (fun _ i => 16 - (intOf i).toNat)
      case atStart => exact ⟨0, by omega, rfl, rfl⟩
      case round =>
        obtain ⟨q, hq, rfl, rfl⟩ := hrel
        by_cases hq16 : q < 16
        · have d1 : decide ((q : Int) < 16) = true := by simp; omega
          obtain ⟨r, hr⟩ : ∃ r, r = 5 * q % 16 := ⟨_, rfl⟩
          obtain ⟨r1, hr1⟩ : ∃ r1, r1 = r + 1 := ⟨_, rfl⟩
          have e1 : (5 * (q : Int)).tmod 16 = (r : Int) := by rw [Int.tmod_eq_emod_of_nonneg (by omega), hr]; omega
          have e2 : (r : Int) + 1 = (r1 : Int) := by omega
          have hrl : r < 16 := by omega
          have hex := hone r (by omega)
          rw [← hr1] at hex
          have HQ : Hid (tx (mk q fun j => s.getD (5 * j % 16) 0) ++ tx [s.getD r 0] = tx (mk (q + 1) fun j => s.getD (5 * j % 16) 0)) := by
            show _ = _
            rw [tx_append, mk_succ, hr]
          have z1 : (tx (mk q fun j => s.getD (5 * j % 16) 0)).size = q := by rw [tx_size, mk_length]
          have z2 : (tx [s.getD r 0]).size = 1 := tx_size _
          have b1 : (0 : Int) ≤ (r : Int) := by omega
          have b2 : (r : Int) ≤ (r1 : Int) := by omega
          have b3 : (0 : Int) ≤ (r1 : Int) := by omega
          have b4 : (r1 : Int) ≤ 16 := by omega
          have HRR : Hid (r = 5 * q % 16 ∧ r1 = r + 1) := ⟨hr, hr1⟩
          clear hr hr1 hone
          generalize tx [s.getD r 0] = Z at *
          generalize tx (mk q fun j => s.getD (5 * j % 16) 0) = T at *
          go_wp2_with fail
          go_round
          case rel => exact ⟨q + 1, by omega, by go_num, by rw [HQ.out]⟩
          case measure => simp [intOf]; omega
        · obtain rfl : q = 16 := by omega
          have d1 : decide (((16 : Nat) : Int) < 16) = false := by decide
          rw [HMv.out]
          have hMs : (tx (movN 1 s)).size = 16 := by rw [tx_size, hMl]
          generalize movN 1 s = M at *
          obtain ⟨MT, hMT⟩ : ∃ q, Hid (tx M = q) := ⟨_, rfl⟩
          have hcolx := fun c hc => tx_col M c hMl hc
          rw [hMT.out] at hMs ⊢
          clear hone HMv
          by_cases hkE : k = R
          · have t9 : (((k : Nat) : Int) == ((R : Nat) : Int)) = true := by rw [beq_iff_eq]; omega
            have HX1 := HEnd.out hkE
            have HKE : Hid (k = R) := hkE
            clear hkE
            go_wp2_with fail
            go_loop [1, 46] (fun t i => ∃ c : Nat, c ≤ 4 ∧ i = .int .i64 c ∧ t = .string (tx (M.take (4 * c)))) (fun _ i => 4 - (intOf i).toNat)
            case atStart => exact ⟨0, by omega, rfl, rfl⟩
            case round =>
              obtain ⟨c, hc4, rfl, rfl⟩ := hrel
              by_cases hc : c < 4
              · have d2 : decide ((c : Int) < 4) = true := by simp; omega
                obtain ⟨lo, hlo⟩ : ∃ q, q = 4 * c := ⟨_, rfl⟩
                obtain ⟨hh, hhi⟩ : ∃ q, q = lo + 4 := ⟨_, rfl⟩
                have el : 4 * (c : Int) = (lo : Int) := by omega
                have eh : (lo : Int) + 4 = (hh : Int) := by omega
                have hcx := tx_col M c hMl hc
                rw [← hlo, ← hhi] at hcx
                have lb1 : (0 : Int) ≤ (lo : Int) := by omega
                have lb2 : (lo : Int) ≤ (hh : Int) := by omega
                have lb3 : (0 : Int) ≤ (hh : Int) := by omega
                have lb4 : (hh : Int) ≤ 16 := by omega
                have wl1 := wrap_small lo (by omega)
                have wl2 := wrap_small hh (by omega)
                have hcl4 : (colN M c).length = 4 := mk_length _ _
                have hco := colN_ok M c hMo
                have hCs : (tx (colN M c)).size = 4 := by rw [tx_size, hcl4]
                have hCn : Hid (nb (tx (colN M c)) = colN M c) := nb_tx _ hco
                obtain ⟨cl, hcM⟩ : ∃ q, Hid (colN M c = q) := ⟨_, rfl⟩
                rw [hcM.out] at hcx hco hCs hCn hcl4
                obtain ⟨CT, hCT⟩ : ∃ q, Hid (tx cl = q) := ⟨_, rfl⟩
                rw [hCT.out] at hcx hCs hCn
                have hgb := PlainAid.get_bt CT
                have HLO : Hid (lo = 4 * c) := hlo
                clear hlo hhi
                have hjoin := take_col M c hMl hc
                rw [hcM.out, hCT.out] at hjoin
                have z1 : (tx (M.take (4 * c))).size = 4 * c := by rw [tx_size, List.length_take]; omega
                have HJ : Hid _ := hjoin
                clear hjoin
                rw [hMT.out] at hcx
                generalize tx (M.take (4 * c)) = T at *
                go_wp2_with fail
                go_round
                case rel => exact ⟨c + 1, by omega, by go_num, by rw [HJ.out]⟩
                case measure => simp [intOf]; omega
              · obtain rfl : c = 4 := by omega
                have d2 : decide (((4 : Nat) : Int) < 4) = false := by decide
                rw [List.take_of_length_le (by omega), hMT.out]
                have g1 := fk w1 hkR hX1
                have g2 := fx M k
                rw [← HX1, hMT.out] at g2
                generalize tx (rk E k) = Kk at *
                obtain ⟨TS, HTS⟩ : ∃ q, Hid (tx S' = q) := ⟨_, rfl⟩
                rw [HTS.out] at g2
                have hl1 := hB1.lt
                go_wp2_with (first
                  | (refine wpList_load_blk rfl 56 (.tmp 2) rfl ab 0 rfl hB1 [sv, wv] rfl _ Try.underlying56 rfl infoAES ?_)
                  | (go_at_call 58; with_reducible refine g1.mono ?_; rintro e w2 ⟨rfl, hb2⟩)
                  | (go_at_call 36; with_reducible refine (g2 _ hMl hMo).mono ?_; rintro e w3 ⟨rfl, hb3⟩))
                have k2 := hX1.trans (hb2.mono hX1.size)
                have k3 := k2.trans (hb3.mono k2.size)
                have hB3 := (hB1.below hb2 hl1).below hb3 (Nat.lt_of_lt_of_le hl1 hb2.size)
                go_roundw
                case rel => exact ⟨k + 1, by omega, by omega, by go_num, by rw [← HTS.out, HS'.out], hB3, k3⟩
                case measure => simp [intOf]; omega
          · have t9 : (((k : Nat) : Int) == ((R : Nat) : Int)) = false := by rw [beq_eq_false_iff_ne]; omega
            have HX1 := HMid.out (by omega)
            have hXl : (mixN M).length = 16 := mk_length _ _
            have hXo := mixN_ok M hMo
            obtain ⟨X, hXM⟩ : ∃ q, Hid (mixN M = q) := ⟨_, rfl⟩
            rw [hXM.out] at HX1 hXl hXo
            go_wp2_with fail
            go_loopw [1, 46] (fun t i wq => ∃ c : Nat, c ≤ 4 ∧ i = .int .i64 c ∧ t = .string (tx (X.take (4 * c))) ∧ Blk wq ab 56 [sv, wv] ∧ Below w.heap.size w wq) (fun _ i _ => 4 - (intOf i).toNat)
            case atStart => exact ⟨0, by omega, rfl, rfl, hB1, hX1⟩
            case round =>
              clear hB1 hX1
              obtain ⟨c, hc4, rfl, rfl, hB, hnx⟩ := hrel
              by_cases hc : c < 4
              · have d2 : decide ((c : Int) < 4) = true := by simp; omega
                obtain ⟨lo, hlo⟩ : ∃ q, q = 4 * c := ⟨_, rfl⟩
                obtain ⟨hh, hhi⟩ : ∃ q, q = lo + 4 := ⟨_, rfl⟩
                have el : 4 * (c : Int) = (lo : Int) := by omega
                have eh : (lo : Int) + 4 = (hh : Int) := by omega
                have hcx := tx_col M c hMl hc
                rw [← hlo, ← hhi] at hcx
                have lb1 : (0 : Int) ≤ (lo : Int) := by omega
                have lb2 : (lo : Int) ≤ (hh : Int) := by omega
                have lb3 : (0 : Int) ≤ (hh : Int) := by omega
                have lb4 : (hh : Int) ≤ 16 := by omega
                have wl1 := wrap_small lo (by omega)
                have wl2 := wrap_small hh (by omega)
                have hcl4 : (colN M c).length = 4 := mk_length _ _
                have hco := colN_ok M c hMo
                have hCs : (tx (colN M c)).size = 4 := by rw [tx_size, hcl4]
                have hCn : Hid (nb (tx (colN M c)) = colN M c) := nb_tx _ hco
                obtain ⟨cl, hcM⟩ : ∃ q, Hid (colN M c = q) := ⟨_, rfl⟩
                rw [hcM.out] at hcx hco hCs hCn hcl4
                obtain ⟨CT, hCT⟩ : ∃ q, Hid (tx cl = q) := ⟨_, rfl⟩
                rw [hCT.out] at hcx hCs hCn
                have hgb := PlainAid.get_bt CT
                have HLO : Hid (lo = 4 * c) := hlo
                clear hlo hhi
                rw [hMT.out] at hcx
                obtain ⟨TY, HTY⟩ : ∃ q, Hid (tx (X.take (4 * c)) = q) := ⟨_, rfl⟩
                rw [HTY.out]
                go_wp2_with fail
                rw [← HTY.out]
                go_loopw [1, 62] (fun t q wq => ∃ r : Nat, r ≤ 4 ∧ q = .int .i64 r ∧ t = .string (tx (X.take (4 * c + r))) ∧ Blk wq ab 56 [sv, wv] ∧ Below w.heap.size w wq) (fun _ q _ => 4 - (intOf q).toNat)
                case atStart => exact ⟨0, by omega, rfl, rfl, hB, hnx⟩
                case round =>
                  clear hB hnx
                  obtain ⟨r, hr, rfl, rfl, hB, hnx⟩ := hrel
                  have hbl := hB.lt
                  have hnz := hnx.size
                  by_cases hr4 : r < 4
                  · have d3 : decide ((r : Int) < 4) = true := by simp; omega
                    have e1 : ((r : Int) + 1).tmod 4 = (((r + 1) % 4 : Nat) : Int) := by rw [Int.tmod_eq_emod_of_nonneg (by omega)]; omega
                    have e2 : ((r : Int) + 2).tmod 4 = (((r + 2) % 4 : Nat) : Int) := by rw [Int.tmod_eq_emod_of_nonneg (by omega)]; omega
                    have e3 : ((r : Int) + 3).tmod 4 = (((r + 3) % 4 : Nat) : Int) := by rw [Int.tmod_eq_emod_of_nonneg (by omega)]; omega
                    have l1 : (r + 1) % 4 < 4 := by omega
                    have l2 : (r + 2) % 4 < 4 := by omega
                    have l3 : (r + 3) % 4 < 4 := by omega
                    have v0 : PlainAid.bt CT r = ((cl.getD r 0 : Nat) : Int) := by rw [bt_nb CT r (by omega), hCn.out]
                    have v1 : PlainAid.bt CT ((r + 1) % 4) = ((cl.getD ((r + 1) % 4) 0 : Nat) : Int) := by rw [bt_nb CT _ (by omega), hCn.out]
                    have v2 : PlainAid.bt CT ((r + 2) % 4) = ((cl.getD ((r + 2) % 4) 0 : Nat) : Int) := by rw [bt_nb CT _ (by omega), hCn.out]
                    have v3 : PlainAid.bt CT ((r + 3) % 4) = ((cl.getD ((r + 3) % 4) 0 : Nat) : Int) := by rw [bt_nb CT _ (by omega), hCn.out]
                    have HS := ref_stir cl hco r hr4
                    have HM := mix_col M c r hr4 hc
                    rw [hcM.out] at HM
                    rw [HM] at HS
                    have hXr : 4 * c + r < X.length := by omega
                    have HT := tx_more X (4 * c + r) hXr
                    rw [hXM.out] at HS
                    rw [← HS] at HT
                    have b0 := hco.get r
                    have b1 := hco.get ((r + 1) % 4)
                    have b2 := hco.get ((r + 2) % 4)
                    have b3 := hco.get ((r + 3) % 4)
                    clear HS HM
                    generalize (r + 1) % 4 = m1 at *
                    generalize (r + 2) % 4 = m2 at *
                    generalize (r + 3) % 4 = m3 at *
                    generalize cl.getD r 0 = a0 at *
                    generalize cl.getD m1 0 = a1 at *
                    generalize cl.getD m2 0 = a2 at *
                    generalize cl.getD m3 0 = a3 at *
                    have G1 : ∀ W, Calls Try.prog 56 #[.int .u8 a0, .int .u8 2] W fun e w' => e = .returned (.int .u8 (gm a0 2)) ∧ Below W.heap.size W w' := mulB a0 2 b0 (by decide)
                    have G2 : ∀ W, Calls Try.prog 56 #[.int .u8 a1, .int .u8 3] W fun e w' => e = .returned (.int .u8 (gm a1 3)) ∧ Below W.heap.size W w' := mulB a1 3 b1 (by decide)
                    have g0 := gm_lt a0 2
                    have g1 := gm_lt a1 3
                    generalize gm a0 2 = T0 at *
                    generalize gm a1 3 = T1 at *
                    have x1 := xor8 _ _ g0 g1
                    have y1 := xor_lt g0 g1
                    generalize T0 ^^^ T1 = X1 at *
                    have x2 := xor8 _ _ y1 b2
                    have y2 := xor_lt y1 b2
                    generalize X1 ^^^ a2 = X2 at *
                    have x3 := xor8 _ _ y2 b3
                    have y3 := xor_lt y2 b3
                    generalize X2 ^^^ a3 = X3 at *
                    have F3 := chr8 X3 y3
                    have s1 : (tx (X.take (4 * c + r))).size = 4 * c + r := by rw [tx_size, List.length_take]; omega
                    have s2 : (tx [X3]).size = 1 := tx_size _
                    have HT' : Hid _ := HT
                    clear HT
                    generalize tx [X3] = Z at *
                    generalize tx (X.take (4 * c + r)) = T at *
                    have F1 : Hid (∀ y : Up wr, Calls Try.prog 56 #[.int .u8 a0, .int .u8 2] y.1 fun e w' => e = .returned (.int .u8 T0) ∧ Below y.1.heap.size y.1 w') := fun y => G1 y.1
                    have F2 : Hid (∀ y : Up wr, Calls Try.prog 56 #[.int .u8 a1, .int .u8 3] y.1 fun e w' => e = .returned (.int .u8 T1) ∧ Below y.1.heap.size y.1 w') := fun y => G2 y.1
                    clear G1 G2 g0 g1 y1 y2
                    have r0 : (0 : Int) ≤ (r : Int) := by omega
                    have rz : (r : Int) < 4 := by omega
                    have rn : r < CT.size := by omega
                    have z1 : (m1 : Int) < 4 := by omega
                    have n1 : m1 < CT.size := by omega
                    have z2 : (m2 : Int) < 4 := by omega
                    have n2 : m2 < CT.size := by omega
                    have z3 : (m3 : Int) < 4 := by omega
                    have n3 : m3 < CT.size := by omega
                    have hne := Up.some wr
                    go_wp2_with fail
                    refine wp_region_up (by kernel_rfl) (by kernel_rfl) ?_
                    repeat (go_big_quiet_step (first | (with_reducible exact calls_up (F1.out _)) | (with_reducible exact calls_up (F2.out _))))
                    refine wpQuiet_nil ?_
                    rintro w1' ⟨y1', rfl⟩
                    clear F1 F2 hne
                    go_wp2_with (go_at_call 45; with_reducible refine (F3 _).mono ?_; rintro e w2' ⟨rfl, hb2'⟩)
                    have k1 := hnx.trans (y1'.2.mono hnz)
                    have k2 := k1.trans (hb2'.mono k1.size)
                    have hB2 := (hB.below y1'.2 hbl).below hb2' (Nat.lt_of_lt_of_le hbl y1'.2.size)
                    go_roundw
                    case rel => exact ⟨r + 1, by omega, by go_num, by rw [HT'.out]; rfl, hB2, k2⟩
                    case measure => simp [intOf]; omega
                  · obtain rfl : r = 4 := by omega
                    have d3 : decide (((4 : Nat) : Int) < 4) = false := by decide
                    rw [show 4 * c + 4 = 4 * (c + 1) from by omega]
                    obtain ⟨TX, HTX⟩ : ∃ TX, Hid (TX = tx (X.take (4 * (c + 1)))) := ⟨_, rfl⟩
                    rw [← HTX.out]
                    go_wp2_with fail
                    go_roundw
                    case rel => exact ⟨c + 1, by omega, by go_num, by rw [HTX.out], hB, hnx⟩
                    case measure => simp [intOf]; omega
              · obtain rfl : c = 4 := by omega
                have d2 : decide (((4 : Nat) : Int) < 4) = false := by decide
                rw [List.take_of_length_le (by omega)]
                have g1 := fk wr hkR hnx
                have g2 := fx X k
                rw [← HX1] at g2
                generalize tx (rk E k) = Kk at *
                obtain ⟨TS, HTS⟩ : ∃ q, Hid (tx S' = q) := ⟨_, rfl⟩
                rw [HTS.out] at g2
                have hl1 := hB.lt
                generalize tx X = TX at *
                go_wp2_with (first
                  | (refine wpList_load_blk rfl 56 (.tmp 2) rfl ab 0 rfl hB [sv, wv] rfl _ Try.underlying56 rfl infoAES ?_)
                  | (go_at_call 58; with_reducible refine g1.mono ?_; rintro e w2 ⟨rfl, hb2⟩)
                  | (go_at_call 36; with_reducible refine (g2 _ hXl hXo).mono ?_; rintro e w3 ⟨rfl, hb3⟩))
                have k2 := hnx.trans (hb2.mono hnx.size)
                have k3 := k2.trans (hb3.mono k2.size)
                have hB3 := (hB.below hb2 hl1).below hb3 (Nat.lt_of_lt_of_le hl1 hb2.size)
                go_roundw
                case rel => exact ⟨k + 1, by omega, by omega, by go_num, by rw [← HTS.out, HS'.out], hB3, k3⟩
                case measure => simp [intOf]; omega
    · obtain rfl : k = R + 1 := by omega
      have d0 : decide (((R + 1 : Nat) : Int) ≤ (R : Int)) = false := by simp; omega
      have HF : Hid (stF E (nb blk) R (R + 1) = enc E R (nb blk)) := by
        show _ = _
        unfold stF
        rw [if_neg (by omega)]
      rw [HF.out]
      obtain ⟨TS, HTS⟩ : ∃ q, Hid (tx (enc E R (nb blk)) = q) := ⟨_, rfl⟩
      rw [HTS.out]
      go_wp2_with fail
      go_ret
      exact ⟨by rw [HTS.out]; rfl, hnx⟩
end Go.Proofs.Ytibdlccaenanmaa.aes
