/-
  THE WALKS OF the document's ChachaBlock, ChachaXor and ChachaSub.
-/
import Derived.Test.YtjcgodojbpfooaaRefChaStirred
namespace Go.Proofs.Ytjcgodojbpfooaa.cha
open Go.RowKit
open Go.Proofs.Ytjcgodojbpfooaa.soft
open Go.Proofs.Ytjcgodojbpfooaa.ghs (bt_nb tb tb_lt tb_tx mkl mkl_length mkl_get mkl_succ mkl_congr tx_ext)

theorem ad_comm (a b : Nat) : ad a b = ad b a := by unfold ad; rw [Nat.add_comm]
theorem rblock_bad (key nonce : ByteArray) (n : Nat) (h : key.size ≠ 32 ∨ nonce.size ≠ 12) (w : World) :
    Calls Try.prog 39 #[.string key, .string nonce, .int .u32 n] w fun e w' => e = .returned (.tuple #[.string ⟨#[]⟩, .int .i64 1]) ∧ Below w.heap.size w w' := by
  by_cases h1 : key.size = 32
  · have t1 : ((key.size : Int) != 32) = false := by rw [bne_eq_false_iff_eq]; omega
    have t2 : ((nonce.size : Int) != 12) = true := by rw [bne_iff_ne]; omega
    clear h h1
    go_enter Try.func39, Try.ntmps39
    go_wp2_with fail
    go_ret2
    exact ⟨rfl, Below.refl _ _⟩
  · have t1 : ((key.size : Int) != 32) = true := by rw [bne_iff_ne]; omega
    clear h h1
    go_enter Try.func39, Try.ntmps39
    go_wp2_with fail
    go_ret2
    exact ⟨rfl, Below.refl _ _⟩
set_option maxRecDepth 100000 in
set_option maxHeartbeats 4000000 in
theorem rblock_good (key nonce : ByteArray) (n : Nat) (hn : n < 4294967296) (h1 : key.size = 32) (h2 : nonce.size = 12) (w : World) :
    Calls Try.prog 39 #[.string key, .string nonce, .int .u32 n] w fun e w' => e = .returned (.tuple #[.string (blk key nonce n), .int .i64 0]) ∧ Below w.heap.size w w' := by
  have t1 : ((key.size : Int) != 32) = false := by rw [bne_eq_false_iff_eq]; omega
  have t2 : ((nonce.size : Int) != 12) = false := by rw [bne_eq_false_iff_eq]; omega
  have f0 := low4 n (by omega)
  have s4 : (told [n]).size = 4 := told_size _
  have s36 : (key ++ told [n]).size = 36 := by rw [ByteArray.size_append]; omega
  have s48 : ((key ++ told [n]) ++ nonce).size = 48 := by rw [ByteArray.size_append]; omega
  have f1 := rstirred_any ((key ++ told [n]) ++ nonce) s48
  have hb : beg ((key ++ told [n]) ++ nonce) = S key nonce n := by rw [ByteArray.append_assoc]; exact beg_S key nonce h1 hn
  have hT := beg_T ((key ++ told [n]) ++ nonce)
  have sX : (sgT ++ ((key ++ told [n]) ++ nonce)).size = 64 := by rw [ByteArray.size_append]; show 16 + _ = 64; omega
  rw [hb] at f1 hT
  clear hb
  have HB : Hid (blk key nonce n = told (mkl 16 fun i => ad ((stirred (S key nonce n)).getD i 0) ((S key nonce n).getD i 0))) := rfl
  have hEl := S_length key nonce n
  have hEo := S_ok key nonce hn
  have hDl : (stirred (S key nonce n)).length = 16 := by rw [stirred_length, hEl]
  have hDo := stirred_ok hEo
  obtain ⟨R, HR⟩ : ∃ R, Hid (R = blk key nonce n) := ⟨_, rfl⟩
  rw [← HR.out]
  rw [← HR.out] at HB
  clear HR
  generalize stirred (S key nonce n) = D at *
  generalize S key nonce n = E at *
  have sW : (told D).size = 64 := by rw [told_size]; omega
  have hnW := fun i hi => num_told hDo i hi
  generalize told D = TW at *
  obtain ⟨A, hA⟩ : ∃ A, A = key ++ told [n] := ⟨_, rfl⟩
  rw [← hA] at f1 hT s36 s48 sX
  have hA' : key ++ told [n] = A := hA.symm
  clear hA
  obtain ⟨B, hB⟩ : ∃ B, B = A ++ nonce := ⟨_, rfl⟩
  rw [← hB] at f1 hT s48 sX
  have hB' : A ++ nonce = B := hB.symm
  clear hB
  generalize told [n] = T4 at *
  generalize sgT ++ B = X at *
  have hnX : ∀ i, i < 16 → num (tb X) i = E.getD i 0 := fun i hi => by rw [← hT, mkl_get _ _ _ hi]
  clear hT
  obtain ⟨F, HF⟩ : ∃ F : Nat → Nat, Hid (F = fun i => ad (D.getD i 0) (E.getD i 0)) := ⟨_, rfl⟩
  rw [← HF.out] at HB
  go_enter Try.func39, Try.ntmps39
  go_wp2_with (first
    | (go_at_call 43; (with_reducible refine (f0 _).mono ?_); rintro e w1 ⟨rfl, hb1⟩)
    | (go_at_call 46; (with_reducible refine (f1 _).mono ?_); rintro e w2 ⟨rfl, hb2⟩))
  have hX0 := hb1.trans (hb2.mono hb1.size)
  clear hb1 hb2 f0 f1
  go_loopw [10, 11] (fun t iv wr => ∃ j : Nat, j ≤ 16 ∧ iv = .int .i64 ((4 * j : Nat) : Int) ∧ t = .string (told (mkl j F)) ∧ Below w.heap.size w wr) (fun _ iv _ => 64 - (intOf iv).toNat)
  case atStart => exact ⟨0, by omega, rfl, rfl, hX0⟩
  case round =>
    clear hX0
    obtain ⟨j, hj, rfl, rfl, hnx⟩ := hrel
    obtain ⟨q, hq⟩ : ∃ q, q = 4 * j := ⟨_, rfl⟩
    have HQ : Hid (q = 4 * j) := hq
    rw [← hq]
    by_cases hlt : j < 16
    · have d0 : decide ((q : Int) < 64) = true := by simp; omega
      obtain ⟨q2, hq2⟩ : ∃ q2, q2 = q + 4 := ⟨_, rfl⟩
      have e2 : (q : Int) + 4 = (q2 : Int) := by omega
      have q2b : q2 ≤ 64 := by omega
      have qb : q ≤ 60 := by omega
      have l1 := cv.sl_in X q q2 (by omega) (by omega)
      have l2 := cv.sl_in TW q q2 (by omega) (by omega)
      have g1 := of4 (X.extract q q2) (by rw [ByteArray.size_extract]; omega)
      have g2 := of4 (TW.extract q q2) (by rw [ByteArray.size_extract]; omega)
      rw [show num (tb (X.extract q q2)) 0 = E.getD j 0 from by rw [hq2, hq, num_in, hnX j hlt]] at g1
      rw [show num (tb (TW.extract q q2)) 0 = D.getD j 0 from by rw [hq2, hq, num_in]; exact hnW j (by omega)] at g2
      have k1 := hEo.get j
      have k2 := hDo.get j
      obtain ⟨z, hz⟩ : ∃ z, z = ad (D.getD j 0) (E.getD j 0) := ⟨_, rfl⟩
      have kz : z < 4294967296 := by rw [hz]; exact ad_lt _ _
      have g3 := low4 z (by omega)
      have e3 : ((E.getD j 0 : Nat) : Int) + ((D.getD j 0 : Nat) : Int) = ((E.getD j 0 + D.getD j 0 : Nat) : Int) := by omega
      have e4 : ((E.getD j 0 + D.getD j 0 : Nat) : Int) % 4294967296 = (z : Int) := by rw [hz, ad_comm]; unfold ad; omega
      have HU : Hid (told (mkl (j + 1) F) = told (mkl j F) ++ told [z]) := by
        show _ = _
        rw [told, told, told, ← tx_app, ← bs4_append, mkl_succ, HF.out, hz]
      have kb : E.getD j 0 + D.getD j 0 < 8589934592 := by omega
      have s1 : (told (mkl j F)).size = 4 * j := by rw [told_size, mkl_length]
      have s2 : (told [z]).size = 4 := told_size _
      generalize told [z] = Z at *
      generalize told (mkl j F) = T at *
      generalize E.getD j 0 + D.getD j 0 = sm at *
      generalize E.getD j 0 = x at *
      generalize D.getD j 0 = y at *
      generalize X.extract q q2 = X1 at *
      generalize TW.extract q q2 = X2 at *
      have F1 : Hid (∀ y' : Up wr, Calls Try.prog 60 #[.string X1] y'.1 fun e w' => e = .returned (.int .u64 x) ∧ Below y'.1.heap.size y'.1 w') := fun y' => g1 y'.1
      have F2 : Hid (∀ y' : Up wr, Calls Try.prog 60 #[.string X2] y'.1 fun e w' => e = .returned (.int .u64 y) ∧ Below y'.1.heap.size y'.1 w') := fun y' => g2 y'.1
      have F3 : Hid (∀ y' : Up wr, Calls Try.prog 43 #[.int .u64 z, .int .i64 4] y'.1 fun e w' => e = .returned (.string Z) ∧ Below y'.1.heap.size y'.1 w') := fun y' => g3 y'.1
      clear g1 g2 g3 hq hq2 hz hnW hnX
      have hne := Up.some wr
      go_wp2_with fail
      refine wp_region_up (by kernel_rfl) (by kernel_rfl) ?_
      repeat (go_big_quiet_step (first | (with_reducible exact calls_up (F1.out _)) | (with_reducible exact calls_up (F2.out _)) | (with_reducible exact calls_up (F3.out _))))
      refine wpQuiet_nil ?_
      rintro w1 ⟨y1, rfl⟩
      go_wp2_with fail
      go_roundw
      case rel => exact ⟨j + 1, by omega, by have := HQ.out; congr 1; omega, by rw [HU.out], hnx.trans (y1.2.mono hnx.size)⟩
      case measure => simp [intOf]; omega
    · obtain rfl : j = 16 := by omega
      have d0 : decide ((q : Int) < 64) = false := by simp; omega
      rw [← HB.out]
      clear hq
      go_wp2_with fail
      go_ret2
      exact ⟨rfl, hnx⟩
end Go.Proofs.Ytjcgodojbpfooaa.cha
