/-
  AesBack: whatever texts are handed in, and whichever size of key, the call returns true.
-/
import Derived.Test.YtgfcbmajgaeadaaFrame
import Derived.Test.YtgfcbmajgaeadaaSized
import Derived.Test.YtgfcbmajgaeadaaAesGone
import Derived.Test.YtgfcbmajgaeadaaPlainAesBack
namespace Go.Proofs.Ytgfcbmajgaeadaa.aesBack
open Go.ChangeShapes Go.WideShapes Go.ChangeAt Go.RowKit
open Go.ChangeMaps (open_string shut_string)
open aes

theorem enc_size (k b : ByteArray) : (encB k b).size = 16 := by unfold encB; rw [tx_size]; exact mk_length _ _
theorem dec_size (k b : ByteArray) : (decB k b).size = 16 := by unfold decB; rw [tx_size]; exact mk_length _ _
theorem there_home (k b : ByteArray) (hb : b.size = 16) : decB k (encB k b) = b := by
  have hl : (nb b).length = 16 := by rw [nb_length, hb]
  unfold decB encB
  rw [nb_tx _ (enc_ok _ _ _ (kE_ok k)), dec_enc _ _ (kE_ok k) hl (nb_lt b) _ (by omega), tx_nb]
theorem home_there (k b : ByteArray) (hb : b.size = 16) : encB k (decB k b) = b := by
  have hl : (nb b).length = 16 := by rw [nb_length, hb]
  unfold decB encB
  rw [nb_tx _ (dec_ok _ _ _ (kE_ok k)), enc_dec _ _ (kE_ok k) hl (nb_lt b) _ (by omega), tx_nb]
set_option maxRecDepth 100000 in
set_option maxHeartbeats 800000 in
theorem walk (k : ByteArray) (hk : k.size ≤ maxLen) (b : ByteArray) (hb : b.size ≤ maxLen) (long : Bool) (w : World) :
    Calls Try.prog 6 #[.string k, .string b, .bool long] w fun e w' => e = .returned (.bool true) ∧ Below w.heap.size w w' := by
  have g1 : ∀ w, Calls Try.prog 14 #[.string k, .int .i64 32] w fun e w' => e = .returned (.string (sz k 32)) ∧ Below w.heap.size w w' := sized_any k 32 hk (by decide)
  have g2 : ∀ w, Calls Try.prog 14 #[.string b, .int .i64 16] w fun e w' => e = .returned (.string (sz b 16)) ∧ Below w.heap.size w w' := sized_any b 16 hb (by decide)
  have z1 := sz_size k 32
  have z2 := sz_size b 16
  generalize sz k 32 = K at *
  generalize sz b 16 = B at *
  clear hk hb
  cases long
  · have hsl : ∀ u : World, (Instr.slice 9 (.string K) none (some (.int .i64 16)) none).run Try.prog u = .ok (.string (K.extract 0 16)) u := fun u => by
      have hle : (16 : Int) ≤ (K.size : Int) := by omega
      simp [go_sem, Try.underlying9, hle]
    have hKs : (K.extract 0 16).size = 16 := by rw [ByteArray.size_extract]; omega
    have hle : (16 : Int) ≤ (K.size : Int) := by omega
    generalize K.extract 0 16 = L at *
    have f1 := encrypt_good L B (.inl hKs) z2
    have f2 := decrypt_good L (encB L B) (.inl hKs) (enc_size L B)
    have f3 := decrypt_good L B (.inl hKs) z2
    have f4 := encrypt_good L (decB L B) (.inl hKs) (dec_size L B)
    rw [there_home L B z2] at f2
    rw [home_there L B z2] at f4
    have s1 : ((encB L B).size : Int) = 16 := by rw [enc_size]; rfl
    have s2 : ((decB L B).size : Int) = 16 := by rw [dec_size]; rfl
    generalize encB L B = X at *
    generalize decB L B = Y at *
    go_enter Try.func6, Try.ntmps6
    go_wp2_with (first
      | (go_at_call 14; first | (with_reducible refine (g1 _).mono ?_; rintro e w1 ⟨rfl, hb1⟩) | (with_reducible refine (g2 _).mono ?_; rintro e w2 ⟨rfl, hb2⟩))
      | (go_at_call 11; first | (with_reducible refine (f1 _).mono ?_; rintro e w3 ⟨rfl, hb3⟩) | (with_reducible refine (f4 _).mono ?_; rintro e w6 ⟨rfl, hb6⟩))
      | (go_at_call 13; first | (with_reducible refine (f2 _).mono ?_; rintro e w4 ⟨rfl, hb4⟩) | (with_reducible refine (f3 _).mono ?_; rintro e w5 ⟨rfl, hb5⟩)))
    go_ret
    refine ⟨rfl, ?_⟩
    have k2 := hb1.trans (hb2.mono hb1.size)
    have k3 := k2.trans (hb3.mono k2.size)
    have k4 := k3.trans (hb4.mono k3.size)
    have k5 := k4.trans (hb5.mono k4.size)
    exact k5.trans (hb6.mono k5.size)
  · have f1 := encrypt_good K B (.inr z1) z2
    have f2 := decrypt_good K (encB K B) (.inr z1) (enc_size K B)
    have f3 := decrypt_good K B (.inr z1) z2
    have f4 := encrypt_good K (decB K B) (.inr z1) (dec_size K B)
    rw [there_home K B z2] at f2
    rw [home_there K B z2] at f4
    have s1 : ((encB K B).size : Int) = 16 := by rw [enc_size]; rfl
    have s2 : ((decB K B).size : Int) = 16 := by rw [dec_size]; rfl
    generalize encB K B = X at *
    generalize decB K B = Y at *
    go_enter Try.func6, Try.ntmps6
    go_wp2_with (first
      | (go_at_call 14; first | (with_reducible refine (g1 _).mono ?_; rintro e w1 ⟨rfl, hb1⟩) | (with_reducible refine (g2 _).mono ?_; rintro e w2 ⟨rfl, hb2⟩))
      | (go_at_call 11; first | (with_reducible refine (f1 _).mono ?_; rintro e w3 ⟨rfl, hb3⟩) | (with_reducible refine (f4 _).mono ?_; rintro e w6 ⟨rfl, hb6⟩))
      | (go_at_call 13; first | (with_reducible refine (f2 _).mono ?_; rintro e w4 ⟨rfl, hb4⟩) | (with_reducible refine (f3 _).mono ?_; rintro e w5 ⟨rfl, hb5⟩)))
    go_ret
    refine ⟨rfl, ?_⟩
    have k2 := hb1.trans (hb2.mono hb1.size)
    have k3 := k2.trans (hb3.mono k2.size)
    have k4 := k3.trans (hb4.mono k3.size)
    have k5 := k4.trans (hb5.mono k4.size)
    exact k5.trans (hb6.mono k5.size)

/-! ### The row's step -/
set_option maxRecDepth 100000 in
theorem lifted (os : Os) (started : os.Started) (H : Type) (enc : TypeId × Value → H) :
    ReturnsInHanded {} Try.checked os 6 .any (Rows.aesBackSpec.pre6 enc Try.prog Try.f6 Rows.aesBackRow.domain false) (Rows.aesBackSpec.post enc Try.prog Try.f6 false true false false) := by
  refine returnsInHanded_of_change (C := Try.checked) own started (by kernel_rfl) Try.func6
    (ChangeSpec.witness6 (enc := enc) (C := Try.checked) false ⟨#[], #[.string .empty, .string .empty, .bool false], []⟩ 8 (by kernel_rfl) (by kernel_rfl) (by kernel_rfl) (by kernel_rfl)) ?_
  intro W base args ds gs before hval0 hW _ _
  have hval : ∀ (j : Nat) t v, Try.f6.params[j]? = some t → args[j]? = some v → Value.okWide Try.prog W .any base t v := hval0
  have hW' := hW
  obtain ⟨p, q, hA0, hV, rfl, hfz, hnd⟩ := hW
  have hA : DataW.TrodAll enc Try.prog W 0 (fun _ => true) true Try.f6.params.toList args.toList ds p := hA0
  rw [Try.params6] at hA hval
  obtain ⟨v0, vs0, d0, ds0, p0, q0, hargs, rfl, rfl, h0, r0⟩ := trodAll_cons hA
  obtain ⟨v1, vs1, d1, ds1, p1, q1, rfl, rfl, rfl, h1, r1⟩ := trodAll_cons r0
  obtain ⟨v2, vs2, d2, ds2, p2, q2, rfl, rfl, rfl, h2, r2⟩ := trodAll_cons r1
  obtain ⟨rfl, rfl, rfl⟩ := trodAll_nil r2
  obtain rfl : args = #[v0, v1, v2] := by cases args; simp_all
  obtain ⟨rfl, rfl⟩ := trodVars_none hV
  obtain ⟨s0, rfl, rfl, rfl, m0⟩ := open_string Try.underlying9 (hval 0 9 v0 rfl rfl) h0
  obtain ⟨s1, rfl, rfl, rfl, m1⟩ := open_string Try.underlying9 (hval 1 9 v1 rfl rfl) h1
  obtain ⟨s2, rfl, rfl, rfl⟩ := open_bool Try.underlying4 (hval 2 4 v2 rfl rfl) h2
  clear hA0 hval0
  simp only [List.append_nil] at hW'
  refine (walk s0 m0 s1 m1 s2 W).mono fun e W' ⟨he, hg⟩ => ?_
  subst he
  exact ⟨_, rfl, _, _, _, [], [], [], hW', trodAll_cons_mk (shut_bool Try.underlying4 _) trodAll_mk0, (trodAll_cons_mk (shut_string Try.underlying9 m0) (trodAll_cons_mk (shut_string Try.underlying9 m1) (trodAll_cons_mk (shut_bool Try.underlying4 s2) trodAll_mk0))), rfl, hg.frame _, fun h => by cases h⟩

/-- THE STATEMENT. -/
theorem proved : Rows.AesBackSaid :=
  OpenClaim.holds_of_wide 6 Try.f6 rfl rfl rfl rfl rfl rfl rfl ⟨rfl, rfl, rfl, rfl, rfl⟩ rfl rfl rfl rfl rfl (by kernel_rfl) Try.func6 (by kernel_rfl)
    (of_decide_eq_true (by kernel_rfl)) (by unfold Func.isWrapper; first | (rw [if_pos (by decide +kernel)]; kernel_rfl) | (rw [if_neg (by decide +kernel)]; exact ⟨rfl, rfl⟩))
    (fun os started H enc _ => lifted os started H enc)
end Go.Proofs.Ytgfcbmajgaeadaa.aesBack
