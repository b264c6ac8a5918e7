/-
  PLAIN MATHEMATICS OF blocks (AES): what is made is unmade. No program is named here.
-/
import Derived.Test.YtgfcbmajgaeadaaPlainAes
namespace Go.Proofs.Ytgfcbmajgaeadaa.aes
open Go.RowKit
open Go.Proofs.Ytgfcbmajgaeadaa.gal

theorem l_mov (t : Nat) (a : List Nat) : (movN t a).length = 16 := mk_length _ _
theorem l_sub (a : List Nat) : (subN 16 a).length = 16 := mk_length _ _
theorem l_mix (a : List Nat) : (mixN a).length = 16 := mk_length _ _
theorem l_xor (a b : List Nat) : (xorN 16 a b).length = 16 := mk_length _ _
theorem l_back (a : List Nat) : (backN a).length = 16 := mk_length _ _
theorem xorN_twice (a k : List Nat) (h : a.length = 16) : xorN 16 (xorN 16 a k) k = a := by
  refine (mk_congr fun i hi => ?_).trans (mk_of a 16 h)
  rw [xorN, mk_get _ _ _ hi, Nat.xor_assoc, Nat.xor_self, Nat.xor_zero]
theorem back_sub16 (a : List Nat) (h : a.length = 16) (o : Ok a) : backN (subN 16 a) = a := by
  refine (mk_congr fun i hi => ?_).trans (mk_of a 16 h)
  rw [subN, mk_get _ _ _ hi, back_sub _ (o.get i)]
theorem sub_back16 (a : List Nat) (h : a.length = 16) (o : Ok a) : subN 16 (backN a) = a := by
  refine (mk_congr fun i hi => ?_).trans (mk_of a 16 h)
  rw [backN, mk_get _ _ _ hi, sub_back _ (o.get i)]
theorem mov_13 (a : List Nat) (h : a.length = 16) : movN 3 (movN 1 a) = a := by
  refine (mk_congr fun i hi => ?_).trans (mk_of a 16 h)
  rw [movN, mk_get _ _ _ (Nat.mod_lt _ (by decide))]
  have e : ∀ i, i < 16 → ((i + 4 * 3 * (i % 4)) % 16 + 4 * 1 * ((i + 4 * 3 * (i % 4)) % 16 % 4)) % 16 = i := by decide
  rw [e i hi]
theorem mov_31 (a : List Nat) (h : a.length = 16) : movN 1 (movN 3 a) = a := by
  refine (mk_congr fun i hi => ?_).trans (mk_of a 16 h)
  rw [movN, mk_get _ _ _ (Nat.mod_lt _ (by decide))]
  have e : ∀ i, i < 16 → ((i + 4 * 1 * (i % 4)) % 16 + 4 * 3 * ((i + 4 * 1 * (i % 4)) % 16 % 4)) % 16 = i := by decide
  rw [e i hi]

/-! ### A column mixed four times -/
def stf (x y z t : Nat) : Nat := gm 2 x ^^^ gm 2 y ^^^ y ^^^ z ^^^ t
theorem twice_st (a b c d : Nat) : stf (stf a b c d) (stf b c d a) (stf c d a b) (stf d a b c) = gm 2 (gm 2 a) ^^^ a ^^^ gm 2 (gm 2 c) := by
  unfold stf
  simp only [gm_dist]
  apply Nat.eq_of_testBit_eq
  intro i
  simp only [Nat.testBit_xor]
  generalize (gm 2 (gm 2 a)).testBit i = p0
  generalize (gm 2 (gm 2 b)).testBit i = p1
  generalize (gm 2 (gm 2 c)).testBit i = p2
  generalize (gm 2 a).testBit i = q0
  generalize (gm 2 b).testBit i = q1
  generalize (gm 2 c).testBit i = q2
  generalize (gm 2 d).testBit i = q3
  generalize a.testBit i = r0
  generalize b.testBit i = r1
  generalize c.testBit i = r2
  generalize d.testBit i = r3
  cases p0 <;> cases p1 <;> cases p2 <;> cases q0 <;> cases q1 <;> cases q2 <;> cases q3 <;> cases r0 <;> cases r1 <;> cases r2 <;> cases r3 <;> rfl
def tw (a c : Nat) : Nat := gm 2 (gm 2 a) ^^^ a ^^^ gm 2 (gm 2 c)
theorem twice_tw (a c : Nat) : tw (tw a c) (tw c a) = a := by
  unfold tw
  simp only [gm_dist]
  apply Nat.eq_of_testBit_eq
  intro i
  simp only [Nat.testBit_xor]
  generalize (gm 2 (gm 2 (gm 2 (gm 2 a)))).testBit i = p0
  generalize (gm 2 (gm 2 (gm 2 (gm 2 c)))).testBit i = p1
  generalize (gm 2 (gm 2 a)).testBit i = q0
  generalize (gm 2 (gm 2 c)).testBit i = q1
  generalize a.testBit i = r0
  generalize c.testBit i = r1
  cases p0 <;> cases p1 <;> cases q0 <;> cases q1 <;> cases r0 <;> cases r1 <;> rfl
theorem stir_list (a b c d : Nat) : stirN [a, b, c, d] = [stf a b c d, stf b c d a, stf c d a b, stf d a b c] := rfl
theorem stir_four (a b c d : Nat) : stirN (stirN (stirN (stirN [a, b, c, d]))) = [a, b, c, d] := by
  rw [stir_list, stir_list, stir_list, stir_list]
  rw [twice_st a b c d, twice_st b c d a, twice_st c d a b, twice_st d a b c]
  rw [show gm 2 (gm 2 a) ^^^ a ^^^ gm 2 (gm 2 c) = tw a c from rfl, show gm 2 (gm 2 b) ^^^ b ^^^ gm 2 (gm 2 d) = tw b d from rfl, show gm 2 (gm 2 c) ^^^ c ^^^ gm 2 (gm 2 a) = tw c a from rfl, show gm 2 (gm 2 d) ^^^ d ^^^ gm 2 (gm 2 b) = tw d b from rfl]
  rw [twice_st (tw a c), twice_st (tw b d), twice_st (tw c a), twice_st (tw d b)]
  rw [show gm 2 (gm 2 (tw a c)) ^^^ tw a c ^^^ gm 2 (gm 2 (tw c a)) = tw (tw a c) (tw c a) from rfl, show gm 2 (gm 2 (tw b d)) ^^^ tw b d ^^^ gm 2 (gm 2 (tw d b)) = tw (tw b d) (tw d b) from rfl, show gm 2 (gm 2 (tw c a)) ^^^ tw c a ^^^ gm 2 (gm 2 (tw a c)) = tw (tw c a) (tw a c) from rfl, show gm 2 (gm 2 (tw d b)) ^^^ tw d b ^^^ gm 2 (gm 2 (tw b d)) = tw (tw d b) (tw b d) from rfl]
  rw [twice_tw, twice_tw, twice_tw, twice_tw]
theorem stir_list4 (l : List Nat) (h : l.length = 4) : stirN (stirN (stirN (stirN l))) = l := by
  match l, h with
  | [a, b, c, d], _ => exact stir_four a b c d
theorem col_mix (a : List Nat) (c : Nat) (hc : c < 4) : colN (mixN a) c = stirN (colN a c) := by
  refine ext_get (by rw [colN, mk_length, stirN, mk_length]) fun k hk => ?_
  rw [colN, mk_length] at hk
  rw [colN, mk_get _ _ _ hk, mixN, mk_get _ _ _ (by omega), show (4 * c + k) / 4 = c from by omega, show (4 * c + k) % 4 = k from by omega]
theorem col_ext (a b : List Nat) (ha : a.length = 16) (hb : b.length = 16) (h : ∀ c, c < 4 → colN a c = colN b c) : a = b := by
  refine ext_get (by omega) fun k hk => ?_
  have e := congrArg (fun l => l.getD (k % 4) 0) (h (k / 4) (by omega))
  simp only [colN] at e
  rw [mk_get _ _ _ (by omega), mk_get _ _ _ (by omega), show 4 * (k / 4) + k % 4 = k from by omega] at e
  exact e
theorem mix_four (a : List Nat) (h : a.length = 16) : mixN (mixN (mixN (mixN a))) = a := by
  refine col_ext _ _ (mk_length _ _) h fun c hc => ?_
  rw [col_mix _ c hc, col_mix _ c hc, col_mix _ c hc, col_mix _ c hc]
  exact stir_list4 _ (mk_length _ _)
theorem mixes_3 (a : List Nat) : mixes a 3 = mixN (mixN (mixN a)) := rfl

/-! ### Blocks -/
theorem dec_back (E b : List Nat) (hE : Ok E) (hb : b.length = 16) (ob : Ok b) (R : Nat) (hR : 1 ≤ R) : ∀ j, j ≤ R - 1 → decS E R (enc E R b) j = encS E b (R - 1 - j)
  | 0, _ => by
    have hl : (encS E b (R - 1)).length = 16 := by cases (R - 1) <;> exact mk_length _ _
    rw [decS, enc, xorN_twice _ _ (l_mov _ _), mov_13 _ (l_sub _), back_sub16 _ hl (encS_ok E b hE ob _)]
    rfl
  | j + 1, hj => by
    have ih := dec_back E b hE hb ob R hR j (by omega)
    obtain ⟨i, hi⟩ : ∃ i, R - 1 - j = i + 1 := ⟨R - 1 - j - 1, by omega⟩
    have hl : (encS E b i).length = 16 := by cases i <;> exact mk_length _ _
    rw [decS, ih, hi, show R - 1 - (j + 1) = i from by omega, encS, xorN_twice _ _ (l_mix _), mixes_3, mix_four _ (l_mov _ _), mov_13 _ (l_sub _), back_sub16 _ hl (encS_ok E b hE ob _)]
theorem dec_enc (E b : List Nat) (hE : Ok E) (hb : b.length = 16) (ob : Ok b) (R : Nat) (hR : 1 ≤ R) : dec E R (enc E R b) = b := by
  rw [dec, dec_back E b hE hb ob R hR (R - 1) (Nat.le_refl _), Nat.sub_self, encS, xorN_twice _ _ hb]
theorem enc_back (E b : List Nat) (hE : Ok E) (ob : Ok b) (R : Nat) (hR : 1 ≤ R) : ∀ i, i ≤ R - 1 → encS E (dec E R b) i = decS E R b (R - 1 - i)
  | 0, _ => by
    have hl : (decS E R b (R - 1)).length = 16 := by cases (R - 1) <;> exact mk_length _ _
    rw [encS, dec, xorN_twice _ _ hl]
    rfl
  | i + 1, hi => by
    have ih := enc_back E b hE ob R hR i (by omega)
    obtain ⟨j, hj⟩ : ∃ j, R - 1 - i = j + 1 := ⟨R - 1 - i - 1, by omega⟩
    have hl : (decS E R b j).length = 16 := by cases j <;> exact mk_length _ _
    have o1 : Ok (mixes (xorN 16 (decS E R b j) (rk E (R - 1 - j))) 3) := mixN_ok _ (mixN_ok _ (mixN_ok _ (xorN_ok _ _ _ (decS_ok E b R j) (rk_ok E _ hE))))
    have l1 : (mixes (xorN 16 (decS E R b j) (rk E (R - 1 - j))) 3).length = 16 := mk_length _ _
    rw [encS, ih, hj, decS, sub_back16 _ (l_mov _ _) (movN_ok _ _ o1), mov_31 _ l1, mixes_3, mix_four _ (l_xor _ _), show i + 1 = R - 1 - j from by omega, xorN_twice _ _ hl, show R - 1 - (R - 1 - j) = j from by omega]
theorem enc_dec (E b : List Nat) (hE : Ok E) (hb : b.length = 16) (ob : Ok b) (R : Nat) (hR : 1 ≤ R) : enc E R (dec E R b) = b := by
  rw [enc, enc_back E b hE ob R hR (R - 1) (Nat.le_refl _), Nat.sub_self, decS, sub_back16 _ (l_mov _ _) (movN_ok _ _ (xorN_ok _ _ _ ob (rk_ok E _ hE))), mov_31 _ (l_xor _ _), xorN_twice _ _ hb]
end Go.Proofs.Ytgfcbmajgaeadaa.aes
