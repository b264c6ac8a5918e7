/-
  THE WALKS OF package galois's Mul and Inv.
-/
import Derived.Test.YtibdlccaenanmaaPlainGaloisLaws
import Derived.BigQuiet
import Derived.WalkSmall
import Derived.Test.YtibdlccaenanmaaProg
namespace Go.Proofs.Ytibdlccaenanmaa.gal
open Go.RowKit

theorem whole_any (x : Nat) (h : x < 2) (w : World) :
    Calls Try.prog 90 #[.int .u8 x] w fun e w' => e = .returned (.int .u8 ((255 * x : Nat) : Int)) ∧ w' = w := by
  rcases (by omega : x = 0 ∨ x = 1) with rfl | rfl
  · go_enter Try.func90, Try.ntmps90
    go_wp2
    go_ret
    exact ⟨rfl, rfl⟩
  · go_enter Try.func90, Try.ntmps90
    go_wp2
    go_ret
    exact ⟨rfl, rfl⟩

/-- Times x. -/
def xt (a : Nat) : Nat := a * 2 % 256 ^^^ 27 * (a / 128 % 2)
def xts (a : Nat) : Nat → Nat
  | 0 => a
  | k + 1 => xt (xts a k)
def prods (a b : Nat) : Nat → Nat
  | 0 => 0
  | k + 1 => prods a b k ^^^ xts a k * (b / 2 ^ k % 2)
theorem xt_lt (a : Nat) : xt a < 256 := by
  have h1 : a * 2 % 256 < 2 ^ 8 := Nat.mod_lt _ (by decide)
  have h2 : 27 * (a / 128 % 2) < 2 ^ 8 := by omega
  exact Nat.xor_lt_two_pow h1 h2
theorem xts_lt (a : Nat) (h : a < 256) : ∀ k, xts a k < 256
  | 0 => h
  | _ + 1 => xt_lt _
theorem prods_lt (a b : Nat) (h : a < 256) : ∀ k, prods a b k < 256
  | 0 => by show 0 < 256; decide
  | k + 1 => by
    have h1 := xts_lt a h k
    have h2 : xts a k * (b / 2 ^ k % 2) < 2 ^ 8 := by
      rcases (by omega : b / 2 ^ k % 2 = 0 ∨ b / 2 ^ k % 2 = 1) with e | e <;> rw [e] <;> omega
    exact Nat.xor_lt_two_pow (prods_lt a b h k) h2
theorem xt_lin : Lin xt := ((Lin.low.comp (Lin.shift 1))).xor (Lin.bit 27 7)
theorem xts_lin : ∀ k, Lin fun a => xts a k
  | 0 => Lin.id
  | k + 1 => xt_lin.comp (xts_lin k)
theorem prods_left (b : Nat) : ∀ k, Lin fun a => prods a b k
  | 0 => Lin.nought
  | k + 1 => (prods_left b k).xor ((xts_lin k).when _ (Nat.mod_lt _ (by decide)))
theorem prods_right (a : Nat) : ∀ k, Lin fun b => prods a b k
  | 0 => Lin.nought
  | k + 1 => (prods_right a k).xor (Lin.bit _ k)
theorem prods_base : (List.range 8).all (fun i => (List.range 8).all fun j => prods (2 ^ i) (2 ^ j) 8 == gmU (2 ^ i) (2 ^ j)) = true := by decide +kernel
theorem prods_eq (a b : Nat) (ha : a < 256) (hb : b < 256) : prods a b 8 = gm a b := by
  refine Lin.ext (prods_left b 8) (gm_left b) 8 (fun i hi => ?_) a ha
  refine Lin.ext (prods_right (2 ^ i) 8) (gm_right (2 ^ i)) 8 (fun j hj => ?_) b hb
  exact eq_of_beq (all2 prods_base i j hi hj)

/-! ### The model's words for it -/
theorem xor8 (a b : Nat) (ha : a < 256) (hb : b < 256) : bits .xor .u8 (a : Int) (b : Int) = ((a ^^^ b : Nat) : Int) := by
  have hx : a ^^^ b < 2 ^ 8 := Nat.xor_lt_two_pow (by omega) (by omega)
  show IntKind.u8.wrap ((BitVec.ofInt 8 (a : Int) ^^^ BitVec.ofInt 8 (b : Int)).toNat : Int) = _
  rw [BitVec.toNat_xor, BitVec.ofInt_natCast, BitVec.ofInt_natCast, BitVec.toNat_ofNat, BitVec.toNat_ofNat, Nat.mod_eq_of_lt (by omega : a < 2 ^ 8), Nat.mod_eq_of_lt (by omega : b < 2 ^ 8)]
  simp [IntKind.wrap, IntKind.bits, IntKind.signed]
  omega
theorem and8 (a b : Nat) (ha : a < 256) (hb : b < 256) : bits .and .u8 (a : Int) (b : Int) = ((a &&& b : Nat) : Int) := by
  have hx : a &&& b < 2 ^ 8 := Nat.and_lt_two_pow _ (by omega)
  show IntKind.u8.wrap ((BitVec.ofInt 8 (a : Int) &&& BitVec.ofInt 8 (b : Int)).toNat : Int) = _
  rw [BitVec.toNat_and, BitVec.ofInt_natCast, BitVec.ofInt_natCast, BitVec.toNat_ofNat, BitVec.toNat_ofNat, Nat.mod_eq_of_lt (by omega : a < 2 ^ 8), Nat.mod_eq_of_lt (by omega : b < 2 ^ 8)]
  simp [IntKind.wrap, IntKind.bits, IntKind.signed]
  omega
theorem and_bit (a u : Nat) (ha : a < 256) (hu : u < 2) : a &&& 255 * u = a * u := by
  rcases (by omega : u = 0 ∨ u = 1) with rfl | rfl
  · simp
  · show a &&& (2 ^ 8 - 1) = a * 1
    rw [Nat.and_two_pow_sub_one_eq_mod]; omega

set_option maxRecDepth 20000 in
set_option maxHeartbeats 800000 in
theorem mul_good (a b : Nat) (ha : a < 256) (hb : b < 256) (w : World) :
    Calls Try.prog 82 #[.int .u8 a, .int .u8 b] w fun e w' => e = .returned (.int .u8 (gm a b)) ∧ w' = w := by
  go_enter Try.func82, Try.ntmps82
  go_wp2_with fail
  go_loop [0, 1, 5, 6] (fun x y p i => ∃ k : Nat, k ≤ 8 ∧ i = .int .i64 k ∧ x = .int .u8 (xts a k) ∧ y = .int .u8 ((b / 2 ^ k : Nat) : Int) ∧ p = .int .u8 (prods a b k)) (fun _ _ _ i => 8 - (intOf i).toNat)
  case atStart => exact ⟨0, by omega, rfl, rfl, by rw [Nat.pow_zero, Nat.div_one], rfl⟩
  case round =>
    obtain ⟨k, hk, rfl, rfl, rfl, rfl⟩ := hrel
    by_cases hlt : k < 8
    · have hd : decide ((k : Int) < 8) = true := by simp; omega
      have hx := xts_lt a ha k
      have hp := prods_lt a b ha k
      have hy : b / 2 ^ k < 256 := Nat.lt_of_le_of_lt (Nat.div_le_self _ _) hb
      have H1 : Hid (prods a b (k + 1) = prods a b k ^^^ xts a k * (b / 2 ^ k % 2)) := rfl
      have H2 : Hid (xts a (k + 1) = xts a k * 2 % 256 ^^^ 27 * (xts a k / 128 % 2)) := rfl
      have H3 : Hid (b / 2 ^ (k + 1) = b / 2 ^ k / 2) := by show b / 2 ^ (k + 1) = b / 2 ^ k / 2; rw [Nat.pow_succ, Nat.div_div_eq_div_mul]
      generalize xts a k = x at *
      generalize prods a b k = p at *
      generalize b / 2 ^ k = y at *
      obtain ⟨u, hu⟩ : ∃ u, u = y % 2 := ⟨_, rfl⟩
      obtain ⟨v, hv⟩ : ∃ v, v = x / 128 := ⟨_, rfl⟩
      obtain ⟨U, hU⟩ : ∃ U, U = 255 * u := ⟨_, rfl⟩
      obtain ⟨V, hV⟩ : ∃ V, V = 255 * v := ⟨_, rfl⟩
      obtain ⟨m, hm⟩ : ∃ m, m = x * u := ⟨_, rfl⟩
      obtain ⟨n, hn⟩ : ∃ n, n = 27 * v := ⟨_, rfl⟩
      obtain ⟨p', hp'⟩ : ∃ q, q = p ^^^ m := ⟨_, rfl⟩
      obtain ⟨x2, hx2⟩ : ∃ q, q = x * 2 % 256 := ⟨_, rfl⟩
      obtain ⟨x', hx'⟩ : ∃ q, q = x2 ^^^ n := ⟨_, rfl⟩
      obtain ⟨y', hy'⟩ : ∃ q, q = y / 2 := ⟨_, rfl⟩
      have lu : u < 2 := by omega
      have lv : v < 2 := by omega
      have lm : m < 256 := by rcases (by omega : u = 0 ∨ u = 1) with e | e <;> rw [hm, e] <;> omega
      have e1 : bits .and .u8 (y : Int) 1 = (u : Int) := by
        rw [show (1 : Int) = ((1 : Nat) : Int) from rfl, and8 _ _ hy (by decide), Nat.and_one_is_mod, hu]
      have e2 : (x : Int) / 128 = (v : Int) := by omega
      have e3 : bits .and .u8 (x : Int) (U : Int) = (m : Int) := by rw [and8 _ _ hx (by omega), hU, and_bit _ _ hx lu, hm]
      have e4 : bits .and .u8 27 (V : Int) = (n : Int) := by rw [show (27 : Int) = ((27 : Nat) : Int) from rfl, and8 _ _ (by decide) (by omega), hV, and_bit _ _ (by decide) lv, hn]
      have e5 : bits .xor .u8 (p : Int) (m : Int) = (p' : Int) := by rw [xor8 _ _ hp lm, hp']
      have e6 : bits .xor .u8 (x2 : Int) (n : Int) = (x' : Int) := by rw [xor8 _ _ (by omega) (by omega), hx']
      have e7 : (x : Int) * 2 % 256 = (x2 : Int) := by omega
      have e8 : (y : Int) / 2 = (y' : Int) := by omega
      have f1 := whole_any u lu
      have f2 := whole_any v lv
      rw [← hU] at f1
      rw [← hV] at f2
      have H4 : Hid (prods a b (k + 1) = p') := by show prods a b (k + 1) = p'; rw [H1.out, ← hu, ← hm, hp']
      have H5 : Hid (xts a (k + 1) = x') := by show xts a (k + 1) = x'; rw [H2.out, hx', hx2, hn, hv]; congr 2; omega
      have H6 : Hid (b / 2 ^ (k + 1) = y') := by show b / 2 ^ (k + 1) = y'; rw [H3.out, hy']
      clear hu hv hU hV hm hn hp' hx2 hx' hy' H1 H2 H3
      go_wp2_with (go_at_call 90; first | (refine (f1 _).mono ?_; rintro e w1 ⟨rfl, rfl⟩) | (refine (f2 _).mono ?_; rintro e w1 ⟨rfl, rfl⟩))
      go_round
      case rel => exact ⟨k + 1, by omega, by go_num, by rw [H5.out], by rw [H6.out], by rw [H4.out]⟩
      case measure => simp [intOf]; omega
    · obtain rfl : k = 8 := by omega
      have hd : decide (((8 : Nat) : Int) < 8) = false := by decide
      have HG : Hid (prods a b 8 = gm a b) := prods_eq a b ha hb
      generalize prods a b 8 = p at *
      generalize b / 2 ^ 8 = y at *
      generalize xts a 8 = x at *
      go_wp2_with fail
      go_ret
      exact ⟨by rw [HG.out]; rfl, rfl⟩

/-! ### Inverses -/
def sqs (a : Nat) : Nat → Nat
  | 0 => a
  | k + 1 => gm (sqs a k) (sqs a k)
def pws (a : Nat) : Nat → Nat
  | 0 => 1
  | k + 1 => gm (pws a k) (gm (sqs a k) (sqs a k))
theorem sqs_lt (a : Nat) (h : a < 256) : ∀ k, sqs a k < 256
  | 0 => h
  | _ + 1 => gm_lt _ _
theorem pws_lt (a : Nat) : ∀ k, pws a k < 256
  | 0 => by show 1 < 256; decide
  | _ + 1 => gm_lt _ _
def invF (m : Nat → Nat → Nat) (a : Nat) : Nat :=
  (fun a2 => (fun a4 => (fun a8 => (fun a16 => (fun a32 => (fun a64 => (fun a128 => m (m (m (m (m (m (m 1 a2) a4) a8) a16) a32) a64) a128) (m a64 a64)) (m a32 a32)) (m a16 a16)) (m a8 a8)) (m a4 a4)) (m a2 a2)) (m a a)
def sqF (m : Nat → Nat → Nat) (a : Nat) : Nat → Nat
  | 0 => a
  | k + 1 => m (sqF m a k) (sqF m a k)
def pwF (m : Nat → Nat → Nat) (a : Nat) : Nat → Nat
  | 0 => 1
  | k + 1 => m (pwF m a k) (m (sqF m a k) (sqF m a k))
theorem sqs_f (a : Nat) : ∀ k, sqs a k = sqF gm a k
  | 0 => rfl
  | k + 1 => by unfold sqs sqF; rw [sqs_f a k]
theorem pws_f (a : Nat) : ∀ k, pws a k = pwF gm a k
  | 0 => rfl
  | k + 1 => by unfold pws pwF; rw [pws_f a k, sqs_f a k]
theorem pwF_7 (m : Nat → Nat → Nat) (a : Nat) : pwF m a 7 = invF m a := rfl
theorem gm_gmU : gm = gmU := funext fun a => funext fun b => gm_u a b
theorem inv_base : (List.range 256).all (fun a => invF gmU a == if a = 0 then 0 else p254 a) = true := by decide +kernel
theorem pws_eq (a : Nat) (ha : a < 256) : pws a 7 = ginv a := by
  rw [pws_f, pwF_7, gm_gmU, ginv_eq a ha]
  exact eq_of_beq (all1 inv_base a ha)

set_option maxHeartbeats 800000 in
theorem inv_good (a : Nat) (ha : a < 256) (w : World) :
    Calls Try.prog 88 #[.int .u8 a] w fun e w' => e = .returned (.int .u8 (ginv a)) ∧ w' = w := by
  go_enter Try.func88, Try.ntmps88
  go_wp2_with fail
  go_loop [0, 3, 4] (fun x p i => ∃ k : Nat, k ≤ 7 ∧ i = .int .i64 k ∧ x = .int .u8 (sqs a k) ∧ p = .int .u8 (pws a k)) (fun _ _ i => 7 - (intOf i).toNat)
  case atStart => exact ⟨0, by omega, rfl, rfl, rfl⟩
  case round =>
    obtain ⟨k, hk, rfl, rfl, rfl⟩ := hrel
    by_cases hlt : k < 7
    · have hd : decide ((k : Int) < 7) = true := by simp; omega
      have f1 := mul_good _ _ (sqs_lt a ha k) (sqs_lt a ha k)
      have f2 := mul_good _ _ (pws_lt a k) (sqs_lt a ha (k + 1))
      have H4 : Hid (pws a (k + 1) = gm (pws a k) (sqs a (k + 1))) := rfl
      have H5 : Hid (sqs a (k + 1) = gm (sqs a k) (sqs a k)) := rfl
      rw [← H5.out] at f1
      rw [← H4.out] at f2
      clear H4 H5
      have F1 : Hid (∀ w, Calls Try.prog 82 #[.int .u8 (sqs a k), .int .u8 (sqs a k)] w fun e w' => e = .returned (.int .u8 (sqs a (k + 1))) ∧ w' = w) := f1
      have F2 : Hid (∀ w, Calls Try.prog 82 #[.int .u8 (pws a k), .int .u8 (sqs a (k + 1))] w fun e w' => e = .returned (.int .u8 (pws a (k + 1))) ∧ w' = w) := f2
      clear f1 f2
      obtain ⟨x', H5⟩ : ∃ q, Hid (q = sqs a (k + 1)) := ⟨_, rfl⟩
      obtain ⟨p', H4⟩ : ∃ q, Hid (q = pws a (k + 1)) := ⟨_, rfl⟩
      rw [← H5.out] at F1 F2
      rw [← H4.out] at F2
      generalize sqs a k = x at *
      generalize pws a k = p at *
      go_wp2_with (go_at_call 82; first | (with_reducible refine (F1.out _).mono ?_; rintro e w1 ⟨rfl, rfl⟩) | (with_reducible refine (F2.out _).mono ?_; rintro e w1 ⟨rfl, rfl⟩))
      go_round
      case rel => exact ⟨k + 1, by omega, by go_num, by rw [H5.out], by rw [H4.out]⟩
      case measure => simp [intOf]; omega
    · obtain rfl : k = 7 := by omega
      have hd : decide (((7 : Nat) : Int) < 7) = false := by decide
      have HG : Hid (pws a 7 = ginv a) := pws_eq a ha
      generalize pws a 7 = p at *
      generalize sqs a 7 = x at *
      go_wp2_with fail
      go_ret
      exact ⟨by rw [HG.out]; rfl, rfl⟩
end Go.Proofs.Ytibdlccaenanmaa.gal
