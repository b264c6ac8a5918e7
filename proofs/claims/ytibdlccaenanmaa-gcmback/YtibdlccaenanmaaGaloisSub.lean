/-
  THE WALKS OF package galois's Sub and Back.
-/
import Derived.Test.YtibdlccaenanmaaGaloisMul
namespace Go.Proofs.Ytibdlccaenanmaa.gal
open Go.RowKit

/-- Turned up. -/
def rot (x k : Nat) : Nat := x * 2 ^ k % 256 ||| x / 2 ^ (8 - k)
theorem rot_lt (x k : Nat) (hx : x < 256) : rot x k < 256 := by
  have h1 : x * 2 ^ k % 256 < 2 ^ 8 := Nat.mod_lt _ (by decide)
  have h2 : x / 2 ^ (8 - k) < 2 ^ 8 := Nat.lt_of_le_of_lt (Nat.div_le_self _ _) (by omega)
  exact Nat.or_lt_two_pow h1 h2
theorem or8 (a b : Nat) (ha : a < 256) (hb : b < 256) : bits .or .u8 (a : Int) (b : Int) = ((a ||| b : Nat) : Int) := by
  have hx : a ||| b < 2 ^ 8 := Nat.or_lt_two_pow (by omega) (by omega)
  show IntKind.u8.wrap ((BitVec.ofInt 8 (a : Int) ||| BitVec.ofInt 8 (b : Int)).toNat : Int) = _
  rw [BitVec.toNat_or, BitVec.ofInt_natCast, BitVec.ofInt_natCast, BitVec.toNat_ofNat, BitVec.toNat_ofNat, Nat.mod_eq_of_lt (by omega : a < 2 ^ 8), Nat.mod_eq_of_lt (by omega : b < 2 ^ 8)]
  simp [IntKind.wrap, IntKind.bits, IntKind.signed]
  omega
theorem low3 (k : Nat) (h : k < 8) : bits .and .u64 (k : Int) 7 = (k : Int) := by
  have : ∀ n : Fin 8, bits .and .u64 ((n.val : Nat) : Int) 7 = ((n.val : Nat) : Int) := by decide +kernel
  exact this ⟨k, h⟩

set_option maxHeartbeats 400000 in
theorem rot_any (x k : Nat) (hx : x < 256) (hk : k < 8) (w : World) :
    Calls Try.prog 89 #[.int .u8 x, .int .i64 k] w fun e w' => e = .returned (.int .u8 (rot x k)) ∧ w' = w := by
  have h3 := low3 k hk
  go_enter Try.func89, Try.ntmps89
  go_wp2_with fail
  go_ret
  refine ⟨?_, rfl⟩
  have e : bits .or .u8 ((x : Int) * 2 ^ k % 256) ((x : Int) / 2 ^ (8 - k)) = (rot x k : Int) := by
    have e1 : (x : Int) * 2 ^ k % 256 = ((x * 2 ^ k % 256 : Nat) : Int) := by simp
    have e2 : (x : Int) / 2 ^ (8 - k) = ((x / 2 ^ (8 - k) : Nat) : Int) := by simp
    rw [e1, e2]
    exact or8 _ _ (Nat.mod_lt _ (by decide)) (Nat.lt_of_le_of_lt (Nat.div_le_self _ _) hx)
  rw [e]
  rfl

/-- What Sub makes of an inverse; what Back takes the inverse of. -/
def turns (b : Nat) : Nat := b ^^^ rot b 1 ^^^ rot b 2 ^^^ rot b 3 ^^^ rot b 4 ^^^ 99
def unturns (b : Nat) : Nat := rot b 1 ^^^ rot b 3 ^^^ rot b 6
theorem turns_base : (List.range 256).all (fun b => turns b == affU b) = true := by decide +kernel
theorem turns_eq (b : Nat) (h : b < 256) : turns b = gaff b := by rw [gaff_u]; exact eq_of_beq (all1 turns_base b h)
theorem unturns_base : (List.range 256).all (fun a => decide (unturns (a ^^^ 99) < 256) && (fun z => (if z = 0 then 0 else p254 z) == at8 BK a) (unturns (a ^^^ 99))) = true := by decide +kernel
theorem unturns_lt (a : Nat) (h : a < 256) : unturns (a ^^^ 99) < 256 := by
  have := all1 unturns_base a h
  simp only [Bool.and_eq_true, decide_eq_true_eq] at this
  exact this.1
theorem unturns_eq (a : Nat) (h : a < 256) : ginv (unturns (a ^^^ 99)) = gback a := by
  have h1 := all1 unturns_base a h
  simp only [Bool.and_eq_true, decide_eq_true_eq, beq_iff_eq] at h1
  rw [ginv_eq _ h1.1, h1.2]
  exact gsub_inj _ _ (Nat.mod_lt _ (by decide)) (gback_lt _) (by rw [sub_back a h]; exact (box a h).2.1)

set_option maxHeartbeats 800000 in
theorem sub_good (a : Nat) (ha : a < 256) (w : World) :
    Calls Try.prog 81 #[.int .u8 a] w fun e w' => e = .returned (.int .u8 (gsub a)) ∧ w' = w := by
  have f0 := inv_good a ha
  have hb := ginv_lt a
  have HG : Hid (turns (ginv a) = gsub a) := turns_eq _ hb
  generalize ginv a = b at *
  have f1 : ∀ w, Calls Try.prog 89 #[.int .u8 b, .int .i64 1] w fun e w' => e = .returned (.int .u8 (rot b 1)) ∧ w' = w := rot_any b 1 hb (by decide)
  have f2 : ∀ w, Calls Try.prog 89 #[.int .u8 b, .int .i64 2] w fun e w' => e = .returned (.int .u8 (rot b 2)) ∧ w' = w := rot_any b 2 hb (by decide)
  have f3 : ∀ w, Calls Try.prog 89 #[.int .u8 b, .int .i64 3] w fun e w' => e = .returned (.int .u8 (rot b 3)) ∧ w' = w := rot_any b 3 hb (by decide)
  have f4 : ∀ w, Calls Try.prog 89 #[.int .u8 b, .int .i64 4] w fun e w' => e = .returned (.int .u8 (rot b 4)) ∧ w' = w := rot_any b 4 hb (by decide)
  have l1 := rot_lt b 1 hb
  have l2 := rot_lt b 2 hb
  have l3 := rot_lt b 3 hb
  have l4 := rot_lt b 4 hb
  have HT : Hid (turns b = b ^^^ rot b 1 ^^^ rot b 2 ^^^ rot b 3 ^^^ rot b 4 ^^^ 99) := rfl
  generalize rot b 1 = r1 at *
  generalize rot b 2 = r2 at *
  generalize rot b 3 = r3 at *
  generalize rot b 4 = r4 at *
  have e1 := xor8 b r1 hb l1
  have m1 : b ^^^ r1 < 256 := Nat.xor_lt_two_pow (n := 8) hb l1
  generalize b ^^^ r1 = x1 at *
  have e2 := xor8 x1 r2 m1 l2
  have m2 : x1 ^^^ r2 < 256 := Nat.xor_lt_two_pow (n := 8) m1 l2
  generalize x1 ^^^ r2 = x2 at *
  have e3 := xor8 x2 r3 m2 l3
  have m3 : x2 ^^^ r3 < 256 := Nat.xor_lt_two_pow (n := 8) m2 l3
  generalize x2 ^^^ r3 = x3 at *
  have e4 := xor8 x3 r4 m3 l4
  have m4 : x3 ^^^ r4 < 256 := Nat.xor_lt_two_pow (n := 8) m3 l4
  generalize x3 ^^^ r4 = x4 at *
  have e5 : bits .xor .u8 (x4 : Int) 99 = _ := xor8 x4 99 m4 (by decide)
  generalize x4 ^^^ 99 = x5 at *
  go_enter Try.func81, Try.ntmps81
  go_wp2_with (first
    | (go_at_call 88; refine (f0 _).mono ?_; rintro e w1 ⟨rfl, rfl⟩)
    | (go_at_call 89; first
      | (with_reducible refine (f1 _).mono ?_; rintro e w1 ⟨rfl, rfl⟩)
      | (with_reducible refine (f2 _).mono ?_; rintro e w1 ⟨rfl, rfl⟩)
      | (with_reducible refine (f3 _).mono ?_; rintro e w1 ⟨rfl, rfl⟩)
      | (with_reducible refine (f4 _).mono ?_; rintro e w1 ⟨rfl, rfl⟩)))
  go_ret
  exact ⟨by rw [← HG.out, HT.out]; rfl, rfl⟩

end Go.Proofs.Ytibdlccaenanmaa.gal
