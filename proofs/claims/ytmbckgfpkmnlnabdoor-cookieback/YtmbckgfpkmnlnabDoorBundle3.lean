/-
  THE WALKS OF 'zeros' and 'sized' of the verifier's own package.
  PLAIN: what is marked, by digests by a key. No program is named here.
  NUMBERS OF 32 BITS in the model's words: xor, or, and, sums, turns. No program is named here.
-/
import Derived.Test.YtmbckgfpkmnlnabDoorBundle2
import Derived.WalkKit
import Derived.PlainAid
import Derived.Test.YtmbckgfpkmnlnabDoorPlainBlake
import Derived.Test.YtmbckgfpkmnlnabDoorPlainSha
namespace Go.Proofs.YtmbckgfpkmnlnabDoor
open Go.RowKit

/-- Cut, or with bytes 0 behind it. -/
def sz (s : ByteArray) (n : Nat) : ByteArray := ⟨(s.data.toList.take n ++ List.replicate (n - s.size) 0).toArray⟩
theorem sz_size (s : ByteArray) (n : Nat) : (sz s n).size = n := by
  show (s.data.toList.take n ++ List.replicate (n - s.size) 0).toArray.size = n
  have h : s.data.toList.length = s.size := by rw [Array.length_toList]; rfl
  rw [List.size_toArray, List.length_append, List.length_take, List.length_replicate, h]
  omega
/-- Bytes 0. -/
def noughts (n : Nat) : ByteArray := ⟨(List.replicate n 0).toArray⟩
theorem noughts_size (n : Nat) : (noughts n).size = n := by
  show (List.replicate n 0).toArray.size = n
  rw [List.size_toArray, List.length_replicate]
theorem repeat_zero (n : Nat) : Lib.repeatL [0] n = List.replicate n 0 := by
  induction n with
  | zero => rfl
  | succ n ih => rw [Lib.repeatL, ih]; rfl
theorem sz_long (s : ByteArray) (n : Nat) (h : n ≤ s.size) : s.extract 0 n = sz s n := by
  unfold sz
  rw [show n - s.size = 0 from by omega, List.replicate_zero, List.append_nil]
  apply ByteArray.ext
  rw [ByteArray.data_extract]
  apply Array.ext'
  simp
theorem sz_short (s : ByteArray) (n : Nat) (h : s.size ≤ n) : s ++ noughts (n - s.size) = sz s n := by
  unfold sz noughts
  rw [List.take_of_length_le (by rw [Array.length_toList]; exact h)]
  apply ByteArray.ext
  simp

theorem zeros_any (n : Nat) (h : n ≤ 140737488355328) (w : World) :
    Calls Tryd.prog 11 #[.int .i64 n] w fun e w' => e = .returned (.string (noughts n)) ∧ Below w.heap.size w w' := by
  go_enter Tryd.func11, Tryd.ntmps11
  go_wp2_with fail
  refine (Tryd.strings_Repeat ⟨#[0]⟩ n w (by omega) (by show 1 * n ≤ _; omega)).mono ?_
  rintro e w1 ⟨rfl, hb1⟩
  go_wp2
  go_ret
  exact ⟨by rw [repeat_zero]; rfl, hb1⟩

theorem sized_any (s : ByteArray) (n : Nat) (h : s.size ≤ maxLen) (hn : n ≤ 140737488355328) (w : World) :
    Calls Tryd.prog 5 #[.string s, .int .i64 n] w fun e w' => e = .returned (.string (sz s n)) ∧ Below w.heap.size w w' := by
  have hm : maxLen ≤ 9223372036854775807 := by decide
  replace h : s.size ≤ 9223372036854775807 := Nat.le_trans h hm
  clear hm
  by_cases hc : n ≤ s.size
  · have hd : decide ((s.size : Int) ≥ (n : Int)) = true := by simp; omega
    have hsl : ∀ u : World, (Instr.slice 9 (.string s) none (some (.int .i64 (n : Int))) none).run Tryd.prog u = .ok (.string (sz s n)) u := fun u => by
      have h := run_slice_string_to_if (P := Tryd.prog) u 9 s .i64 (n : Int) Tryd.underlying9
      rw [if_pos ⟨by omega, by omega⟩] at h
      rw [h, Int.toNat_natCast, sz_long s n hc]
    go_enter Tryd.func5, Tryd.ntmps5
    go_wp2
    go_ret
    exact ⟨rfl, Below.refl _ _⟩
  · have hd : decide ((s.size : Int) ≥ (n : Int)) = false := by simp; omega
    have h0 : (0 : Int) ≤ s.size := by omega
    have h1 : (s.size : Int) < n := by omega
    have he : (n : Int) - (s.size : Int) = ((n - s.size : Nat) : Int) := by omega
    have hb : n - s.size ≤ 140737488355328 := by omega
    have HS : Hid (s.size ≤ n) := by show s.size ≤ n; omega
    go_enter Tryd.func5, Tryd.ntmps5
    go_wp2_with fail
    refine (zeros_any (n - s.size) hb _).mono ?_
    rintro e w1 ⟨rfl, hb1⟩
    have hns : (noughts (n - s.size)).size = n - s.size := noughts_size _
    go_wp2
    go_ret
    exact ⟨by rw [sz_short s n HS.out]; rfl, hb1⟩
end Go.Proofs.YtmbckgfpkmnlnabDoor
namespace Go.Proofs.YtmbckgfpkmnlnabDoor.coo
open Go.RowKit

/-- The key that goes with a public key; a digest of 16 bytes; both marks. -/
def keyT (what pub : ByteArray) : ByteArray := bla.blaT ⟨#[]⟩ (what ++ pub) 32
def mk (key text : ByteArray) : ByteArray := bla.blaT key text 16
def prf (c once : ByteArray) : ByteArray := if c.size = 0 then noughts 16 else mk c once
def m1 (pub text : ByteArray) : ByteArray := mk (keyT ⟨#[109, 97, 114, 107, 45, 45, 45, 45]⟩ pub) text
def once (pub text : ByteArray) : ByteArray := text ++ m1 pub text
def marked (pub c text : ByteArray) : ByteArray := once pub text ++ prf c (once pub text)
theorem keyT_size (what pub : ByteArray) : (keyT what pub).size = 32 := bla.blaT_size _ _ (by decide)
theorem mk_size (key text : ByteArray) : (mk key text).size = 16 := bla.blaT_size _ _ (by decide)
theorem prf_size (c o : ByteArray) : (prf c o).size = 16 := by
  unfold prf
  split
  · exact noughts_size 16
  · exact mk_size _ _
theorem m1_size (pub text : ByteArray) : (m1 pub text).size = 16 := mk_size _ _
theorem once_size (pub text : ByteArray) : (once pub text).size = text.size + 16 := by rw [once, ByteArray.size_append, m1_size]
theorem marked_size (pub c text : ByteArray) : (marked pub c text).size = text.size + 32 := by rw [marked, ByteArray.size_append, once_size, prf_size]
theorem app_to (a b : ByteArray) : (a ++ b).extract 0 a.size = a := by
  apply ByteArray.ext
  rw [ByteArray.data_extract, ByteArray.data_append]
  apply Array.toList_inj.1
  rw [Array.toList_extract, Array.toList_append, List.extract_eq_take_drop, List.drop_zero, Nat.sub_zero]
  exact List.take_left' rfl
theorem app_from (a b : ByteArray) : (a ++ b).extract a.size (a ++ b).size = b := by
  apply ByteArray.ext
  rw [ByteArray.data_extract, ByteArray.data_append]
  apply Array.toList_inj.1
  rw [Array.toList_extract, Array.toList_append, List.extract_eq_take_drop, show List.drop a.size (a.data.toList ++ b.data.toList) = b.data.toList from List.drop_left' (by rw [Array.length_toList]; rfl)]
  exact List.take_of_length_le (by rw [ByteArray.size_append]; show b.data.size ≤ a.data.size + b.data.size - a.data.size; omega)
end Go.Proofs.YtmbckgfpkmnlnabDoor.coo
namespace Go.Proofs.YtmbckgfpkmnlnabDoor.b32
open Go.RowKit
open Go.Proofs.YtmbckgfpkmnlnabDoor.cha (ad ad_lt rl Ws xor_lt)
open Go.Proofs.YtmbckgfpkmnlnabDoor.sha (and_lt or_lt)

/-! ### The model's words for it -/
theorem ofInt32 (a : Nat) (h : a < 4294967296) : (BitVec.ofInt 32 (a : Int)).toNat = a := by
  rw [BitVec.ofInt_natCast, BitVec.toNat_ofNat]; exact Nat.mod_eq_of_lt h
theorem wrap32 (n : Int) : IntKind.u32.wrap n = n % 4294967296 := by simp [IntKind.wrap, IntKind.bits, IntKind.signed]
theorem xor32 (a b : Nat) (ha : a < 4294967296) (hb : b < 4294967296) : bits .xor .u32 (a : Int) (b : Int) = ((a ^^^ b : Nat) : Int) := by
  show IntKind.u32.wrap ((BitVec.ofInt 32 (a : Int) ^^^ BitVec.ofInt 32 (b : Int)).toNat : Int) = _
  rw [BitVec.toNat_xor, ofInt32 a ha, ofInt32 b hb, wrap32]
  have := xor_lt ha hb
  omega
theorem or32 (a b : Nat) (ha : a < 4294967296) (hb : b < 4294967296) : bits .or .u32 (a : Int) (b : Int) = ((a ||| b : Nat) : Int) := by
  show IntKind.u32.wrap ((BitVec.ofInt 32 (a : Int) ||| BitVec.ofInt 32 (b : Int)).toNat : Int) = _
  rw [BitVec.toNat_or, ofInt32 a ha, ofInt32 b hb, wrap32]
  have := or_lt ha hb
  omega
theorem and32 (a b : Nat) (ha : a < 4294967296) (hb : b < 4294967296) : bits .and .u32 (a : Int) (b : Int) = ((a &&& b : Nat) : Int) := by
  show IntKind.u32.wrap ((BitVec.ofInt 32 (a : Int) &&& BitVec.ofInt 32 (b : Int)).toNat : Int) = _
  rw [BitVec.toNat_and, ofInt32 a ha, ofInt32 b hb, wrap32]
  have : a &&& b < 4294967296 := and_lt ha
  omega
theorem add32 (a b : Nat) : ((a : Int) + (b : Int)) % 4294967296 = ((ad a b : Nat) : Int) := by unfold ad; omega
/-- Turned, in the model's words. -/
theorem turn_bits (k x : Nat) (hk : 0 < k) (hk2 : k < 32) (h : x < 4294967296) : bits .or .u32 ((x : Int) * 2 ^ k % 4294967296) ((x : Int) / 2 ^ (32 - k)) = ((rl k x : Nat) : Int) := by
  have e1 : (x : Int) * 2 ^ k % 4294967296 = ((x * 2 ^ k % 4294967296 : Nat) : Int) := by simp
  have e2 : (x : Int) / 2 ^ (32 - k) = ((x / 2 ^ (32 - k) : Nat) : Int) := by simp
  have hd : x / 2 ^ (32 - k) < 2 ^ k := by
    rw [Nat.div_lt_iff_lt_mul (Nat.pow_pos (by decide)), ← Nat.pow_add, show k + (32 - k) = 32 from by omega]
    exact h
  have hm : x * 2 ^ k % 4294967296 = 2 ^ k * (x % 2 ^ (32 - k)) := by
    have : (4294967296 : Nat) = 2 ^ (32 - k) * 2 ^ k := by rw [← Nat.pow_add, show 32 - k + k = 32 from by omega]
    rw [this, Nat.mul_mod_mul_right, Nat.mul_comm]
  rw [e1, e2, or32 _ _ (Nat.mod_lt _ (by decide)) (Nat.lt_of_le_of_lt (Nat.div_le_self _ _) h), rl, hm, Nat.two_pow_add_eq_or_of_lt hd]
theorem or_add (a b k : Nat) (ha : a < 2 ^ k) : b * 2 ^ k ||| a = b * 2 ^ k + a := by
  rw [Nat.mul_comm, ← Nat.two_pow_add_eq_or_of_lt ha b]
theorem not32 (a : Nat) (h : a < 4294967296) : bits .xor .u32 IntKind.u32.max (a : Int) = ((4294967295 ^^^ a : Nat) : Int) := xor32 4294967295 a (by omega) h
theorem wrap64 (n : Nat) (h : n < 18446744073709551616) : IntKind.u64.wrap (n : Int) = (n : Int) := by
  simp [IntKind.wrap, IntKind.bits, IntKind.signed]; omega
end Go.Proofs.YtmbckgfpkmnlnabDoor.b32
