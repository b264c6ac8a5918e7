/-
  THE WALKS OF package gcm's xored and numbered.
-/
import Derived.Test.YtibdlccaenanmaaPlainGcm
import Derived.Test.YtibdlccaenanmaaRow2
import Derived.Test.YtibdlccaenanmaaGhashSum
import Derived.Test.YtibdlccaenanmaaBld
namespace Go.Proofs.Ytibdlccaenanmaa.gcm
open Go.RowKit
open Go.Proofs.Ytibdlccaenanmaa.aes (bytes_row conv_row Ok infoU8)
open Go.Proofs.Ytibdlccaenanmaa.ghs (tb tb_lt xo mkl upl upl_length upl_all bt_nb)

theorem xor8 (a b : Nat) (ha : a < 256) (hb : b < 256) : bits .xor .u8 (a : Int) (b : Int) = ((a ^^^ b : Nat) : Int) := by
  have hx : a ^^^ b < 2 ^ 8 := Nat.xor_lt_two_pow (by omega) (by omega)
  show IntKind.u8.wrap ((BitVec.ofInt 8 (a : Int) ^^^ BitVec.ofInt 8 (b : Int)).toNat : Int) = _
  rw [BitVec.toNat_xor, BitVec.ofInt_natCast, BitVec.ofInt_natCast, BitVec.toNat_ofNat, BitVec.toNat_ofNat, Nat.mod_eq_of_lt (by omega : a < 2 ^ 8), Nat.mod_eq_of_lt (by omega : b < 2 ^ 8)]
  simp [IntKind.wrap, IntKind.bits, IntKind.signed]
  omega
theorem upl_here (l : List Nat) (f : Nat → Nat) : ∀ k j, k ≤ j → (upl l f k).getD j 0 = l.getD j 0
  | 0, _, _ => rfl
  | k + 1, j, h => by
    rw [upl, List.getD_eq_getElem?_getD, List.getElem?_set_ne (by omega), ← List.getD_eq_getElem?_getD, upl_here l f k j (by omega)]

theorem upl_ok (l : List Nat) (f : Nat → Nat) (hl : Ok l) (hf : ∀ j, f j < 256) : ∀ k, Ok (upl l f k)
  | 0 => hl
  | k + 1 => fun x hx => by
    rw [upl] at hx
    rcases List.mem_or_eq_of_mem_set hx with h | h
    · exact upl_ok l f hl hf k x h
    · rw [h]; exact hf k
theorem tx_app (a b : List Nat) : tx (a ++ b) = tx a ++ tx b := by
  apply ByteArray.ext
  rw [ByteArray.data_append]
  simp [tx]

set_option maxRecDepth 100000 in
set_option maxHeartbeats 1600000 in
theorem xored_any (a b : ByteArray) (hb : a.size ≤ b.size) (ha : a.size ≤ 140737488355328) (w : World) :
    Calls Try.prog 18 #[.string a, .string b] w fun e w' => e = .returned (.string (xo a b)) ∧ Below w.heap.size w w' := by
  obtain ⟨W, cp, hcv, hRw, hbW⟩ := bytes_row a w
  have hgb := PlainAid.get_bt b
  obtain ⟨n, hn⟩ : ∃ n, a.size = n := ⟨_, rfl⟩
  have HX : Hid (xo a b = tx (mkl n fun j => tb a j ^^^ tb b j)) := by rw [← hn]; rfl
  have HZ : Hid (nb a = nb a) := rfl
  have hZl : (nb a).length = n := by rw [nb_length, hn]
  have hok : ∀ k, Ok (upl (nb a) (fun j => tb a j ^^^ tb b j) k) := fun k => upl_ok _ _ (nb_lt a) (fun j => Nat.xor_lt_two_pow (n := 8) (tb_lt a j) (tb_lt b j)) k
  have hall : upl (nb a) (fun j => tb a j ^^^ tb b j) n = mkl n (fun j => tb a j ^^^ tb b j) := upl_all _ _ n hZl
  rw [hn] at hb ha hRw hcv
  have hR0 : Row W w.heap.size 1 w.heap.size n cp (by8 (upl (nb a) (fun j => tb a j ^^^ tb b j) 0)) := hRw
  obtain ⟨F, HF⟩ : ∃ F : Nat → Nat, Hid (F = fun j => tb a j ^^^ tb b j) := ⟨_, rfl⟩
  rw [← HF.out] at hR0 hok hall HX
  go_enter Try.func18, Try.ntmps18
  go_wp2_with fail
  go_loopw [11] (fun i wr => ∃ k : Nat, k ≤ n ∧ i = .int .i64 k ∧ Row wr w.heap.size 1 w.heap.size n cp (by8 (upl (nb a) F k)) ∧ Below w.heap.size w wr) (fun i _ => n - (intOf i).toNat)
  case atStart => exact ⟨0, by omega, rfl, hR0, hbW⟩
  case round =>
    clear hR0 hRw hbW
    obtain ⟨k, hk, rfl, hB, hnx⟩ := hrel
    by_cases hlt : k < n
    · have d0 : decide ((k : Int) < (n : Int)) = true := by simp; omega
      have i1 : k < b.size := by omega
      have j0 : (k : Int) < (n : Int) := by omega
      have k0 : (0 : Int) ≤ (k : Int) := by omega
      have e2 := bt_nb b k i1
      have x1 := xor8 _ _ (tb_lt a k) (tb_lt b k)
      have HU : Hid (upl (nb a) F (k + 1) = (upl (nb a) F k).set k (tb a k ^^^ tb b k)) := by rw [HF.out]; rfl
      have hl := upl_length (nb a) F k
      have c1 := hB.get k _ (by8_get _ k (by rw [hl, hZl]; omega))
      rw [upl_here _ _ k k (Nat.le_refl _)] at c1
      have z1 := (hB.free k (by have := hB.le; omega)).2
      rw [Nat.zero_add] at z1
      rw [show (nb a).getD k 0 = tb a k from rfl] at c1
      generalize tb a k ^^^ tb b k = z at *
      generalize tb a k = x at *
      generalize tb b k = y at *
      generalize upl (nb a) F k = L at *
      go_wp2_with fail
      go_region
      go_wp2
      go_roundw
      case rel => exact ⟨k + 1, by omega, by go_num, by rw [HU.out, ← by8_set]; first | exact (hB.set k _ (by rw [by8_length, hl, hZl]; omega)) | exact (hB.set k _ (by rw [by8_length, hl, hZl]; omega)).drew, by first | exact (hnx.setCell (by simp) _) | exact (hnx.setCell (by simp) _).drew⟩
      case measure => simp [intOf]; omega
    · obtain rfl : k = n := by omega
      have d0 : decide ((k : Int) < (k : Int)) = false := by simp
      have hcn := conv_row hB (hok k)
      rw [hall, ← HX.out] at hcn
      go_wp2_with fail
      go_ret
      exact ⟨rfl, hnx⟩

set_option maxRecDepth 100000 in
set_option maxHeartbeats 1600000 in
theorem numbered_any (nonce : ByteArray) (hno : nonce.size = 12) (n : Nat) (hn : n < 4294967296) (w : World) :
    Calls Try.prog 27 #[.string nonce, .int .u32 n] w fun e w' => e = .returned (.string (tx (blk nonce n))) ∧ Below w.heap.size w w' := by
  have hlit : #[Value.int .u8 ((n : Int) / 16777216), Value.int .u8 ((n : Int) / 65536 % 256), Value.int .u8 ((n : Int) / 256 % 256), Value.int .u8 ((n : Int) % 256)] = (by8 (be4 n)).toArray := by
    have h0 : (n : Int) / 16777216 = ((n / 16777216 % 256 : Nat) : Int) := by omega
    have h1 : (n : Int) / 65536 % 256 = ((n / 65536 % 256 : Nat) : Int) := by omega
    have h2 : (n : Int) / 256 % 256 = ((n / 256 % 256 : Nat) : Int) := by omega
    have h3 : (n : Int) % 256 = ((n % 256 : Nat) : Int) := by omega
    rw [h0, h1, h2, h3]
    rfl
  have hcv : (convert 41 9 (.slice (some ⟨w.heap.size, 0, none⟩) 4 4)).run Try.prog (w.alloc (.cells #[Value.int .u8 ((n : Int) / 16777216), Value.int .u8 ((n : Int) / 65536 % 256), Value.int .u8 ((n : Int) / 256 % 256), Value.int .u8 ((n : Int) % 256)] 5)) = .ok (.string (tx (be4 n))) (w.alloc (.cells #[Value.int .u8 ((n : Int) / 16777216), Value.int .u8 ((n : Int) / 65536 % 256), Value.int .u8 ((n : Int) / 256 % 256), Value.int .u8 ((n : Int) % 256)] 5)) := by
    rw [hlit]
    exact ghs.conv_blk (Blk.new w 5 (by8 (be4 n)) _ rfl) rfl (be4_ok n) 4
  have HT : Hid (nonce ++ tx (be4 n) = tx (blk nonce n)) := by show _ = _; rw [blk, tx_app, tx_nb]
  have hX : Below w.heap.size w (w.alloc (.cells #[Value.int .u8 ((n : Int) / 16777216), Value.int .u8 ((n : Int) / 65536 % 256), Value.int .u8 ((n : Int) / 256 % 256), Value.int .u8 ((n : Int) % 256)] 5)) := (Below.refl _ _).alloc (Nat.le_refl _) _
  clear hlit
  have hT4 : (tx (be4 n)).size = 4 := by rw [tx_size]; rfl
  generalize tx (be4 n) = T at *
  generalize tx (blk nonce n) = T2 at *
  go_enter Try.func27, Try.ntmps27
  go_wp2_with fail
  go_ret
  exact ⟨by rw [← HT.out]; rfl, hX⟩
end Go.Proofs.Ytibdlccaenanmaa.gcm
