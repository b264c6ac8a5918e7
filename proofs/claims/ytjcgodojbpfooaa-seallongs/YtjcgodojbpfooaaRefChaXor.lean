/-
  THE WALK OF the document's ChachaXor.
-/
import Derived.Test.YtjcgodojbpfooaaRefChaFace
namespace Go.Proofs.Ytjcgodojbpfooaa.cha
open Go.RowKit
open Go.Proofs.Ytjcgodojbpfooaa.soft
open Go.Proofs.Ytjcgodojbpfooaa.ghs (bt_nb tb tb_lt tb_tx mkl mkl_length mkl_get mkl_succ mkl_congr tx_ext)

theorem mkl_add (a b : Nat) (f : Nat → Nat) : mkl (a + b) f = mkl a f ++ mkl b (fun i => f (a + i)) := by
  induction b with
  | zero => rw [Nat.add_zero]; exact (List.append_nil _).symm
  | succ b ih => rw [← Nat.add_assoc, mkl_succ, ih, mkl_succ, List.append_assoc]
theorem mkl_nb (s : ByteArray) : mkl s.size (tb s) = nb s :=
  tx_ext (by rw [mkl_length, nb_length]) fun i hi => by
    rw [mkl_length] at hi
    rw [mkl_get _ _ _ hi]
    rfl
/-- The stream's first blocks. -/
def stm (key nonce : ByteArray) (n j : Nat) : ByteArray := tx (mkl (64 * j) (str key nonce n))
theorem stm_size (key nonce : ByteArray) (n j : Nat) : (stm key nonce n j).size = 64 * j := by rw [stm, tx_size, mkl_length]
theorem stm_succ (key nonce : ByteArray) (n j : Nat) : stm key nonce n (j + 1) = stm key nonce n j ++ blk key nonce ((n + j) % 4294967296) := by
  have hb := mkl_nb (blk key nonce ((n + j) % 4294967296))
  rw [blk_size] at hb
  have e : mkl 64 (fun i => str key nonce n (64 * j + i)) = nb (blk key nonce ((n + j) % 4294967296)) :=
    (mkl_congr fun i hi => by rw [str, show (64 * j + i) / 64 = j from by omega, show (64 * j + i) % 64 = i from by omega]).trans hb
  rw [stm, stm, show 64 * (j + 1) = 64 * j + 64 from by omega, mkl_add, tx_app, e, tx_nb]
theorem stm_one (key nonce : ByteArray) {n : Nat} (hn : n < 4294967296) : blk key nonce n = stm key nonce n 1 := by
  rw [stm_succ, Nat.add_zero, Nat.mod_eq_of_lt hn]
  rw [show stm key nonce n 0 = ⟨#[]⟩ from by rw [stm, Nat.mul_zero]; rfl]
  apply ByteArray.ext
  simp
theorem tb_stm (key nonce : ByteArray) (n j i : Nat) (h : i < 64 * j) : tb (stm key nonce n j) i = str key nonce n i := by
  rw [stm, tb_tx _ (fun x hx => by
    obtain ⟨k, _, rfl⟩ := List.mem_map.1 hx
    exact str_lt _ _ _ _), mkl_get _ _ _ h]
def sLen : Value → Nat
  | .string s => s.size
  | _ => 0
set_option maxHeartbeats 800000 in
theorem rxor_bad (key nonce : ByteArray) (n : Nat) (s : ByteArray) (h : key.size ≠ 32 ∨ nonce.size ≠ 12) (w : World) :
    Calls Try.prog 25 #[.string key, .string nonce, .int .u32 n, .string s] w fun e w' => e = .returned (.tuple #[.string ⟨#[]⟩, .int .i64 1]) ∧ Below w.heap.size w w' := by
  have f1 := rblock_bad key nonce n h
  clear h
  go_enter Try.func25, Try.ntmps25
  go_wp2_with (go_at_call 39; (with_reducible refine (f1 _).mono ?_); rintro e w1 ⟨rfl, hb1⟩)
  go_ret2
  exact ⟨rfl, hb1⟩
set_option maxHeartbeats 800000 in
theorem rxor_large (key nonce : ByteArray) (n : Nat) (s : ByteArray) (hn : n < 4294967296) (h1 : key.size = 32) (h2 : nonce.size = 12) (hs : 2000 < s.size) (w : World) :
    Calls Try.prog 25 #[.string key, .string nonce, .int .u32 n, .string s] w fun e w' => e = .returned (.tuple #[.string ⟨#[]⟩, .int .i64 2]) ∧ Below w.heap.size w w' := by
  have f1 := rblock_good key nonce n hn h1 h2
  have t3 : decide ((s.size : Int) > 2000) = true := by simp; omega
  generalize blk key nonce n = B at *
  clear h1 h2 hs
  go_enter Try.func25, Try.ntmps25
  go_wp2_with (go_at_call 39; (with_reducible refine (f1 _).mono ?_); rintro e w1 ⟨rfl, hb1⟩)
  go_ret2
  exact ⟨rfl, hb1⟩
set_option maxRecDepth 100000 in
set_option maxHeartbeats 4000000 in
theorem rxor_good (key nonce : ByteArray) (n : Nat) (s : ByteArray) (hn : n < 4294967296) (h1 : key.size = 32) (h2 : nonce.size = 12) (hs : s.size ≤ 2000) (w : World) :
    Calls Try.prog 25 #[.string key, .string nonce, .int .u32 n, .string s] w fun e w' => e = .returned (.tuple #[.string (hid key nonce n s), .int .i64 0]) ∧ Below w.heap.size w w' := by
  have f0 := fun (j : Nat) => rblock_good key nonce ((n + j) % 4294967296) (Nat.mod_lt _ (by decide)) h1 h2
  have f1 := rblock_good key nonce n hn h1 h2
  rw [stm_one key nonce hn] at f1
  obtain ⟨N, hN⟩ : ∃ N, s.size = N := ⟨_, rfl⟩
  have hNs : (s.size : Int) = (N : Int) := by omega
  have t3 : decide ((N : Int) > 2000) = false := by simp; omega
  have HX : Hid (hid key nonce n s = tx (mkl N fun j => tb s j ^^^ str key nonce n j)) := by rw [← hN]; rfl
  have hNb : N ≤ 2000 := by omega
  obtain ⟨R, HR⟩ : ∃ R, Hid (R = hid key nonce n s) := ⟨_, rfl⟩
  rw [← HR.out]
  have hss := stm_size key nonce n
  have HSS : Hid (∀ j, stm key nonce n (j + 1) = stm key nonce n j ++ blk key nonce ((n + j) % 4294967296)) := fun j => stm_succ key nonce n j
  have hfin := fun j (hj : N ≤ 64 * j) w => rxor_any s (stm key nonce n j) N hN (by rw [stm_size]; exact hj) (by omega) w
  have HF : Hid (∀ j, N ≤ 64 * j → tx (mkl N fun i => tb s i ^^^ tb (stm key nonce n j) i) = R) := fun j hj => by
    rw [HR.out, HX.out]
    congr 1
    exact mkl_congr fun i hi => by rw [tb_stm _ _ _ _ _ (by omega)]
  clear h1 h2 hs
  go_enter Try.func25, Try.ntmps25
  go_wp2_with (go_at_call 39; (with_reducible refine (f1 _).mono ?_); rintro e w1 ⟨rfl, hb1⟩)
  clear f1
  go_loopw [2, 10] (fun nv t wr => ∃ j : Nat, nv = .int .u32 (((n + j) % 4294967296 : Nat) : Int) ∧ t = .string (stm key nonce n (j + 1)) ∧ 64 * j ≤ N ∧ Below w.heap.size w wr) (fun _ t _ => N - sLen t)
  case atStart => exact ⟨0, by rw [Nat.add_zero, Nat.mod_eq_of_lt hn], by rw [Nat.zero_add], by omega, hb1⟩
  case round =>
    clear hb1
    obtain ⟨j, rfl, rfl, hj, hnx⟩ := hrel
    have sz := hss (j + 1)
    by_cases hlt : 64 * (j + 1) < N
    · have fb := f0 (j + 1)
      have HC : Hid (((n + j) % 4294967296 + 1) % 4294967296 = (n + (j + 1)) % 4294967296) := by show _ = _; omega
      have sB := blk_size key nonce ((n + (j + 1)) % 4294967296)
      have HU : Hid (stm key nonce n (j + 1 + 1) = stm key nonce n (j + 1) ++ blk key nonce ((n + (j + 1)) % 4294967296)) := HSS.out _
      obtain ⟨c, hc⟩ : ∃ c, c = (n + (j + 1)) % 4294967296 := ⟨_, rfl⟩
      rw [← hc] at HC HU sB fb
      have HD : Hid (c = (n + (j + 1)) % 4294967296) := hc
      clear hc
      obtain ⟨a, ha⟩ : ∃ a, a = (n + j) % 4294967296 := ⟨_, rfl⟩
      rw [← ha] at HC ⊢
      have e1 : ((a : Int) + 1) % 4294967296 = (c : Int) := by have := HC.out; omega
      obtain ⟨m, hm⟩ : ∃ m, m = 64 * (j + 1) := ⟨_, rfl⟩
      rw [← hm] at sz
      have d0 : decide ((m : Int) < (N : Int)) = true := by simp; omega
      have mb : m ≤ 2000 := by omega
      generalize blk key nonce c = B at *
      have HM : Hid (m = 64 * (j + 1)) := hm
      have hsz1 : (stm key nonce n (j + 1)).size = m := sz
      obtain ⟨T, hT⟩ : ∃ T, T = stm key nonce n (j + 1) := ⟨_, rfl⟩
      rw [← hT] at HU sz hsz1 ⊢
      have hmN : m < N := by omega
      clear ha hm hT f0 hss HSS hfin hlt hj
      go_wp2_with (go_at_call 39; (with_reducible refine (fb _).mono ?_); rintro e w2 ⟨rfl, hb2⟩)
      go_roundw
      case rel => exact ⟨j + 1, by rw [HD.out], by rw [HU.out], by have := HM.out; omega, hnx.trans (hb2.mono hnx.size)⟩
      case measure => simp [sLen, sB, sz]; omega
    · have hf := hfin (j + 1) (by omega)
      rw [HF.out (j + 1) (by omega)] at hf
      obtain ⟨m, hm⟩ : ∃ m, m = 64 * (j + 1) := ⟨_, rfl⟩
      rw [← hm] at sz
      have d0 : decide ((m : Int) < (N : Int)) = false := by simp; omega
      have mb : m ≤ 4000 := by omega
      generalize stm key nonce n (j + 1) = T at *
      have hmN : ¬ m < N := by omega
      clear hm hfin f0 hlt
      go_wp2_with (go_at_call 40; (with_reducible refine (hf _).mono ?_); rintro e w2 ⟨rfl, hb2⟩)
      go_ret2
      exact ⟨rfl, hnx.trans (hb2.mono hnx.size)⟩
end Go.Proofs.Ytjcgodojbpfooaa.cha
