/-
  THE WALK OF 'xored' of the verifier's own package.
-/
import Derived.Test.YtjcgodojbpfooaaPlainGhashText
import Derived.Test.YtjcgodojbpfooaaBlk
import Derived.Test.YtjcgodojbpfooaaProg
import Derived.BigRegion
import Derived.OwnWalk
namespace Go.Proofs.Ytjcgodojbpfooaa.kx
open Go.RowKit
open Go.Proofs.Ytjcgodojbpfooaa.ghs

theorem infoU8 : (Try.prog.info? 5).map (fun i => (i.zero, i.size, i.bytes)) = some (some (.int .u8 0), 1, 1) := by kernel_rfl
/-- A block of bytes, as a text. -/
theorem conv_blk {w : World} {b t n : Nat} {l : List Nat} (h : Blk w b t (by8 l)) (hl : l.length = n) (ok : ∀ x ∈ l, x < 256) (cap : Nat) : (convert 49 9 (.slice (some ⟨b, 0, none⟩) n cap)).run Try.prog w = .ok (.string (tx l)) w := by
  have hl' : (l.map UInt8.ofNat).length = n := by rw [List.length_map]; exact hl
  subst hl'
  refine run_convert_bytes_back w 49 9 5 ⟨b, 0, none⟩ cap (l.map UInt8.ofNat) Try.underlying49 Try.underlying5 Try.underlying9 fun j hj => ?_
  rw [List.length_map] at hj
  rw [Addr.add_mid, Nat.zero_add]
  refine (h.cell j _ (by8_get l j hj)).trans ?_
  rw [List.getElem_map, List.getD_eq_getElem?_getD, List.getElem?_eq_getElem hj, UInt8.toNat_ofNat_of_lt' (by have := ok _ (List.getElem_mem hj); have : UInt8.size = 256 := rfl; omega)]
  rfl
theorem own_blk {w : World} {B e g n : Nat} {xs : List Value} (h : w.ownsRow B e 1 (.slice (some ⟨g, 0, none⟩) n n) n xs) : Blk w g e xs := by
  obtain ⟨hl, ⟨h0, _⟩ | ⟨g', cap', cur, hv, hB, hg, hn, hm, hc, ht⟩⟩ := h
  · cases h0
  · injection hv with e1 e2 e3
    injection e1 with e1
    injection e1 with e1
    subst e1 e3
    rw [List.take_of_length_le (by simp; omega)] at ht
    unfold Blk
    rw [hg, ← ht]
theorem made_by8 (n : Nat) : (madeCells (Value.int .u8 0).cells (n * 1)).toList = by8 (List.replicate n 0) := by
  have : (Value.int .u8 0).cells = #[Value.int .u8 0] := rfl
  rw [this, Nat.mul_one, toList_madeCells_one, by8, List.map_replicate]
  rfl
theorem xor8 (a b : Nat) (ha : a < 256) (hb : b < 256) : bits .xor .u8 (a : Int) (b : Int) = ((a ^^^ b : Nat) : Int) := by
  have hx : a ^^^ b < 2 ^ 8 := Nat.xor_lt_two_pow (by omega) (by omega)
  show IntKind.u8.wrap ((BitVec.ofInt 8 (a : Int) ^^^ BitVec.ofInt 8 (b : Int)).toNat : Int) = _
  rw [BitVec.toNat_xor, BitVec.ofInt_natCast, BitVec.ofInt_natCast, BitVec.toNat_ofNat, BitVec.toNat_ofNat, Nat.mod_eq_of_lt (by omega : a < 2 ^ 8), Nat.mod_eq_of_lt (by omega : b < 2 ^ 8)]
  simp [IntKind.wrap, IntKind.bits, IntKind.signed]
  omega

set_option maxRecDepth 100000 in
set_option maxHeartbeats 1600000 in
theorem xored_any (a b : ByteArray) (n : Nat) (ha : a.size = n) (hb : b.size = n) (hn : n ≤ 140737488355328) (w : World) :
    Calls Try.prog 30 #[.string a, .string b] w fun e w' => e = .returned (.string (xo a b)) ∧ Below w.heap.size w w' := by
  obtain ⟨i0, hi, hz0, hz1, hz2⟩ := info_parts infoU8
  have hga := PlainAid.get_bt a
  have hgb := PlainAid.get_bt b
  have za : (a.size : Int) = (n : Int) := by omega
  have zb : (b.size : Int) = (n : Int) := by omega
  obtain ⟨F, HF⟩ : ∃ F : Nat → Nat, Hid (F = fun j => tb a j ^^^ tb b j) := ⟨_, rfl⟩
  go_enter Try.func30, Try.ntmps30
  go_wp2_with (at_make; refine wpList_make_full _ rfl _ _ 49 rfl w.heap.size 5 i0 (.int .u8 0) 1 Try.underlying49 hi hz0 hz1 _ _ _ _ n rfl rfl rfl rfl (by rw [hz2]; omega) (by unfold maxLen; omega) (Nat.le_refl _) ?_; intro w1 hown0 hgr0)
  rw [made_by8] at hown0
  have hB0 := own_blk hown0
  have hX0 : Below w.heap.size w w1 := (Below.refl _ _).grown hgr0 (Nat.le_refl _) (fun k hk => by cases hk)
  have hZl : (List.replicate n 0).length = n := List.length_replicate
  generalize (List.replicate n 0 : List Nat) = Z at *
  clear hown0 hgr0
  go_loopw [15] (fun i wr => ∃ k : Nat, k ≤ n ∧ i = .int .i64 k ∧ Blk wr w.heap.size 5 (by8 (upl Z F k)) ∧ Below w.heap.size w wr) (fun i _ => n - (intOf i).toNat)
  case atStart => exact ⟨0, by omega, rfl, hB0, hX0⟩
  case round =>
    clear hB0 hX0
    obtain ⟨k, hk, rfl, hB, hnx⟩ := hrel
    by_cases hlt : k < n
    · have d0 : decide ((k : Int) < (n : Int)) = true := by simp; omega
      have i0 : k < a.size := by omega
      have i1 : k < b.size := by omega
      have j0 : (k : Int) < (n : Int) := by omega
      have k0 : (0 : Int) ≤ (k : Int) := by omega
      have e1 := bt_nb a k i0
      have e2 := bt_nb b k i1
      have x1 := xor8 _ _ (tb_lt a k) (tb_lt b k)
      have HU : Hid (upl Z F (k + 1) = (upl Z F k).set k (tb a k ^^^ tb b k)) := by rw [HF.out]; rfl
      have hl := upl_length Z F k
      have c1 := hB.cell k _ (by8_get _ k (by rw [hl, hZl]; omega))
      have z1 := hB.frozen k
      generalize tb a k ^^^ tb b k = z at *
      generalize tb a k = x at *
      generalize tb b k = y at *
      generalize upl Z F k = L at *
      generalize L.getD k 0 = o1 at *
      go_wp2_with fail
      go_region
      go_wp2
      go_roundw
      case rel => exact ⟨k + 1, by omega, by go_num, by rw [HU.out, ← by8_set]; exact hB.set k _, (hnx.setCell (by simp) _).drew⟩
      case measure => simp [intOf]; omega
    · obtain rfl : k = n := by omega
      have d0 : decide ((k : Int) < (k : Int)) = false := by simp
      rw [upl_all Z F k hZl] at hB
      have hmk : mkl k F = mkl a.size fun j => tb a j ^^^ tb b j := by rw [HF.out, ha]
      have hcv := conv_blk hB (mkl_length k F) (by rw [hmk]; exact xo_ok a b) k
      obtain ⟨T, HT⟩ : ∃ T, Hid (T = xo a b) := ⟨_, rfl⟩
      rw [show tx (mkl k F) = T from by rw [HT.out, hmk]; rfl] at hcv
      clear hmk
      go_wp2_with fail
      go_ret
      exact ⟨by rw [← HT.out]; rfl, hnx⟩
end Go.Proofs.Ytjcgodojbpfooaa.kx
